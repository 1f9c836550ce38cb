/-
  Calls of Xor as rows; RFC 8439's block; what is handed in. Own work.
-/
import Derived.Test.YtakegcfpbacefaaQi
import Derived.OpenShut
namespace Go.Proofs.Ytakegcfpbacefaa
open Go.Sh
open Go.ChangeShapes Go.WideShapes Go.ChangeAt Go.RowKit
set_option maxRecDepth 100000

theorem own : ownKnob Try.prog.godebug = none := by kernel_rfl
theorem cells1 : Try.prog.cellsOf 5 = 1 := by kernel_rfl
theorem laidOut : laidOutB Try.prog = true := by kernel_rfl
theorem aggI_of {k : IntKind} {n : Nat} {zs : List Int} (h : zs.length = n) : Value.agg (zs.map (Value.int k)).toArray = aggI k n fun j => zs.getD j 0 := by
  subst h
  unfold aggI
  congr 2
  refine List.ext_getElem? fun j => ?_
  rw [List.getElem?_map, List.getElem?_map]
  by_cases hj : j < zs.length
  · rw [List.getElem?_eq_getElem hj, List.getElem?_range hj]
    simp [hj]
  · rw [List.getElem?_eq_none (by omega), List.getElem?_eq_none (by simpa using hj)]
    rfl
/-- A law's body, evaluated, as a row that says yes. -/
theorem law_rowT {ν : Nat → Int} {F : Facts} {T : List Row} {TM : List RowM} {need : Gl} {f n : Nat} {args : List AV} (hn : gmax ≤ n) (hF : F.Hold ν) (hT : ∀ r ∈ T, r.Ok ν Try.prog) (hTM : ∀ r ∈ TM, r.Ok ν Try.prog []) (h : saysB F tree T [] [] TM need n 60 4 f args (.b true) = true) (hneed : ∀ p ∈ need, p.1 < n ∧ p.2.elem ≠ mapTag ∧ ∃ us, ∀ ν, concL ν p.2.cells = some us) (hin : args.all (inB need) = true) : RowM.Ok ν Try.prog [] ⟨f, args, need, [.v (.b true)]⟩ :=
  rowM_of (res := [.b true]) (us := [.bool true]) hF mixed tab_ok gl0_ok hT (fun r hr => by cases hr) hTM h hn (fun p hp => ⟨(hneed p hp).1, (hneed p hp).2.1, let ⟨us, hu⟩ := (hneed p hp).2.2; ⟨us, hu ν⟩⟩) hin rfl rfl
theorem four_args {ν : Nat → Int} {ρ : Emb} {x y z t : AV} {vs : Array Value} (hl : LR ν ρ [x, y, z, t] vs) : ∃ a b c d, vs = #[a, b, c, d] ∧ VR ν ρ x a ∧ VR ν ρ y b ∧ VR ν ρ z c ∧ VR ν ρ t d := by
  have hlen : vs.size = 4 := by rw [← hl.1]; rfl
  obtain ⟨a, b, c, d, rfl⟩ : ∃ a b c d, vs = #[a, b, c, d] := by
    match vs, hlen with
    | ⟨[a, b, c, d]⟩, _ => exact ⟨a, b, c, d, rfl⟩
  exact ⟨a, b, c, d, rfl, hl.2 0 _ a rfl rfl, hl.2 1 _ b rfl rfl, hl.2 2 _ c rfl rfl, hl.2 3 _ d rfl rfl⟩
theorem xorW_congr {K K' Nn Nn' : Wd} {c c' : Int} {z z' : Wd} (hK : ∀ j, j < 32 → K j = K' j) (hc : c = c') (hN : ∀ j, j < 12 → Nn j = Nn' j) {j : Nat} (hz : z j = z' j) : xorW K c Nn z j = xorW K' c' Nn' z' j := by
  subst hc
  unfold xorW
  rw [hz, blkI_congr hK hN (Nat.mod_lt _ (by decide))]
def at1' (b : Nat) (pl : Option Pl) : Nat → Option Pl := fun x => if x = b then pl else none
def XorC (f : Nat) : Prop := (∃ fn, Try.prog.funcs[f]? = some fn ∧ fn.body.isSome = true ∧ (fn.name == "runtime.NumGoroutine") = false) ∧ ∀ {w : World} {cb o cp n : Nat} {K Nn z : Wd} {c : Int}, 0 < n → n ≤ cp → CellsAt w .u8 cb o n z → n < 1000000000000 →
    Calls Try.prog f #[aggI .u8 32 K, .int .u32 c, aggI .u8 12 Nn, .slice (some ⟨cb, o, none⟩) n cp] w fun e w' => ∃ u, e = .returned u ∧ Padded w w' u n (xorW K c Nn z) ∧ Below w.heap.size w w'
theorem xorC : XorC 10 := ⟨fn_there (g := t10) (by kernel_rfl), fun h0 hle hz hn => Xor_ok h0 hle hz hn⟩
theorem pxorC : XorC 11 := ⟨fn_there (g := t11) (by kernel_rfl), fun h0 hle hz hn => PXor_ok h0 hle hz hn⟩
def rowXor (f : Nat) (ka no : Nat → AI) (ct : AI) (x : AV) (need : Gl) (T : Nat) : RowM := ⟨f, [.ag (rowC .u8 ka 32), .i .u32 ct, .ag (rowC .u8 no 12), x], need, [.new T]⟩
theorem rowXor_ok {f : Nat} (hf : XorC f) {ν : Nat → Int} {ka no : Nat → AI} {ct : AI} {x : AV} {need : Gl} {T n : Nat} {z : Wd} (hx : IsText ν need x n z) (h0 : 0 < n) (hn : n < 1000000000000) (hT : mapTag < T ∧ T ≤ winTag) (hK : pinK T = .u8) (hL : ν (pinL T) = (n : Int))
    (hB : ∀ j, j < n → ν (pinB T j) = xorW (fun j => (ka j).val ν) (ct.val ν) (fun j => (no j).val ν) z j) : (rowXor f ka no ct x need T).Ok ν Try.prog [] := by
  refine ⟨hf.1, fun ρ w vs hw hnd hl => ?_⟩
  obtain ⟨a, b, c, d, rfl, ha, hb, hc, hd⟩ := four_args hl
  have e1 : conc2 ν (.ag (rowC .u8 ka (31 + 1))) = _ := conc2_row .u8 ka 31
  have e2 : conc2 ν (.ag (rowC .u8 no (11 + 1))) = _ := conc2_row .u8 no 11
  rw [(conc2_vr e1).2 a ha, (conc2_vr e2).2 c hc]
  cases hb
  rcases hx ρ w d hnd hd with ⟨h, _⟩ | ⟨_, cb, o, cp, rfl, hle, hz⟩
  · omega
  refine (hf.2 h0 hle hz hn).mono fun e w' ⟨u, he, ⟨cb', o', c', hr, hc, hcb, C, ty, fz, hC, hzz⟩, hBw⟩ => ⟨[u], he, ⟨⟨hT, cb', o', n, c', hr, hc, hL, hcb, C, ty, fz, hC, fun j hj => ?_⟩, trivial⟩, hBw⟩
  have hj : (j : Int) < ν (pinL T) := hj
  rw [hL] at hj
  rw [hK, hB j (by omega)]
  exact hzz j (by omega)
theorem wk_go : says noFacts tree [] 300 6 12 [] (heap0 [] gmax) (.b true) = true := by kernel_rfl
theorem wakes_ok : Pure Try.prog 12 [] (.bool true) :=
  pure_of (none_f fun _ => 0) mixed tab_ok (fun r hr => by cases hr) wk_go rfl rfl
def rowWk : Row := ⟨12, [], .b true⟩
theorem rowWk_ok {ν : Nat → Int} : rowWk.Ok ν Try.prog := ⟨[], .bool true, rfl, rfl, wakes_ok⟩
end Go.Proofs.Ytakegcfpbacefaa
