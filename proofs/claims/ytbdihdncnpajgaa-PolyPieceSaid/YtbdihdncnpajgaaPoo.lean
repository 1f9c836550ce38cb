/-
  Calls of Tag as rows; of nothing; RFC 8439's tag; what is handed in. Own work.
-/
import Derived.Test.YtbdihdncnpajgaaPon
import Derived.OpenShut
namespace Go.Proofs.Ytbdihdncnpajgaa
open Go.Sh
open Go.ChangeShapes Go.WideShapes Go.ChangeAt Go.RowKit
set_option maxRecDepth 100000

theorem own : ownKnob Try.prog.godebug = none := by kernel_rfl
theorem cells1 : Try.prog.cellsOf 5 = 1 := by kernel_rfl
theorem laidOut : laidOutB Try.prog = true := by kernel_rfl
theorem aggI_of {k : IntKind} {n : Nat} {zs : List Int} (h : zs.length = n) : Value.agg (zs.map (Value.int k)).toArray = aggI k n fun j => zs.getD j 0 := by
  subst h
  unfold aggI
  congr 2
  refine List.ext_getElem? fun j => ?_
  rw [List.getElem?_map, List.getElem?_map]
  by_cases hj : j < zs.length
  · rw [List.getElem?_eq_getElem hj, List.getElem?_range hj]
    simp [hj]
  · rw [List.getElem?_eq_none (by omega), List.getElem?_eq_none (by simpa using hj)]
    rfl
/-- A law's body, evaluated, as a row that says yes. -/
theorem law_rowT {ν : Nat → Int} {F : Facts} {T : List Row} {TM : List RowM} {need : Gl} {f n : Nat} {args : List AV} (hn : gmax ≤ n) (hF : F.Hold ν) (hT : ∀ r ∈ T, r.Ok ν Try.prog) (hTM : ∀ r ∈ TM, r.Ok ν Try.prog []) (h : saysB F tree T [] [] TM need n 60 4 f args (.b true) = true) (hneed : ∀ p ∈ need, p.1 < n ∧ p.2.elem ≠ mapTag ∧ ∃ us, ∀ ν, concL ν p.2.cells = some us) (hin : args.all (inB need) = true) : RowM.Ok ν Try.prog [] ⟨f, args, need, [.v (.b true)]⟩ :=
  rowM_of (res := [.b true]) (us := [.bool true]) hF mixed tab_ok gl0_ok hT (fun r hr => by cases hr) hTM h hn (fun p hp => ⟨(hneed p hp).1, (hneed p hp).2.1, let ⟨us, hu⟩ := (hneed p hp).2.2; ⟨us, hu ν⟩⟩) hin rfl rfl
def at1' (b : Nat) (pl : Option Pl) : Nat → Option Pl := fun x => if x = b then pl else none
/-! of nothing -/
def emZ (n : Nat) : Now := ⟨[(4, .p 65 0)], [(65, ⟨rowC .u8 (tgA zeroA) 16, e16, true⟩)], n⟩
def oeA (i : Nat) : AI := eA .add .u32 (.c 0) (cA .u32 (.s (16 + i)))
def ouA (i : Nat) : AI := cA .u8 (chA (.c 0) oeA i)
def emP (n : Nat) : Now := ⟨[(4, .p 65 0)], [(65, ⟨rowC .u8 ouA 16, e16, true⟩)], n⟩
def emI (x : AV) : Now := ⟨[(0, kyS), (1, x)], [], 64⟩
theorem em_go1 : goesX noFacts tree [] [] [] [] [] 300 4 tp (emI .nsl) .ret (emZ 74) = true := by kernel_rfl
theorem em_go2 : goesX noFacts tree [] [] [] [] [] 300 4 tp (emI (.sle false)) .ret (emZ 74) = true := by kernel_rfl
theorem em_go3 : goesX noFacts tree [] [] [] [] [] 300 4 pg (emI .nsl) .ret (emP 69) = true := by kernel_rfl
theorem em_go4 : goesX noFacts tree [] [] [] [] [] 300 4 pg (emI (.sle false)) .ret (emP 69) = true := by kernel_rfl
theorem em_resZ : resA (trL (emZ 74).e) (heapL ((emZ 74).H ++ []) 74) [.c 4 (some 16)] = some (.ag (rowC .u8 (tgA zeroA) 16)) := by kernel_rfl
theorem em_resP : resA (trL (emP 69).e) (heapL ((emP 69).H ++ []) 69) [.c 4 (some 16)] = some (.ag (rowC .u8 ouA 16)) := by kernel_rfl
theorem em_gen {f N : Nat} {ic : IC} {x : AV} {g : Nat → AI} {o : Now} {w : World} {u : Value} {K V : Wd} (hf : tree.get f = some ⟨ic, [.c 4 (some 16)], N⟩) (hN : 2 ≤ N) (hgo : goesX noFacts tree [] [] [] [] [] 300 4 ic (emI x) .ret o = true)
    (hres : resA (trL o.e) (heapL (o.H ++ []) o.n) [.c 4 (some 16)] = some (.ag (rowC .u8 g 16))) (hg : ∀ j, j < 16 → (g j).val K = V j) (hx : ∀ ρ, VR K ρ x u) :
    Calls Try.prog f #[aggI .u8 32 K, u] w fun e w' => e = .returned (aggI .u8 16 V) ∧ Below w.heap.size w w' := by
  have start := holdsX_start (N := N) (ν := K) (L := []) (fx := []) (kp := []) (vs := #[aggI .u8 32 K, u]) (e0 := (emI x).e) (H0 := []) (n0 := 64) gl0_ok (w := w) (fun p hp => by cases hp) (fun _ => none) hN (by decide) (fun _ _ => rfl) (fun p hp => by cases hp)
    (fun p hp => by
      simp only [emI, List.mem_cons, List.not_mem_nil, or_false] at hp
      rcases hp with rfl | rfl
      · exact ⟨_, rfl, (conc2_vr (keyS_val fun j _ => rfl)).1⟩
      · exact ⟨_, rfl, hx _⟩)
    (fun p hp => by cases hp) (fun p hp => by cases hp)
  refine (callsX (L := []) (gl := []) (Q := fun v w' => v = aggI .u8 16 V ∧ Below w.heap.size w w') tab_ok hf rfl start ?_).2.mono fun e w' ⟨v, he, hv, hB⟩ => ⟨by rw [he, hv], hB⟩
  refine (Tri.runX (L := []) (none_f _) mixed tab_ok gl0_ok (fun r hr => by cases hr) (fun r hr => by cases hr) (fun r hr => by cases hr) (fun r hr => by cases hr) hgo).weak (fun _ _ h => h) fun ex a w' h => ⟨.inr h.1, _, o, .ag (rowC .u8 g 16), [], [], h.2, hres, fun ρ v _ _ _ hB hv => ⟨?_, ⟨hB.os, hB.tape, hB.output, hB.size, fun k hk => hB.block k hk fun p hp => by cases hp⟩⟩⟩
  refine (conc2_vr ?_).2 v hv
  show conc2 _ (.ag (rowC .u8 g (15 + 1))) = _
  rw [conc2_row]
  exact congrArg some (aggI_congr hg)
section
variable {K z : Wd} {k zz : Nat → Nat} {n : Nat}
theorem tag0 (i : Nat) : tagN k 0 zz i = dv (fun j => k (16 + j)) 16 / 256 ^ i % 256 := by
  show (0 + _) / 256 ^ i % 256 = _
  rw [Nat.zero_add]
theorem em_Z (hK : ∀ j, j < 32 → K j = (k j : Int) ∧ k j < 256) {i : Nat} (hi : i < 16) : (tgA zeroA i).val K = (tagN k 0 zz i : Int) := by
  have h := tg_num (a := fun _ => 0) (K := K) (l := ⟨0, 0, 0, 0, 0⟩) (s := fun j => k (16 + j)) rfl (by unfold B5; decide) (fun j hj => hK (16 + j) (by omega)) hi
  rw [tgA_val, tag0]
  refine Eq.trans ?_ (h.trans ?_)
  · rfl
  · refine congrArg (fun n : Nat => (n : Int)) ?_
    show (0 + _) / 256 ^ i % 256 = _
    rw [Nat.zero_add]
theorem em_P (hK : ∀ j, j < 32 → K j = (k j : Int) ∧ k j < 256) {i : Nat} (hi : i < 16) : (ouA i).val K = (tagN k 0 zz i : Int) := by
  have hv : ∀ j, j < 16 → (oeA j).val K = (k (16 + j) : Int) ∧ k (16 + j) < 16777216 := fun j hj => by
    obtain ⟨h1, h2⟩ := hK (16 + j) (by omega)
    refine ⟨?_, by omega⟩
    unfold oeA
    rw [eA_val, cA_val]
    show arith .add .u32 ((0 : Nat) : Int) (IntKind.u32.wrap (K (16 + j))) = _
    rw [h1, w_u32, Nat.mod_eq_of_lt (show k (16 + j) < 4294967296 by omega), addW _ _ (by omega), Nat.zero_add]
  unfold ouA
  rw [cA_val, (ch_num (m := 16) (cn := 0) (v := fun j => k (16 + j)) rfl (by decide) hv i hi).1, w_u8, tag0]
  refine congrArg (fun n : Nat => (n : Int)) ?_
  have := dg_at 0 (fun j => k (16 + j)) hi
  rw [Nat.zero_add] at this
  exact this
end
/-- WHAT A TAG'S CALL ANSWERS. -/
def TagC (f : Nat) : Prop := (∃ fn, Try.prog.funcs[f]? = some fn ∧ fn.body.isSome = true ∧ (fn.name == "runtime.NumGoroutine") = false) ∧ ∀ {w : World} {u : Value} {n : Nat} {K z : Wd} {k zz : Nat → Nat}, (∀ j, j < 32 → K j = (k j : Int) ∧ k j < 256) → (∀ j, j < n → z j = (zz j : Int) ∧ zz j < 256) → TextAt w u n z → n < 1000000000000 →
    Calls Try.prog f #[aggI .u8 32 K, u] w fun e w' => e = .returned (aggI .u8 16 fun i => (tagN k n zz i : Int)) ∧ Below w.heap.size w w'
theorem tagC : TagC 8 := ⟨fn_there (g := t8) (by kernel_rfl), fun {w u n K z k zz} hK hz ht hn => by
  rcases ht with ⟨rfl, rfl | ⟨a, c, rfl⟩⟩ | ⟨h0, cb, o, cp, rfl, hle, hc⟩
  · exact em_gen (N := 56) (by kernel_rfl) (by decide) em_go1 em_resZ (fun j hj => em_Z hK hj) fun ρ => .nsl
  · exact em_gen (N := 56) (by kernel_rfl) (by decide) em_go2 em_resZ (fun j hj => em_Z hK hj) fun ρ => .sle _ _ _ (fun h => by cases h)
  · refine (Tag_ok h0 hle hc hn).mono fun e w' ⟨he, hB⟩ => ⟨?_, hB⟩
    rw [he]
    exact congrArg _ (aggI_congr fun j hj => tag_num hK hz hj)⟩
theorem ptagC : TagC 9 := ⟨fn_there (g := t9) (by kernel_rfl), fun {w u n K z k zz} hK hz ht hn => by
  rcases ht with ⟨rfl, rfl | ⟨a, c, rfl⟩⟩ | ⟨h0, cb, o, cp, rfl, hle, hc⟩
  · exact em_gen (N := 128) (by kernel_rfl) (by decide) em_go3 em_resP (fun j hj => em_P hK hj) fun ρ => .nsl
  · exact em_gen (N := 128) (by kernel_rfl) (by decide) em_go4 em_resP (fun j hj => em_P hK hj) fun ρ => .sle _ _ _ (fun h => by cases h)
  · exact PTag_ok hK hz h0 hle hc hn⟩
def rowTag (f : Nat) (ka : Nat → AI) (x : AV) (need : Gl) (g : Nat → AI) : RowM := ⟨f, [.ag (rowC .u8 ka 32), x], need, [.v (.ag (rowC .u8 g 16))]⟩
theorem rowTag_ok {f : Nat} (hf : TagC f) {ν : Nat → Int} {ka g : Nat → AI} {x : AV} {need : Gl} {n : Nat} {z : Wd} {k zz : Nat → Nat} (hK : ∀ j, j < 32 → (ka j).val ν = (k j : Int) ∧ k j < 256) (hz : ∀ j, j < n → z j = (zz j : Int) ∧ zz j < 256) (hx : IsText ν need x n z) (hn : n < 1000000000000)
    (hg : ∀ j, j < 16 → (g j).val ν = (tagN k n zz j : Int)) : (rowTag f ka x need g).Ok ν Try.prog [] := by
  refine ⟨hf.1, fun ρ w vs hw hnd hl => ?_⟩
  obtain ⟨a, u, rfl, ha, hu⟩ := two_args hl
  have e1 : conc2 ν (.ag (rowC .u8 ka (31 + 1))) = _ := conc2_row .u8 ka 31
  rw [(conc2_vr e1).2 a ha]
  exact (hf.2 hK hz (hx ρ w u hnd hu) hn).mono fun e w' ⟨he, hB⟩ => ⟨[_], he, packR (m := 15) hg, hB⟩
/-! names of a law -/
def nuW (lo : Nat → Int) (n : Nat) (zz : Nat → Nat) : Nat → Int := nuR lo (fun _ => n) (fun _ => n) (fun _ j => (zz j : Int))
theorem nuW_L {lo : Nat → Int} {n t : Nat} {zz : Nat → Nat} (ht : 0 < t) : nuW lo n zz (pinL (tg t)) = (n : Int) := nuR_L ht
theorem nuW_B {lo : Nat → Int} {n t j : Nat} {zz : Nat → Nat} (ht : 0 < t) (hj : j < 1099511627774) : nuW lo n zz (pinB (tg t) j) = (zz j : Int) := nuR_B ht hj
theorem pn_need : ∀ p ∈ [pn 64 2], p.1 < 65 ∧ p.2.elem ≠ mapTag ∧ ∃ us, ∀ ν, concL ν p.2.cells = some us := fun p hp => by
  simp only [List.mem_cons, List.not_mem_nil, or_false] at hp
  subst hp
  exact ⟨by decide, Nat.ne_of_gt (tgT (by decide) (by decide)).1, [], fun _ => rfl⟩
theorem wk_go : says noFacts tree [] 300 6 11 [] (heap0 [] gmax) (.b true) = true := by kernel_rfl
theorem wakes_ok : Pure Try.prog 11 [] (.bool true) :=
  pure_of (none_f fun _ => 0) mixed tab_ok (fun r hr => by cases hr) wk_go rfl rfl
def rowWk : Row := ⟨11, [], .b true⟩
theorem rowWk_ok {ν : Nat → Int} : rowWk.Ok ν Try.prog := ⟨[], .bool true, rfl, rfl, wakes_ok⟩
end Go.Proofs.Ytbdihdncnpajgaa
