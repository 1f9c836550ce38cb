/-
  sha.turn256: what it makes of eight words and a block. Own work.
-/
import Derived.Test.YtjdcaipgfolgoaaDoorSb
namespace Go.Proofs.YtjdcaipgfolgoaaDoor
open Go.Sh
open Go.ChangeShapes Go.WideShapes Go.RowKit
set_option maxRecDepth 100000

def k256L : List Nat := [1116352408, 1899447441, 3049323471, 3921009573, 961987163, 1508970993, 2453635748, 2870763221, 3624381080, 310598401, 607225278, 1426881987, 1925078388, 2162078206, 2614888103, 3248222580, 3835390401, 4022224774, 264347078, 604807628, 770255983, 1249150122, 1555081692, 1996064986, 2554220882, 2821834349, 2952996808, 3210313671, 3336571891, 3584528711, 113926993, 338241895, 666307205, 773529912, 1294757372, 1396182291, 1695183700, 1986661051, 2177026350, 2456956037, 2730485921, 2820302411, 3259730800, 3345764771, 3516065817, 3600352804, 4094571909, 275423344, 430227734, 506948616, 659060556, 883997877, 958139571, 1322822218, 1537002063, 1747873779, 1955562222, 2024104815, 2227730452, 2361852424, 2428436474, 2756734187, 3204031479, 3329325298]
def h256L : List Nat := [1779033703, 3144134277, 1013904242, 2773480762, 1359893119, 2600822924, 528734635, 1541459225]
def K256 : Wd := fun j => ((k256L.getD j 0 : Nat) : Int)
def H256 : Wd := fun j => ((h256L.getD j 0 : Nat) : Int)
def eV : Nat := 41
def gl256 : Gl := [(0, ⟨h256L.map fun n => .i .u32 (nA n), eV, true⟩), (2, ⟨k256L.map fun n => .i .u32 (nA n), eW, true⟩)]
theorem gl256_ok : GlOk gl256 := by
  intro p hp
  simp only [gl256, List.mem_cons, List.not_mem_nil, or_false] at hp
  rcases hp with rfl | rfl
  · exact ⟨by decide, by decide, h256L.map fun n => Value.int .u32 ((n : Nat) : Int), fun ν => by have := concT_map (ν := ν) .u32 (h256L.map nA); simpa [Function.comp_def, nA, AI.val] using this⟩
  · exact ⟨by decide, by decide, k256L.map fun n => Value.int .u32 ((n : Nat) : Int), fun ν => by have := concT_map (ν := ν) .u32 (k256L.map nA); simpa [Function.comp_def, nA, AI.val] using this⟩

/-! its pieces -/
def tu : IC := t26.body
def tuA : IC := tu.sub [false]
def tuB : IC := tu.sub [true, false]
def tuC : IC := tu.sub [true, true, false, false]
def tuR : IC := tu.sub [true, true, false, true, false, false]
def tuD : IC := tu.sub [true, true, true]
theorem tu_shape : t26 = ⟨.seq tuA (.seq tuB (.seq (.seq tuC (.block 0 (.loop tuR))) tuD)), [], 116⟩ := by kernel_rfl
def byT : ABlk := ⟨rowC .u8 (nmA 8) 64, 0, false⟩
def rowT : RowM := ⟨39, [.sl 65 0 (nA 64) .any], [(65, byT)], [.v (.ag (rowC .u32 (nmA 100) 64))]⟩
def hB (f : Nat → AI) : Nat × ABlk := (64, ⟨rowC .u32 f 8, 0, true⟩)
def wB : Nat × ABlk := (66, ⟨rowC .u32 (nmA 100) 64, eW, true⟩)
def tu0 : Now := ⟨[(0, .p 64 0), (1, .sl 65 0 (nA 64) .any)], [hB (nmA 0), (65, byT)], 66⟩
def tu1 : Now := ⟨[(0, .p 64 0), (4, .p 66 0)], [hB (nmA 0), (65, byT), wB], 67⟩
def tuN (f : Nat → AI) (l : List (Nat × AV)) : Now := ⟨l ++ [(0, .p 64 0), (4, .p 66 0), (5, .p 67 0)], [hB (nmA 0), (65, byT), wB, (67, ⟨rowC .u32 f 8, eV, true⟩)], 68⟩
def tuZ : Now := ⟨[], [hB fun j => adA p256 (nmA 0 j) (nmA 200 j)], 68⟩
theorem tu_goA : goesX noFacts tree [] gl256 [] [rowT] [] 60 2 tuA tu0 .normal tu1 = true := by kernel_rfl
theorem tu_goB : goesX noFacts tree [] gl256 [] [] [] 60 2 tuB tu1 .normal (tuN (nmA 0) []) = true := by kernel_rfl
theorem tu_goC : goesX noFacts tree [] gl256 [] [] [] 60 2 tuC (tuN (nmA 0) []) .normal (tuN (nmA 0) [(19, iN 0)]) = true := by kernel_rfl
noncomputable def tuGo (k : Nat) : Bool := goesX noFacts tree [] gl256 [] [] [] 60 3 tuR (tuN (nmA 200) [(19, iN k)]) .normal (tuN (rdA p256 (nA (k256L.getD k 0)) (100 + k) 200) [(19, iN (k + 1))])
theorem tu_goes : (List.range 64).all tuGo = true := by kernel_rfl
theorem tu_ends : goesX noFacts tree [] gl256 [] [] [] 60 3 tuR (tuN (nmA 200) [(19, iN 64)]) (.exit 0) (tuN (nmA 200) []) = true := by kernel_rfl
theorem tu_goD : goesX noFacts tree [] gl256 [] [] [] 60 3 tuD (tuN (nmA 200) []) .normal tuZ = true := by kernel_rfl

/-- The names: the words so far, the block's bytes, its words, the words at work. -/
def nuT (h m W v : Wd) : Nat → Int := two (two (two h 8 fun j => if j < 64 then m j else 0) 100 W) 200 v
theorem nuT_h {h m W v : Wd} {j : Nat} (hj : j < 8) : nuT h m W v j = h j := by
  unfold nuT
  rw [two_lo (by omega), two_lo (by omega), two_lo hj]
theorem nuT_m {h m W v : Wd} {j : Nat} (hj : j < 64) : nuT h m W v (8 + j) = m j := by
  unfold nuT
  rw [two_lo (by omega), two_lo (by omega), two_hi, if_pos hj]
theorem nuT_W {h m W v : Wd} {j : Nat} (hj : j < 100) : nuT h m W v (100 + j) = W j := by
  unfold nuT
  rw [two_lo (by omega), two_hi]
theorem nuT_v {h m W v : Wd} (j : Nat) : nuT h m W v (200 + j) = v j := two_hi j
section
variable {w0 : World} {h m W : Wd} {L fx : List (Nat × Pl)} {kp : List (Nat × Obj)}
theorem tget64 (f : Nat → AI) : (heapL ((tuN f []).H ++ gl256) 68).get 64 = some (hB (nmA 0)).2 := by kernel_rfl
theorem tget65 (f : Nat → AI) : (heapL ((tuN f []).H ++ gl256) 68).get 65 = some byT := by kernel_rfl
theorem tget66 (f : Nat → AI) : (heapL ((tuN f []).H ++ gl256) 68).get 66 = some wB.2 := by kernel_rfl
theorem tget67 (f : Nat → AI) : (heapL ((tuN f []).H ++ gl256) 68).get 67 = some ⟨rowC .u32 f 8, eV, true⟩ := by kernel_rfl
theorem tu_named {f : Nat → AI} {v v' : Wd} {t : Nat} {a : Act} {w : World} (hfx : ∀ p ∈ fx, p.1 < 68) (hh : HoldsX 116 w0 (nuT h m W v) gl256 L fx kp (tuN f [(19, iN t)]) a w) (hf : ∀ j, j < 8 → (f j).val (nuT h m W v) = v' j) : HoldsX 116 w0 (nuT h m W v') gl256 L fx kp (tuN (nmA 200) [(19, iN t)]) a w := by
  refine renumX (P := Tryd.prog) gl256_ok hh (by decide) hfx (fun p hp => ⟨p.2, hp, ?_⟩) fun p hp => ?_
  · simp only [List.mem_append, List.mem_cons, List.not_mem_nil, or_false] at hp
    rcases hp with rfl | rfl | rfl | rfl
    · exact SlotTo.conc (u := .int .i64 t) rfl rfl
    · exact SlotTo.p _ (by decide) rfl
    · exact SlotTo.p _ (by decide) rfl
    · exact SlotTo.p _ (by decide) rfl
  · simp only [List.mem_cons, List.not_mem_nil, or_false] at hp
    rcases hp with rfl | rfl | rfl | rfl
    · exact ⟨by decide, by decide, _, tget64 f, rfl, blkTo_row (by decide) fun j hj => by simp only [nmA, Nat.zero_add, AI.val]; rw [nuT_h hj, nuT_h hj]⟩
    · exact ⟨by decide, by decide, _, tget65 f, rfl, blkTo_row (by decide) fun j hj => (nuT_m hj).trans (nuT_m hj).symm⟩
    · exact ⟨by decide, by decide, _, tget66 f, rfl, blkTo_row eW_lt fun j hj => (nuT_W (by omega)).trans (nuT_W (by omega)).symm⟩
    · exact ⟨by decide, by decide, _, tget67 f, rfl, blkTo_row (by decide) fun j hj => (hf j hj).trans (nuT_v j).symm⟩
theorem rdA_val (kc : Nat) {v : Wd} {t : Nat} (ht : t < 100) (j : Nat) : (rdA p256 (nA kc) (100 + t) 200 j).val (nuT h m W v) = rdI p256 kc (W t) v j := by
  have e := fun i => nuT_v (h := h) (m := m) (W := W) (v := v) i
  have ew : nuT h m W v (100 + t) = W t := nuT_W ht
  have e0 : nuT h m W v 200 = v 0 := e 0
  have k1 : (t1A p256 (nA kc) (100 + t) 200).val (nuT h m W v) = t1I p256 kc (W t) v := by
    show adI p256 (adI p256 (adI p256 (adI p256 (nuT h m W v (200 + 7)) (gtI p256 p256.g1 (nuT h m W v (200 + 4)))) (arith .xor p256.k (arith .and p256.k (nuT h m W v (200 + 4)) (nuT h m W v (200 + 5))) (arith .and p256.k (arith .xor p256.k p256.top (nuT h m W v (200 + 4))) (nuT h m W v (200 + 6))))) kc) (nuT h m W v (100 + t)) = _
    rw [e, e, e, e, ew]
    rfl
  have k2 : (t2A p256 200).val (nuT h m W v) = t2I p256 v := by
    show adI p256 (gtI p256 p256.g0 (nuT h m W v 200)) (arith .xor p256.k (arith .xor p256.k (arith .and p256.k (nuT h m W v 200) (nuT h m W v (200 + 1))) (arith .and p256.k (nuT h m W v 200) (nuT h m W v (200 + 2)))) (arith .and p256.k (nuT h m W v (200 + 1)) (nuT h m W v (200 + 2)))) = _
    rw [e0, e, e]
    rfl
  match j with
  | 0 =>
    show adI p256 ((t1A p256 (nA kc) (100 + t) 200).val (nuT h m W v)) ((t2A p256 200).val (nuT h m W v)) = _
    rw [k1, k2]
    rfl
  | 1 => exact e0
  | 2 => exact e 1
  | 3 => exact e 2
  | 4 =>
    show adI p256 (nuT h m W v (200 + 3)) ((t1A p256 (nA kc) (100 + t) 200).val (nuT h m W v)) = _
    rw [k1, e]
    rfl
  | 5 => exact e 4
  | 6 => exact e 5
  | _ + 7 => exact e 6
theorem tu_loop (hfx : ∀ p ∈ fx, p.1 < 68) : Tri Tryd.prog 116 (.loop tuR) (fun a w => HoldsX 116 w0 (nuT h m W (vst p256 K256 W h 0)) gl256 L fx kp (tuN (nmA 200) [(19, iN 0)]) a w) fun ex a w => ex = .exit 0 ∧ HoldsX 116 w0 (nuT h m W (vst p256 K256 W h 64)) gl256 L fx kp (tuN (nmA 200) []) a w := by
  have key := Tri.loop (P := Tryd.prog) (N := 116) (x := tuR) (J := fun i a w => i ≤ 64 ∧ HoldsX 116 w0 (nuT h m W (vst p256 K256 W h (64 - i))) gl256 L fx kp (tuN (nmA 200) [(19, iN (64 - i))]) a w) (Post := fun ex a w => ex = .exit 0 ∧ HoldsX 116 w0 (nuT h m W (vst p256 K256 W h 64)) gl256 L fx kp (tuN (nmA 200) []) a w) 64 ?_ ?_
  · exact key.weak (fun a w h => ⟨Nat.le_refl _, h⟩) (fun _ _ _ h => h)
  · intro i c hc a w ⟨hi, hp⟩
    have e3 : 64 - i = 64 - (i + 1) + 1 := by omega
    have hg : tuGo (64 - (i + 1)) = true := List.all_eq_true.1 tu_goes _ (List.mem_range.2 (by omega))
    refine ((Tri.runX (L := L) (fx := fx) (kp := kp) (w0 := w0) (none_f _) mixed tab_ok gl256_ok (fun r hr => by cases hr) (fun r hr => by cases hr) (fun r hr => by cases hr) (fun r hr => by cases hr) hg).weak (fun _ _ h => h) (fun ex a w h => ?_)) c hc a w hp
    refine .inl ⟨h.1, by omega, ?_⟩
    rw [e3]
    refine tu_named hfx h.2 fun j hj => ?_
    exact rdA_val _ (by omega) j
  · refine (Tri.runX (i := tuN (nmA 200) [(19, iN 64)]) (none_f _) mixed tab_ok gl256_ok (fun r hr => by cases hr) (fun r hr => by cases hr) (fun r hr => by cases hr) (fun r hr => by cases hr) tu_ends).weak (fun a w h => h.2) (fun ex a w h => ⟨by rw [h.1]; simp, h.1, h.2⟩)
theorem rowT_ok {v : Wd} (hW : ∀ j, j < 64 → W j = wst p256 (w0I m) 48 j) : rowT.Ok (nuT h m W v) Tryd.prog gl256 := by
  have z0 : CellsAt default .u8 0 0 0 m ∨ True := .inr trivial
  refine ⟨?_, fun ρ w vs hw hn hl => ?_⟩
  · exact ⟨_, Tryd.func39, by kernel_rfl, by kernel_rfl⟩
  · obtain ⟨pl, hp, hbr⟩ := hn (65, byT) (by simp [rowT])
    obtain ⟨C, t, fz, g1, g2, _⟩ := hbr.cells (by decide)
    have hm : CellsAt w .u8 pl.cb pl.co 64 m := ⟨C, t, fz, g1, fun j hj => by
      obtain ⟨u, u1, u2⟩ := g2 j (.i .u8 (nmA 8 j)) (by simp [ABlk.shut, byT, rowC, hj])
      cases u2
      rw [u1]
      exact congrArg (fun x => some (Value.int .u8 x)) (nuT_m hj)⟩
    have hlen : vs.size = 1 := by rw [← hl.1]; rfl
    obtain ⟨x, rfl⟩ : ∃ x, vs = #[x] := by
      match vs, hlen with
      | ⟨[x]⟩, _ => exact ⟨x, rfl⟩
    have hx := hl.2 0 _ x rfl rfl
    cases hx
    rename_i q n c hle hq hnn hcap
    have hq : ρ 65 = some q := hq
    rw [hp] at hq
    cases hq
    have hn64 : n = 64 := by
      have : ((64 : Nat) : Int) = (n : Int) := hnn
      omega
    subst hn64
    refine (words256_ok hm hle).2.mono fun e w' ⟨he, hB⟩ => ⟨[_], he, ⟨?_, trivial⟩, hB⟩
    show conc2 _ _ = _
    rw [conc2_row]
    exact congrArg some (aggI_congr fun j hj => (nuT_W (by omega)).trans (hW j hj))
end
/-- WHAT IT MAKES OF EIGHT WORDS AND A BLOCK. -/
theorem turn256_ok {w : World} {cb co tot cb2 o2 c : Nat} {h m : Wd} (hw : Laid gl256 w) (hh : OwnAt w .u32 cb co tot 8 h) (hb : CellsAt w .u8 cb2 o2 64 m) (hc : 64 ≤ c) (hne : cb ≠ cb2) (hg : ∀ p ∈ gl256, cb ≠ p.1) :
    (∃ fn, Tryd.prog.funcs[26]? = some fn ∧ fn.body.isSome = true ∧ (fn.name == "runtime.NumGoroutine") = false) ∧
    Calls Tryd.prog 26 #[.pointer (some ⟨cb, co, none⟩), .slice (some ⟨cb2, o2, none⟩) 64 c] w fun e w' => e = .returned (.tuple #[]) ∧ BelowX cb w w' ∧ OwnAt w' .u32 cb co tot 8 (comp p256 K256 (wst p256 (w0I m) 48) h 64) := by
  let W := wst p256 (w0I m) 48
  let pl : Pl := ⟨cb, co, tot⟩
  let g : Nat → Option Pl := fun b => if b = 64 then some pl else if b = 65 then some ⟨cb2, o2, 0⟩ else none
  have g64 : g 64 = some pl := rfl
  have g65 : g 65 = some ⟨cb2, o2, 0⟩ := rfl
  have hbr1 : BR (nuT h m W h) (embF g) w (hB (nmA 0)).2 pl := OwnAt.br hh (by decide) fun j hj => by simp only [nmA, Nat.zero_add, AI.val]; rw [nuT_h hj]
  have hbr2 : BR (nuT h m W h) (embF g) w byT ⟨cb2, o2, 0⟩ := hb.br (by decide) fun j hj => nuT_m hj
  have start := holdsX_start (N := 116) (ν := nuT h m W h) (L := [(64, pl)]) (fx := [(64, pl)]) (kp := []) (vs := #[.pointer (some ⟨cb, co, none⟩), .slice (some ⟨cb2, o2, none⟩) 64 c]) (e0 := tu0.e) (H0 := tu0.H) (n0 := 66) gl256_ok (w := w) hw g (by show 2 ≤ 116; decide) (by decide)
    (fun b hb => by show (if b = 64 then _ else if b = 65 then _ else _) = _; rw [if_neg (by omega), if_neg (by omega)])
    (fun p hp => by
      simp only [List.mem_cons, List.not_mem_nil, or_false] at hp
      subst hp
      exact embF_other (show gmax ≤ 64 by decide))
    (fun p hp => by
      simp only [tu0, List.mem_cons, List.not_mem_nil, or_false] at hp
      rcases hp with rfl | rfl
      · exact ⟨_, rfl, .p 64 0 pl (embF_other (by decide))⟩
      · exact ⟨_, rfl, .sl 65 0 _ .any ⟨cb2, o2, 0⟩ 64 c (embF_other (by decide)) rfl trivial hc⟩)
    (fun p hp => by
      simp only [tu0, List.mem_cons, List.not_mem_nil, or_false] at hp
      rcases hp with rfl | rfl
      · refine ⟨by decide, _, g64, hbr1, fun _ => ⟨⟨_, List.mem_cons_self, rfl⟩, hg, (fun q hq => by cases hq), fun q hq hne' pl' hpl' => ?_⟩⟩
        simp only [tu0, List.mem_cons, List.not_mem_nil, or_false] at hq
        rcases hq with rfl | rfl
        · exact (hne' rfl).elim
        · rw [g65] at hpl'
          cases hpl'
          exact hne
      · exact ⟨by decide, _, g65, hbr2, fun h => by cases h⟩)
    (fun p hp => by cases hp)
  refine And.imp id (fun h2 => h2.mono fun e w' ⟨v, he, hv, hB⟩ => ⟨by rw [he, hv], hB⟩) (callsX (L := [(64, pl)]) (gl := gl256) (Q := fun v w' => v = .tuple #[] ∧ BelowX cb w w' ∧ OwnAt w' .u32 cb co tot 8 (comp p256 K256 W h 64)) tab_ok (by kernel_rfl) tu_shape start ?_)
  have run : ∀ {ic : IC} {i o : Now} {ex : Ex} {d : Nat} {TM : List RowM}, goesX noFacts tree [] gl256 [] TM [] 60 d ic i ex o = true → ∀ ν, (∀ r ∈ TM, r.Ok ν Tryd.prog gl256) → Tri Tryd.prog 116 ic (HoldsX 116 w ν gl256 [(64, pl)] [(64, pl)] [] i) fun ex' a w' => ex' = ex ∧ HoldsX 116 w ν gl256 [(64, pl)] [(64, pl)] [] o a w' := fun h ν hTM =>
    Tri.runX (none_f _) mixed tab_ok gl256_ok (fun r hr => by cases hr) (fun r hr => by cases hr) hTM (fun r hr => by cases hr) h
  have nor : ∀ ν, ∀ r ∈ ([] : List RowM), r.Ok ν Tryd.prog gl256 := fun ν r hr => by cases hr
  have fx68 : ∀ p ∈ [(64, pl)], p.1 < 68 := fun p hp => by
    simp only [List.mem_cons, List.not_mem_nil, or_false] at hp
    subst hp
    show 64 < 68
    decide
  refine seqN (run tu_goA _ fun r hr => ?_) (seqN (run tu_goB _ (nor _)) (seqN (Mid := HoldsX 116 w (nuT h m W (vst p256 K256 W h 64)) gl256 [(64, pl)] [(64, pl)] [] (tuN (nmA 200) [])) ?_ ?_))
  · simp only [List.mem_cons, List.not_mem_nil, or_false] at hr
    subst hr
    exact rowT_ok fun j _ => rfl
  · refine seqN (Mid := HoldsX 116 w (nuT h m W (vst p256 K256 W h 0)) gl256 [(64, pl)] [(64, pl)] [] (tuN (nmA 200) [(19, iN 0)])) ((run tu_goC _ (nor _)).weak (fun _ _ h => h) fun ex a w' h => ⟨h.1, tu_named fx68 h.2 fun j hj => by simp only [nmA, Nat.zero_add, AI.val]; exact nuT_h hj⟩) ?_
    refine Tri.block (tu_loop fx68) (fun a w h => by cases h.1) (fun a w h => ⟨rfl, h.2⟩) (fun j a w hj h => ?_) (fun a w h => by cases h.1)
    have := h.1
    simp only [Ex.exit.injEq] at this
    exact (hj this).elim
  · refine (run tu_goD _ (nor _)).weak (fun _ _ h => h) fun ex a w' hz => ⟨.inl hz.1, _, tuZ, .tp [], [(64, pl)], [], hz.2, by kernel_rfl, fun ρ v hfx hh _ hBel hv => ?_⟩
    refine ⟨?_, ⟨hBel.os, hBel.tape, hBel.output, hBel.size, fun k hk hk2 => hBel.block k hk fun p hp => ?_⟩, ?_⟩
    · cases hv
      rename_i vs hs _
      have : vs = #[] := Array.eq_empty_of_size_eq_zero hs.symm
      rw [this]
    · simp only [List.mem_cons, List.not_mem_nil, or_false] at hp
      subst hp
      exact Ne.symm hk2
    · obtain ⟨pl', k1, k2⟩ := hh.blk 64 (hB fun j => adA p256 (nmA 0 j) (nmA 200 j)).2 (by kernel_rfl)
      have := hfx (64, pl) List.mem_cons_self
      rw [this] at k1
      cases k1
      have k3 := br_own k2 (by decide)
      obtain ⟨C, t, q1, q2, q3⟩ := k3
      refine ⟨C, t, q1, q2, fun j hj => ?_⟩
      rw [q3 j hj]
      have e1 : (adA p256 (nmA 0 j) (nmA 200 j)).val (nuT h m W (vst p256 K256 W h 64)) = comp p256 K256 W h 64 j := by
        show adI p256 (nuT h m W _ (0 + j)) (nuT h m W _ (200 + j)) = _
        rw [Nat.zero_add, nuT_h hj, nuT_v]
        rfl
      exact congrArg (fun x => some (Value.int .u32 x)) e1
end Go.Proofs.YtjdcaipgfolgoaaDoor
