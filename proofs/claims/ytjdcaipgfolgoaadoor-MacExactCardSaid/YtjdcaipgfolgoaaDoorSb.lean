/-
  sha.words256: what it answers. Own work.
-/
import Derived.Test.YtjdcaipgfolgoaaDoorSa
namespace Go.Proofs.YtjdcaipgfolgoaaDoor
open Go.Sh
open Go.ChangeShapes Go.WideShapes Go.RowKit
set_option maxRecDepth 100000

theorem seqN {P : Program} {N : Nat} {x y : IC} {Pre Mid : Act → World → Prop} {Post : Ex → Act → World → Prop} (h1 : Tri P N x Pre fun ex a w => ex = .normal ∧ Mid a w) (h2 : Tri P N y Mid Post) : Tri P N (.seq x y) Pre Post :=
  Tri.seq h1 (h2.weak (fun _ _ h => h.2) (fun _ _ _ h => h)) (fun _ _ _ hne h => (hne h.1).elim)
theorem gl0_ok : GlOk [] := fun p hp => by cases hp
theorem none_f (ν : Nat → Int) : noFacts.Hold ν := noFacts_hold ν

/-! its pieces -/
def wd2 : IC := t39.body
def wd2A : IC := wd2.sub [false]
def wd2B : IC := wd2.sub [true, false]
def wd2C : IC := wd2.sub [true, true, false]
def wd2D : IC := wd2.sub [true, true, true, false, false]
def wd2R : IC := wd2.sub [true, true, true, false, true, false, false]
def wd2E : IC := wd2.sub [true, true, true, true]
theorem wd2_shape : t39 = ⟨.seq wd2A (.seq wd2B (.seq wd2C (.seq (.seq wd2D (.block 2 (.loop wd2R))) wd2E))), [.c 2 (some 64)], 90⟩ := by kernel_rfl

def eW : Nat := 47
theorem eW_lt : eW < mapTag := by decide
def zeroA (_ : Nat) : AI := .c 0
def byB : Nat × ABlk := (64, ⟨rowC .u8 (fun j => .s j) 64, 0, false⟩)
def word4A (j : Nat) : AI := .e .or .u32 (.e .or .u32 (.e .or .u32 (.e .shl .u32 (.w .u32 (.s (4 * j))) (nA 24)) (.e .shl .u32 (.w .u32 (.s (4 * j + 1))) (nA 16))) (.e .shl .u32 (.w .u32 (.s (4 * j + 2))) (nA 8))) (.w .u32 (.s (4 * j + 3)))
def w0A (j : Nat) : AI := if Nat.blt j 16 then word4A j else .c 0
def nowW (f : Nat → AI) (l : List (Nat × AV)) : Now := ⟨l ++ [(2, .p 65 0), (3, .p 66 0)], [byB, (65, ⟨rowC .u32 zeroA 64, eW, true⟩), (66, ⟨rowC .u32 f 64, eW, true⟩)], 67⟩
def iN (n : Nat) : AV := .i .i64 (.c (.ofNat n))
def nmA (b : Nat) (j : Nat) : AI := .s (b + j)
def setA (f : Nat → AI) (t : Nat) (x : AI) (j : Nat) : AI := if Nat.beq j t then x else f j
def now65 : Now := ⟨[(0, .sl 64 0 (nA 64) .any)], [byB], 65⟩
def now66 : Now := ⟨[(0, .sl 64 0 (nA 64) .any), (2, .p 65 0)], [byB, (65, ⟨rowC .u32 zeroA 64, eW, true⟩)], 66⟩
theorem wd2_goA : goesX noFacts tree [] [] [] [] [] 60 2 wd2A now65 .normal now66 = true := by kernel_rfl
theorem wd2_goB : goesX noFacts tree [] [] [] [] [] 60 2 wd2B now66 .normal (nowW zeroA [(0, .sl 64 0 (nA 64) .any)]) = true := by kernel_rfl
theorem wd2_goC : goesX noFacts tree [] [] [] [] [] 60 2 wd2C (nowW zeroA [(0, .sl 64 0 (nA 64) .any)]) .normal (nowW w0A []) = true := by kernel_rfl
theorem wd2_goD : goesX noFacts tree [] [] [] [] [] 60 2 wd2D (nowW w0A []) .normal (nowW w0A [(6, iN 16)]) = true := by kernel_rfl
noncomputable def wd2Go (k : Nat) : Bool := goesX noFacts tree [] [] [] [] [] 60 3 wd2R (nowW (nmA 100) [(6, iN (16 + k))]) .normal (nowW (setA (nmA 100) (16 + k) (wA p256 (16 + k) 100)) [(6, iN (16 + k + 1))])
theorem wd2_goes : (List.range 48).all wd2Go = true := by kernel_rfl
theorem wd2_ends : goesX noFacts tree [] [] [] [] [] 60 3 wd2R (nowW (nmA 100) [(6, iN 64)]) (.exit 2) (nowW (nmA 100) []) = true := by kernel_rfl
def now2E : Now := ⟨[(2, .p 65 0)], [byB, (65, ⟨rowC .u32 (nmA 100) 64, eW, true⟩)], 67⟩
theorem wd2_goE : goesX noFacts tree [] [] [] [] [] 60 3 wd2E (nowW (nmA 100) []) .ret now2E = true := by kernel_rfl

/-- The names: the block's bytes, the words. -/
def nuW (m W : Wd) : Nat → Int := two (fun j => if j < 64 then m j else 0) 100 W
def w0I (m : Wd) : Wd := fun j => (w0A j).val m
theorem nuW_lo {m W : Wd} {j : Nat} (h : j < 64) : nuW m W j = m j := by
  unfold nuW
  rw [two_lo (by omega), if_pos h]
theorem nuW_hi {m W : Wd} (j : Nat) : nuW m W (100 + j) = W j := two_hi j
theorem word4_same {ν ν' : Nat → Int} {j : Nat} (h : ∀ i, i < 64 → ν i = ν' i) (hj : j < 16) : (word4A j).val ν = (word4A j).val ν' := by
  simp only [word4A, nA, AI.val]
  rw [h _ (by omega), h _ (by omega), h _ (by omega), h _ (by omega)]
theorem w0A_same {ν ν' : Nat → Int} {j : Nat} (h : ∀ i, i < 64 → ν i = ν' i) : (w0A j).val ν = (w0A j).val ν' := by
  unfold w0A
  split
  · rename_i hj
    exact word4_same h (by simpa using hj)
  · rfl
section
variable {w0 : World} {m : Wd} {L fx : List (Nat × Pl)} {kp : List (Nat × Obj)}
theorem get64 (f : Nat → AI) (l : List (Nat × AV)) : (heapL ((nowW f l).H ++ []) 67).get 64 = some byB.2 := by kernel_rfl
theorem get65 (f : Nat → AI) (l : List (Nat × AV)) : (heapL ((nowW f l).H ++ []) 67).get 65 = some ⟨rowC .u32 zeroA 64, eW, true⟩ := by kernel_rfl
theorem get66 (f : Nat → AI) (l : List (Nat × AV)) : (heapL ((nowW f l).H ++ []) 67).get 66 = some ⟨rowC .u32 f 64, eW, true⟩ := by kernel_rfl
/-- The words under names of their own. -/
theorem wd2_named {f : Nat → AI} {W W' : Wd} {t : Nat} {a : Act} {w : World} (hfx : ∀ p ∈ fx, p.1 < 67) (h : HoldsX 90 w0 (nuW m W) [] L fx kp (nowW f [(6, iN t)]) a w) (hf : ∀ j, j < 64 → (f j).val (nuW m W) = W' j) : HoldsX 90 w0 (nuW m W') [] L fx kp (nowW (nmA 100) [(6, iN t)]) a w := by
  refine renumX (P := Tryd.prog) gl0_ok h (by decide) hfx (fun p hp => ⟨p.2, hp, ?_⟩) fun p hp => ?_
  · simp only [List.mem_append, List.mem_cons, List.not_mem_nil, or_false] at hp
    rcases hp with rfl | rfl | rfl
    · exact SlotTo.conc (u := .int .i64 t) rfl rfl
    · exact SlotTo.p _ (by decide) rfl
    · exact SlotTo.p _ (by decide) rfl
  · simp only [List.mem_cons, List.not_mem_nil, or_false] at hp
    rcases hp with rfl | rfl | rfl
    · exact ⟨by decide, by decide, _, get64 f [], rfl, blkTo_row (by decide) fun j hj => (nuW_lo hj).trans (nuW_lo hj).symm⟩
    · exact ⟨by decide, by decide, _, get65 f [], rfl, blkTo_row eW_lt fun j hj => rfl⟩
    · exact ⟨by decide, by decide, _, get66 f [], rfl, blkTo_row eW_lt fun j hj => (hf j hj).trans (nuW_hi j).symm⟩
theorem wA_val (p : Pr) (m W : Wd) (t : Nat) : (wA p t 100).val (nuW m W) = wI p W t := by
  show adI p (adI p (adI p (sgI p p.s1 (nuW m W (100 + (t - 2)))) (nuW m W (100 + (t - 7)))) (sgI p p.s0 (nuW m W (100 + (t - 15))))) (nuW m W (100 + (t - 16))) = _
  rw [nuW_hi, nuW_hi, nuW_hi, nuW_hi]
  rfl
theorem wd2_loop (hfx : ∀ p ∈ fx, p.1 < 67) : Tri Tryd.prog 90 (.loop wd2R) (fun a w => HoldsX 90 w0 (nuW m (wst p256 (w0I m) 0)) [] L fx kp (nowW (nmA 100) [(6, iN 16)]) a w) fun ex a w => ex = .exit 2 ∧ HoldsX 90 w0 (nuW m (wst p256 (w0I m) 48)) [] L fx kp (nowW (nmA 100) []) a w := by
  have key := Tri.loop (P := Tryd.prog) (N := 90) (x := wd2R) (J := fun i a w => i ≤ 48 ∧ HoldsX 90 w0 (nuW m (wst p256 (w0I m) (48 - i))) [] L fx kp (nowW (nmA 100) [(6, iN (64 - i))]) a w) (Post := fun ex a w => ex = .exit 2 ∧ HoldsX 90 w0 (nuW m (wst p256 (w0I m) 48)) [] L fx kp (nowW (nmA 100) []) a w) 48 ?_ ?_
  · exact key.weak (fun a w h => ⟨Nat.le_refl _, h⟩) (fun _ _ _ h => h)
  · intro i c hc a w ⟨hi, hp⟩
    have e1 : 64 - (i + 1) = 16 + (48 - (i + 1)) := by omega
    have e2 : 16 + (48 - (i + 1)) + 1 = 64 - i := by omega
    have e3 : 48 - i = 48 - (i + 1) + 1 := by omega
    rw [e1] at hp
    have hg : wd2Go (48 - (i + 1)) = true := List.all_eq_true.1 wd2_goes _ (List.mem_range.2 (by omega))
    refine ((Tri.runX (L := L) (fx := fx) (kp := kp) (w0 := w0) (none_f _) mixed tab_ok gl0_ok (fun r hr => by cases hr) (fun r hr => by cases hr) (fun r hr => by cases hr) (fun r hr => by cases hr) hg).weak (fun _ _ h => h) (fun ex a w h => ?_)) c hc a w hp
    refine .inl ⟨h.1, by omega, ?_⟩
    have h2 := h.2
    rw [e2] at h2
    rw [e3]
    refine wd2_named hfx h2 fun j hj => ?_
    unfold setA
    show _ = if j = 16 + (48 - (i + 1)) then _ else _
    by_cases hq : j = 16 + (48 - (i + 1))
    · rw [if_pos hq, if_pos (by rw [hq]; exact Nat.beq_refl _)]
      exact wA_val _ _ _ _
    · rw [if_neg hq, if_neg (fun h => hq (Nat.eq_of_beq_eq_true h))]
      exact nuW_hi j
  · refine (Tri.runX (i := nowW (nmA 100) [(6, iN 64)]) (none_f _) mixed tab_ok gl0_ok (fun r hr => by cases hr) (fun r hr => by cases hr) (fun r hr => by cases hr) (fun r hr => by cases hr) wd2_ends).weak (fun a w h => h.2) (fun ex a w h => ⟨by rw [h.1]; simp, h.1, h.2⟩)
end
/-- WHAT IT ANSWERS. -/
theorem words256_ok {w : World} {cb o c : Nat} {m : Wd} (hb : CellsAt w .u8 cb o 64 m) (hc : 64 ≤ c) :
    (∃ fn, Tryd.prog.funcs[39]? = some fn ∧ fn.body.isSome = true ∧ (fn.name == "runtime.NumGoroutine") = false) ∧
    Calls Tryd.prog 39 #[.slice (some ⟨cb, o, none⟩) 64 c] w fun e w' => e = .returned (aggI .u32 64 (wst p256 (w0I m) 48)) ∧ Below w.heap.size w w' := by
  have hbr : BR (nuW m (w0I m)) (embF (at1 64 ⟨cb, o, 0⟩)) w byB.2 ⟨cb, o, 0⟩ := hb.br (by decide) fun j hj => nuW_lo hj
  have start := holdsX_start (N := 90) (ν := nuW m (w0I m)) (L := []) (fx := []) (kp := []) (vs := #[.slice (some ⟨cb, o, none⟩) 64 c]) (e0 := now65.e) (H0 := now65.H) (n0 := 65) gl0_ok (w := w) (fun p hp => by cases hp) (at1 64 ⟨cb, o, 0⟩) (by show 1 ≤ 90; decide) (by decide) (fun b hb => at1_none (by omega)) (fun p hp => by cases hp)
    (fun p hp => by
      simp only [now65, List.mem_cons, List.not_mem_nil, or_false] at hp
      subst hp
      exact ⟨_, rfl, .sl 64 0 _ .any ⟨cb, o, 0⟩ 64 c (at1_at (by decide)) rfl trivial hc⟩)
    (fun p hp => by
      simp only [now65, List.mem_cons, List.not_mem_nil, or_false] at hp
      subst hp
      exact ⟨by decide, _, if_pos rfl, hbr, fun h => by cases h⟩)
    (fun p hp => by cases hp)
  refine And.imp id (fun h2 => h2.mono fun e w' ⟨v, he, hv, hB⟩ => ⟨by rw [he, hv], hB⟩) (callsX (L := []) (gl := []) (Q := fun v w' => v = aggI .u32 64 (wst p256 (w0I m) 48) ∧ Below w.heap.size w w') tab_ok (by kernel_rfl) wd2_shape start ?_)
  have run : ∀ {ic : IC} {i o : Now} {ex : Ex} {d : Nat}, goesX noFacts tree [] [] [] [] [] 60 d ic i ex o = true → ∀ ν, Tri Tryd.prog 90 ic (HoldsX 90 w ν [] [] [] [] i) fun ex' a w' => ex' = ex ∧ HoldsX 90 w ν [] [] [] [] o a w' := fun h ν =>
    Tri.runX (none_f _) mixed tab_ok gl0_ok (fun r hr => by cases hr) (fun r hr => by cases hr) (fun r hr => by cases hr) (fun r hr => by cases hr) h
  refine seqN (run wd2_goA _) (seqN (run wd2_goB _) (seqN (run wd2_goC _) (seqN (Mid := HoldsX 90 w (nuW m (wst p256 (w0I m) 48)) [] [] [] [] (nowW (nmA 100) [])) ?_ ?_)))
  · refine seqN (Mid := HoldsX 90 w (nuW m (wst p256 (w0I m) 0)) [] [] [] [] (nowW (nmA 100) [(6, iN 16)])) ((run wd2_goD _).weak (fun _ _ h => h) fun ex a w' h => ⟨h.1, wd2_named (fun p hp => by cases hp) h.2 fun j hj => w0A_same fun i hi => nuW_lo hi⟩) ?_
    refine Tri.block (wd2_loop fun p hp => by cases hp) (fun a w h => by cases h.1) (fun a w h => ⟨rfl, h.2⟩) (fun j a w hj h => ?_) (fun a w h => by cases h.1)
    have := h.1
    simp only [Ex.exit.injEq] at this
    exact (hj this).elim
  · refine (run wd2_goE _).weak (fun _ _ h => h) fun ex a w' h => ⟨.inr h.1, _, now2E, .ag (rowC .u32 (nmA 100) 64), [], [], h.2, by kernel_rfl, fun ρ v _ _ _ hB hv => ?_⟩
    have hc : conc2 (nuW m (wst p256 (w0I m) 48)) (.ag (rowC .u32 (nmA 100) 64)) = some (aggI .u32 64 (wst p256 (w0I m) 48)) := by
      rw [conc2_row]
      exact congrArg some (aggI_congr fun j _ => nuW_hi j)
    exact ⟨(conc2_vr hc).2 v hv, ⟨hB.os, hB.tape, hB.output, hB.size, fun k hk => hB.block k hk fun p hp => by cases hp⟩⟩
end Go.Proofs.YtjdcaipgfolgoaaDoor
