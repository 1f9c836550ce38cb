/-
  KEYS ON THE CURVE: what keys make, one behind the other, is the place of a multiple of B. Own work.
-/
import Derived.Test.YtlalonomdblhdaaDg
import Derived.Test.YtlalonomdblhdaaSh0
namespace Go.Proofs.Ytlalonomdblhdaa
open Go.Sh
set_option maxRecDepth 100000

theorem kmask_not (k : Nat) : ¬ ordL ∣ kmask k := by
  have e : kmask k = 8 * (k % 28948022309329048855892746252171976963317496166410141009864396001978282409984 / 8 + 3618502788666131106986593281521497120414687020801267626233049500247285301248) := by
    unfold kmask
    omega
  rw [e]
  refine not_eight (by omega) ?_
  unfold ordL
  omega
theorem pmask_val (v : F) : em (pmask v.val) = v := by
  have h := val_lt v
  have e : pmask v.val = v.val := by
    unfold pmask
    refine Nat.mod_eq_of_lt ?_
    unfold prime at h
    omega
  rw [e, em_val]
theorem lad_first (k : Nat) : lad (kmask k) (em 9) = uOf (smul (kmask k) pB0) := lad_pt pB0_y pB0_u (kmask_lt k).1
theorem lad_next (k : Nat) {n : Nat} (hn : ¬ ordL ∣ n) : lad (kmask k) (em (pmask (uOf (smul n pB0)).val)) = uOf (smul (kmask k * n) pB0) := by
  rw [pmask_val, smul_mul]
  exact lad_pt (mul_y hn) (uOf_spec (mul_y hn)).1 (kmask_lt k).1
theorem uOf_val {n : Nat} (hn : ¬ ordL ∣ n) : (uOf (smul n pB0)).val ≠ 0 := fun h => (uOf_spec (mul_y hn)).2 (Fin.ext h)
/-- The place of so many times B. -/
def plB0 (n x : Nat) : Prop := ¬ ordL ∣ n ∧ (uOf (smul n pB0)).val = x
theorem pl_first (k : Nat) {x : Nat} (h : (lad (kmask k) (em 9)).val = x) : plB0 (kmask k) x := ⟨kmask_not k, by rw [← h, lad_first]⟩
theorem pl_next (k : Nat) {n x y : Nat} (hn : plB0 n x) (h : (lad (kmask k) (em (pmask x))).val = y) : plB0 (kmask k * n) y := ⟨not_prod (kmask_not k) hn.1, by rw [← h, ← hn.2, lad_next k hn.1]⟩
theorem pl_ne {n x : Nat} (h : plB0 n x) : x ≠ 0 := by
  rw [← h.2]
  exact uOf_val h.1
theorem pl_same {n m x y : Nat} (h : plB0 n x) (h' : plB0 m y) (e : n = m) : x = y := by
  subst e
  rw [← h.2, ← h'.2]

end Go.Proofs.Ytlalonomdblhdaa
