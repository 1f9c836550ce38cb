/-
 NAMES that mix bytes and words; the page's less. Own work.
-/
import Derived.Test.YtheidgcgdkmmiaaDoorJc
namespace Go.Proofs.YtheidgcgdkmmiaaDoor
open Go.Sh
set_option maxRecDepth 100000
def nuM (m : Nat) (L l : List Nat) : Nat → Int := fun k => if k < 32 * m then nub L k else nuw l (k - 32 * m)
theorem nuM_b (m : Nat) (L l : List Nat) (j : Nat) (hj : j < m) : qag (nuM m L l) (rw8 j) = some (byt (L.getD j 0)) := by
 have e := mid_conc (ν := nuM m L l) (j := 32 * j) 32 (byL (L.getD j 0)) (fun i hi => by
  unfold nuM
  rw [if_pos (by omega)]
  exact qbj L j i hi) rfl [] [] rfl
 rw [List.append_nil, List.append_nil] at e
 show (qap (nuM m L l) ((List.range 32).map fun i => bt (32 * j + i))).map (fun vs => Value.agg vs.toArray) = _
 rw [e]
 rfl
theorem nuM_bc (m : Nat) (L l : List Nat) (j : Nat) (hj : j < m) : conc (nuM m L l) (rw8 j) = some (byt (L.getD j 0)) := nuM_b m L l j hj
theorem nuM_wel (m : Nat) (L l : List Nat) (j : Nat) : qap (nuM m L l) (wel (8 * m + j)) = some ((numL (l.getD j 0)).map u64) := by
 have h : qai (nuw l) (wel j) = some (welV (l.getD j 0)) := nuw_wel l j
 have e : ∀ i, nuM m L l (4 * (8 * m + j) + i) = nuw l (4 * j + i) := by
  intro i
  unfold nuM
  rw [if_neg (by omega), show 4 * (8 * m + j) + i - 32 * m = 4 * j + i by omega]
 show some [Value.int .u64 (nuM m L l (4 * (8 * m + j) + 0)), .int .u64 (nuM m L l (4 * (8 * m + j) + 1)), .int .u64 (nuM m L l (4 * (8 * m + j) + 2)), .int .u64 (nuM m L l (4 * (8 * m + j) + 3))] = _
 rw [e, e, e, e]
 exact h
theorem nuM_w (m : Nat) (L l : List Nat) (j : Nat) : qag (nuM m L l) (rw4 (8 * m + j)) = some (num (l.getD j 0)) := by
 show (qap (nuM m L l) (wel (8 * m + j))).map (fun vs => Value.agg vs.toArray) = _
 rw [nuM_wel]
 rfl
theorem nuM_wc (m : Nat) (L l : List Nat) (j : Nat) : conc (nuM m L l) (rw4 (8 * m + j)) = some (num (l.getD j 0)) := nuM_w m L l j
theorem bit_at (e j r : Nat) (hr : r < 64) : e / 2 ^ (64 * j) % 2 ^ 64 / 2 ^ r % 2 = e / 2 ^ (64 * j + r) % 2 := by
 have h1 : (e / 2 ^ (64 * j) % 2 ^ 64).testBit r = e.testBit (64 * j + r) := by
  rw [Nat.testBit_mod_two_pow, decide_eq_true hr, Bool.true_and, Nat.testBit_div_two_pow, Nat.add_comm]
 rw [Nat.testBit_eq_decide_div_mod_eq, Nat.testBit_eq_decide_div_mod_eq] at h1
 have h2 := decide_eq_decide.1 h1
 omega
end Go.Proofs.YtheidgcgdkmmiaaDoor
