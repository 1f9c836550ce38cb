/-
 NUMBERS MODULO L: what the page's modL answers (512 rounds). Own work.
-/
import Derived.Test.YtheidgcgdkmmiaaDoorLa
import Derived.Test.YtheidgcgdkmmiaaDoorKd
namespace Go.Proofs.YtheidgcgdkmmiaaDoor
open Go.Sh
set_option maxRecDepth 100000
/-! The numbers of a round. -/
def red (w k : Nat) : Nat := w / 2 ^ k % ordL
theorem red_lt (w k : Nat) : red w k < ordL := Nat.mod_lt _ (by decide)
def vOf (w k : Nat) : Nat := 2 * red w (k + 1) + w / 2 ^ k % 2
theorem red_step (w k : Nat) : red w k = if vOf w k < ordL then vOf w k else vOf w k - ordL := by
 have e2 : w / 2 ^ k = 2 * (w / 2 ^ (k + 1)) + w / 2 ^ k % 2 := by
  rw [Nat.pow_succ, ← Nat.div_div_eq_div_mul]; omega
 have h1 := red_lt w (k + 1)
 have hb : w / 2 ^ k % 2 < 2 := Nat.mod_lt _ (by decide)
 have e3 : red w k = vOf w k % ordL := by
  unfold red vOf red
  generalize hg : w / 2 ^ (k + 1) = g at *
  generalize hc : w / 2 ^ k % 2 = c at *
  rw [e2]
  have := Nat.div_add_mod g ordL
  generalize g / ordL = q at *
  generalize g % ordL = r at *
  subst this
  have : 2 * (ordL * q + r) + c = 2 * r + c + ordL * (2 * q) := by
   rw [Nat.mul_add, Nat.mul_left_comm]; omega
  rw [this, Nat.add_mul_mod_self_left]
 rw [e3]
 have hv : vOf w k < 2 * ordL := by
  unfold vOf
  omega
 split
 ·rename_i h
  exact Nat.mod_eq_of_lt h
 ·rename_i h
  rw [Nat.mod_eq_sub_mod (Nat.le_of_not_lt h)]
  exact Nat.mod_eq_of_lt (by omega)
/-! its pieces -/
def w8L (w : Nat) : List Nat := numL w ++ numL (w / B4)
def w8C : List AV := [wd 0, wd 1, wd 2, wd 3, wd 4, wd 5, wd 6, wd 7]
def mdbE : List (Nat × AV) := [(1, .p 64 0), (2, .p 65 0), (3, .p 66 0)]
/-! names: the eight words, what is left, twice that, that less L -/
def nuD (w r s : Nat) : Nat → Int := nu (w8L w ++ (numL r ++ (numL (2 * r) ++ numL s)))
theorem w8_lo (w r s j : Nat) (hj : j < 4) : nuD w r s j = ((w / 2 ^ (64 * j) % 2 ^ 64 : Nat) : Int) := by
 match j, hj with
 | 0, _ => show ((w % 18446744073709551616 : Nat) : Int) = _; simp
 | 1, _ => rfl
 | 2, _ => rfl
 | 3, _ => rfl
theorem w8_hi (w r s j : Nat) (hj : j < 4) : nuD w r s (4 + j) = ((w / B4 / 2 ^ (64 * j) % 2 ^ 64 : Nat) : Int) := by
 match j, hj with
 | 0, _ => show ((w / B4 % 18446744073709551616 : Nat) : Int) = _; simp
 | 1, _ => rfl
 | 2, _ => rfl
 | 3, _ => rfl
theorem w8_at (w r s j : Nat) (hj : j < 8) : nuD w r s j = ((w / 2 ^ (64 * j) % 2 ^ 64 : Nat) : Int) := by
 by_cases h : j < 4
 ·exact w8_lo w r s j h
 ·obtain ⟨i, rfl⟩ : ∃ i, j = 4 + i := ⟨j - 4, by omega⟩
  rw [w8_hi w r s i (by omega), B4_is, Nat.div_div_eq_div_mul, ← Nat.pow_add, show 256 + 64 * i = 64 * (4 + i) by omega]
/-! the rounds -/
theorem nuD_8 (w r s : Nat) : qag (nuD w r s) (ns 8) = some (num r) := by kernel_rfl
theorem nuD_16 (w r s : Nat) : qag (nuD w r s) (ns 16) = some (num s) := by kernel_rfl
def w8V (w : Nat) : List Value := (w8L w).map u64
theorem nuD_w (w r s : Nat) : qap (nuD w r s) w8C = some (w8V w) := by kernel_rfl
theorem nuD_c8 (w r s : Nat) : qap (nuD w r s) (cellsOf 8) = some ((numL r).map u64) := by kernel_rfl
theorem nuD_c16 (w r s : Nat) : qap (nuD w r s) (cellsOf 16) = some ((numL s).map u64) := by kernel_rfl
def mdnow0 : Now := ⟨[(0, .ag w8C)], [], gmax⟩
theorem red_top {w e a : Nat} (he : e = a + a) (ha : a = 256) (hw : w < B4 * B4) : red w e = 0 := by
 unfold red
 have h : w < 2 ^ e := by
  rw [he, Nat.pow_add, ha, ← B4_is]
  exact hw
 rw [Nat.div_eq_of_lt h]
 rfl
theorem md_ins (w r s : Nat) : qai (nuD w r s) [.ag w8C] = some [num8 w] := by kernel_rfl
end Go.Proofs.YtheidgcgdkmmiaaDoor
