/-
  sha.Sum256: what it answers. Own work.
-/
import Derived.Test.YtjdcaipgfolgoaaDoorSd
namespace Go.Proofs.YtjdcaipgfolgoaaDoor
open Go.Sh
open Go.ChangeShapes Go.WideShapes Go.RowKit
set_option maxRecDepth 100000

/-- The names: the words so far, the window, where it begins, how long the text is, how far its blocks go, words to come. -/
def nuS (h win : Wd) (a n wh : Int) (h1 h2 : Wd) : Nat → Int := two (two (two h 100 win) 200 fun j => if j = 0 then a else if j = 1 then n else wh) 300 (two h1 8 h2)
section
variable {h win h1 h2 : Wd} {a n wh : Int}
theorem nuS_h {j : Nat} (hj : j < 8) : nuS h win a n wh h1 h2 j = h j := by
  unfold nuS
  rw [two_lo (by omega), two_lo (by omega), two_lo (by omega)]
theorem nuS_w {j : Nat} (hj : j < 64) : nuS h win a n wh h1 h2 (100 + j) = win j := by
  unfold nuS
  rw [two_lo (by omega), two_lo (by omega), two_hi]
theorem nuS_a : nuS h win a n wh h1 h2 200 = a := rfl
theorem nuS_n : nuS h win a n wh h1 h2 201 = n := rfl
theorem nuS_wh : nuS h win a n wh h1 h2 202 = wh := rfl
theorem nuS_1 {j : Nat} (hj : j < 8) : nuS h win a n wh h1 h2 (300 + j) = h1 j := by
  unfold nuS
  rw [two_hi, two_lo hj]
theorem nuS_2 {j : Nat} : nuS h win a n wh h1 h2 (308 + j) = h2 j := by
  unfold nuS
  rw [show 308 + j = 300 + (8 + j) by omega, two_hi, two_hi]
end
/-! a length's bytes -/
theorem w_u64 {n : Nat} (h : n < 18446744073709551616) : IntKind.u64.wrap ((n : Nat) : Int) = n := by
  simp only [IntKind.wrap, IntKind.bits, IntKind.signed]
  simp
  omega
theorem w_u32 (n : Nat) : IntKind.u32.wrap ((n : Nat) : Int) = ((n % 4294967296 : Nat) : Int) := by
  simp only [IntKind.wrap, IntKind.bits, IntKind.signed]
  simp
theorem w_u8 (n : Nat) : IntKind.u8.wrap ((n : Nat) : Int) = ((n % 256 : Nat) : Int) := by
  simp only [IntKind.wrap, IntKind.bits, IntKind.signed]
  simp
theorem shrN {k : IntKind} (n s : Nat) (h : s ≤ k.bits) : arith .shr k ((n : Nat) : Int) ((s : Nat) : Int) = ((n / 2 ^ s : Nat) : Int) := by
  show ((n : Nat) : Int).fdiv (2 ^ (min ((s : Nat) : Int).toNat k.bits)) = _
  rw [Int.toNat_natCast, Nat.min_eq_left h, Int.fdiv_eq_ediv_of_nonneg _ (Int.pow_nonneg (by decide))]
  norm_cast
theorem shl64 (n s : Nat) (h : s ≤ 64) (hb : n * 2 ^ s < 18446744073709551616) : arith .shl .u64 ((n : Nat) : Int) ((s : Nat) : Int) = ((n * 2 ^ s : Nat) : Int) := by
  show IntKind.u64.wrap (((n : Nat) : Int) * 2 ^ (min ((s : Nat) : Int).toNat 64)) = _
  rw [Int.toNat_natCast, Nat.min_eq_left h]
  have : ((n : Nat) : Int) * 2 ^ s = ((n * 2 ^ s : Nat) : Int) := by push_cast; rfl
  rw [this]
  exact w_u64 hb
theorem lenP_val {ν : Nat → Int} {x : AI} {n i : Nat} (hx : x.val ν = (n : Int)) (hn : n < 1099511627776) (hi : i < 8) : (lenP x i).val ν = lenB n i := by
  have hi0 : (AI.w .u32 (.e .shr .u64 x (nA 29))).val ν = ((n / 536870912 % 4294967296 : Nat) : Int) := by
    show IntKind.u32.wrap (arith .shr .u64 (x.val ν) ((29 : Nat) : Int)) = _
    rw [hx, shrN n 29 (by decide), w_u32]
  have lo0 : (AI.w .u32 (.e .shl .u64 x (nA 3))).val ν = ((n * 8 % 4294967296 : Nat) : Int) := by
    show IntKind.u32.wrap (arith .shl .u64 (x.val ν) ((3 : Nat) : Int)) = _
    rw [hx, shl64 n 3 (by decide) (by omega), w_u32]
  have bs : ∀ (y : AI) (m s : Nat), y.val ν = ((m : Nat) : Int) → s ≤ 32 → (AI.w .u8 (.e .shr .u32 y (nA s))).val ν = ((m / 2 ^ s % 256 : Nat) : Int) := by
    intro y m s hy hs
    show IntKind.u8.wrap (arith .shr .u32 (y.val ν) ((s : Nat) : Int)) = _
    rw [hy, shrN (k := .u32) m s hs, w_u8]
  have b0 : ∀ (y : AI) (m : Nat), y.val ν = ((m : Nat) : Int) → (AI.w .u8 y).val ν = ((m % 256 : Nat) : Int) := by
    intro y m hy
    show IntKind.u8.wrap (y.val ν) = _
    rw [hy, w_u8]
  have fin : ∀ {p q : Nat}, p = q → ((p : Nat) : Int) = ((q : Nat) : Int) := fun h => congrArg _ h
  match i, hi with
  | 0, _ => exact (bs _ _ 24 hi0 (by decide)).trans (fin (by show _ = 8 * n / 72057594037927936 % 256; simp only [Nat.reducePow]; omega))
  | 1, _ => exact (bs _ _ 16 hi0 (by decide)).trans (fin (by show _ = 8 * n / 281474976710656 % 256; simp only [Nat.reducePow]; omega))
  | 2, _ => exact (bs _ _ 8 hi0 (by decide)).trans (fin (by show _ = 8 * n / 1099511627776 % 256; simp only [Nat.reducePow]; omega))
  | 3, _ => exact (b0 _ _ hi0).trans (fin (by show _ = 8 * n / 4294967296 % 256; omega))
  | 4, _ => exact (bs _ _ 24 lo0 (by decide)).trans (fin (by show _ = 8 * n / 16777216 % 256; simp only [Nat.reducePow]; omega))
  | 5, _ => exact (bs _ _ 16 lo0 (by decide)).trans (fin (by show _ = 8 * n / 65536 % 256; simp only [Nat.reducePow]; omega))
  | 6, _ => exact (bs _ _ 8 lo0 (by decide)).trans (fin (by show _ = 8 * n / 256 % 256; simp only [Nat.reducePow]; omega))
  | 7, _ => exact (b0 _ _ lo0).trans (fin (by show _ = 8 * n / 1 % 256; omega))
theorem lnA_val {ν : Nat → Int} {n : Nat} (h : ν 201 = (n : Int)) (hn : n < 1099511627776) : lnA.val ν = (n : Int) := by
  show IntKind.u64.wrap (ν 201) = _
  rw [h]
  exact w_u64 (by omega)
/-! a rest, with what is laid behind -/
theorem tot_div (n : Nat) : tot256 n / 64 = (n + 8) / 64 + 1 := by unfold tot256; omega
theorem reA_lt {r j : Nat} (h : j < r) : reA r j = .s (100 + j) := if_pos (by simpa using h)
theorem reA_eq (r : Nat) : reA r r = nA 128 := by
  unfold reA
  rw [if_neg (by simp), if_pos (Nat.beq_refl _)]
theorem reA_gt {r j : Nat} (h : r < j) : reA r j = .c 0 := by
  unfold reA
  rw [if_neg (by simp; omega), if_neg fun h' => by have := Nat.eq_of_beq_eq_true h'; omega]
theorem endA_lt {x : AI} {g : Nat → AI} {j : Nat} (h : j < 56) : endA x g j = g j := if_pos (by simpa using h)
theorem endA_ge {x : AI} {g : Nat → AI} {j : Nat} (h : 56 ≤ j) : endA x g j = lenP x (j - 56) := if_neg (by simp; omega)
section
variable {z : Wd} {n j : Nat}
theorem pd_lt (h : j < n) : pd256 z n j = z j := if_pos h
theorem pd_eq (h : j = n) : pd256 z n j = 128 := by
  unfold pd256
  rw [if_neg (by omega), if_pos h]
theorem pd_mid (h1 : n < j) (h2 : j < tot256 n - 8) : pd256 z n j = 0 := by
  unfold pd256
  rw [if_neg (by omega), if_neg (by omega), if_pos h2]
theorem pd_end (h1 : n < j) (h2 : tot256 n - 8 ≤ j) : pd256 z n j = lenB n (j - (tot256 n - 8)) := by
  unfold pd256
  rw [if_neg (by omega), if_neg (by omega), if_neg (by omega)]
end
/-- The rest has room for its end. -/
theorem end_short {z : Wd} {n q r : Nat} (hq : n = 64 * q + r) (hr : r < 56) {ν : Nat → Int} (hw : ∀ j, j < r → ν (100 + j) = z (64 * q + j)) {x : AI} (hx : x.val ν = (n : Int)) (hn : n < 1099511627776) : ∀ j, j < 64 → (endA x (reA r) j).val ν = pd256 z n (64 * q + j) := by
  intro j hj
  have ht : tot256 n = 64 * q + 64 := by unfold tot256; omega
  by_cases h1 : j < 56
  · rw [endA_lt h1]
    rcases Nat.lt_trichotomy j r with h2 | h2 | h2
    · rw [reA_lt h2, pd_lt (by omega)]
      exact hw j h2
    · rw [h2, reA_eq, pd_eq hq.symm]
      rfl
    · rw [reA_gt h2, pd_mid (by omega) (by omega)]
      rfl
  · rw [endA_ge (by omega), pd_end (by omega) (by omega), lenP_val hx hn (by omega), ht]
    congr 1
    omega
/-- It hasn't. -/
theorem end_long1 {z : Wd} {n q r : Nat} (hq : n = 64 * q + r) (hr : r < 64) (hr2 : 56 ≤ r) {ν : Nat → Int} (hw : ∀ j, j < r → ν (100 + j) = z (64 * q + j)) : ∀ j, j < 64 → (reA r j).val ν = pd256 z n (64 * q + j) := by
  intro j hj
  have ht : tot256 n = 64 * q + 128 := by unfold tot256; omega
  rcases Nat.lt_trichotomy j r with h2 | h2 | h2
  · rw [reA_lt h2, pd_lt (by omega)]
    exact hw j h2
  · rw [h2, reA_eq, pd_eq hq.symm]
    rfl
  · rw [reA_gt h2, pd_mid (by omega) (by omega)]
    rfl
theorem end_long2 {z : Wd} {n q r : Nat} (hq : n = 64 * q + r) (hr : r < 64) (hr2 : 56 ≤ r) {ν : Nat → Int} {x : AI} (hx : x.val ν = (n : Int)) (hn : n < 1099511627776) : ∀ j, j < 64 → (endA x zeroA j).val ν = pd256 z n (64 * (q + 1) + j) := by
  intro j hj
  have ht : tot256 n = 64 * q + 128 := by unfold tot256; omega
  by_cases h1 : j < 56
  · rw [endA_lt h1, pd_mid (by omega) (by omega)]
    rfl
  · rw [endA_ge (by omega), pd_end (by omega) (by omega), lenP_val hx hn (by omega), ht]
    congr 1
    omega
theorem outA_val {ν : Nat → Int} {h : Wd} (hh : ∀ j, j < 8 → ν (308 + j) = h j) {j : Nat} (hj : j < 32) : (outA j).val ν = out256 h j := by
  have e : ν (308 + j / 4) = h (j / 4) := hh _ (by omega)
  unfold outA out256 byI
  have hm : j % 4 < 4 := Nat.mod_lt _ (by decide)
  match hq : j % 4, hm with
  | 0, _ => show IntKind.u8.wrap (arith .shr .u32 (ν (308 + j / 4)) ((24 : Nat) : Int)) = _; rw [e]
  | 1, _ => show IntKind.u8.wrap (arith .shr .u32 (ν (308 + j / 4)) ((16 : Nat) : Int)) = _; rw [e]
  | 2, _ => show IntKind.u8.wrap (arith .shr .u32 (ν (308 + j / 4)) ((8 : Nat) : Int)) = _; rw [e]
  | 3, _ =>
    show IntKind.u8.wrap (ν (308 + j / 4)) = IntKind.u8.wrap ((h (j / 4)).fdiv (2 ^ 0))
    rw [e]
    simp
end Go.Proofs.YtjdcaipgfolgoaaDoor
