/-
 sha.Sum512: what it answers. Own work.
-/
import Derived.Test.YtheidgcgdkmmiaaDoorTd
namespace Go.Proofs.YtheidgcgdkmmiaaDoor
open Go.Sh
open Go.ChangeShapes Go.WideShapes Go.RowKit
set_option maxRecDepth 100000
def nuSQ (h win : Wd) (a n wh : Int) (h1 h2 : Wd) : Nat → Int := two (two (two h 64 win) 200 fun j => if j = 0 then a else if j = 1 then n else wh) 300 (two h1 8 h2)
section
variable {h win h1 h2 : Wd} {a n wh : Int}
theorem nuS_hQ {j : Nat} (hj : j < 8) : nuSQ h win a n wh h1 h2 j = h j := by
 unfold nuSQ
 rw [qbq (by omega), qbq (by omega), qbq (by omega)]
theorem nuS_wQ {j : Nat} (hj : j < 128) : nuSQ h win a n wh h1 h2 (64 + j) = win j := by
 unfold nuSQ
 rw [qbq (by omega), qbq (by omega), two_hi]
theorem nuS_1Q {j : Nat} (hj : j < 8) : nuSQ h win a n wh h1 h2 (300 + j) = h1 j := by
 unfold nuSQ
 rw [two_hi, qbq hj]
theorem nuS_2Q {j : Nat} : nuSQ h win a n wh h1 h2 (308 + j) = h2 j := by
 unfold nuSQ
 rw [show 308 + j = 300 + (8 + j) by omega, two_hi, two_hi]
end
/-! a length's bytes -/
theorem half_val {ν : Nat → Int} {x : AI} {m i : Nat} (hx : x.val ν = (m : Int)) (hm : m < 18446744073709551616) (hi : i < 8) : (half x i).val ν = ((m / 2 ^ (56 - 8 * i) % 256 : Nat) : Int) := by
 have hi0 : (AI.w .u32 (.e .shr .u64 x (nA 32))).val ν = ((m / 4294967296 % 4294967296 : Nat) : Int) := by
  show IntKind.u32.wrap (qaj .shr .u64 (x.val ν) ((32 : Nat) : Int)) = _
  rw [hx, shrN m 32 (by decide), w_u32]
 have lo0 : (AI.w .u32 x).val ν = ((m % 4294967296 : Nat) : Int) := by
  show IntKind.u32.wrap (x.val ν) = _
  rw [hx, w_u32]
 have bs : ∀ (y : AI) (m s : Nat), y.val ν = ((m : Nat) : Int) → s ≤ 32 → (AI.w .u8 (.e .shr .u32 y (nA s))).val ν = ((m / 2 ^ s % 256 : Nat) : Int) := by
  intro y m s hy hs
  show IntKind.u8.wrap (qaj .shr .u32 (y.val ν) ((s : Nat) : Int)) = _
  rw [hy, shrN (k := .u32) m s hs, w_u8]
 have b0 : ∀ (y : AI) (m : Nat), y.val ν = ((m : Nat) : Int) → (AI.w .u8 y).val ν = ((m % 256 : Nat) : Int) := by
  intro y m hy
  show IntKind.u8.wrap (y.val ν) = _
  rw [hy, w_u8]
 have fin : ∀ {p q : Nat}, p = q → ((p : Nat) : Int) = ((q : Nat) : Int) := fun h => congrArg _ h
 match i, hi with
 | 0, _ => exact (bs _ _ 24 hi0 (by decide)).trans (fin (by show _ = m / 72057594037927936 % 256; simp only [Nat.reducePow]; omega))
 | 1, _ => exact (bs _ _ 16 hi0 (by decide)).trans (fin (by show _ = m / 281474976710656 % 256; simp only [Nat.reducePow]; omega))
 | 2, _ => exact (bs _ _ 8 hi0 (by decide)).trans (fin (by show _ = m / 1099511627776 % 256; simp only [Nat.reducePow]; omega))
 | 3, _ => exact (b0 _ _ hi0).trans (fin (by show _ = m / 4294967296 % 256; omega))
 | 4, _ => exact (bs _ _ 24 lo0 (by decide)).trans (fin (by show _ = m / 16777216 % 256; simp only [Nat.reducePow]; omega))
 | 5, _ => exact (bs _ _ 16 lo0 (by decide)).trans (fin (by show _ = m / 65536 % 256; simp only [Nat.reducePow]; omega))
 | 6, _ => exact (bs _ _ 8 lo0 (by decide)).trans (fin (by show _ = m / 256 % 256; simp only [Nat.reducePow]; omega))
 | 7, _ => exact (b0 _ _ lo0).trans (fin (by show _ = m / 1 % 256; omega))
theorem lenP_valQ {ν : Nat → Int} {x : AI} {n i : Nat} (hx : x.val ν = (n : Int)) (hn : n < 1099511627776) (hi : i < 16) : (lenPQ x i).val ν = lenBQ n i := by
 unfold lenPQ lenBQ
 by_cases h : i < 8
 ·rw [if_pos (by simpa using h)]
  have e : (AI.e .shr .u64 x (nA 61)).val ν = ((0 : Nat) : Int) := by
   show qaj .shr .u64 (x.val ν) ((61 : Nat) : Int) = _
   rw [hx, shrN n 61 (by decide), Nat.div_eq_of_lt (by omega)]
  rw [half_val e (by decide) h, Nat.zero_div]
  have : 8 * n / 2 ^ (8 * (15 - i)) = 0 := by
   apply Nat.div_eq_of_lt
   have : 2 ^ 64 ≤ 2 ^ (8 * (15 - i)) := Nat.pow_le_pow_right (by decide) (by omega)
   omega
  rw [this]
 ·rw [if_neg (by simpa using h)]
  have e : (AI.e .shl .u64 x (nA 3)).val ν = ((n * 8 : Nat) : Int) := by
   show qaj .shl .u64 (x.val ν) ((3 : Nat) : Int) = _
   rw [hx, shl64 n 3 (by decide) (by omega)]
  rw [half_val e (by omega) (by omega), Nat.mul_comm n 8]
  have : 56 - 8 * (i - 8) = 8 * (15 - i) := by omega
  rw [this]
theorem lnA_valQ {ν : Nat → Int} {n : Nat} (h : ν 201 = (n : Int)) (hn : n < 1099511627776) : lnAQ.val ν = (n : Int) := by
 show IntKind.u64.wrap (ν 201) = _
 rw [h]
 exact w_u64 (by omega)
/-! a rest, with what is laid behind -/
theorem tot_divQ (n : Nat) : qao n / 128 = (n + 16) / 128 + 1 := by unfold qao; omega
theorem reA_ltQ {r j : Nat} (h : j < r) : reAQ r j = .s (64 + j) := if_pos (by simpa using h)
theorem reA_eqQ (r : Nat) : reAQ r r = nA 128 := by
 unfold reAQ
 rw [if_neg (by simp), if_pos (Nat.beq_refl _)]
theorem reA_gtQ {r j : Nat} (h : r < j) : reAQ r j = .c 0 := by
 unfold reAQ
 rw [if_neg (by simp; omega), if_neg fun h' => by have := Nat.eq_of_beq_eq_true h'; omega]
theorem endA_ltQ {x : AI} {g : Nat → AI} {j : Nat} (h : j < 112) : endAQ x g j = g j := if_pos (by simpa using h)
theorem endA_geQ {x : AI} {g : Nat → AI} {j : Nat} (h : 112 ≤ j) : endAQ x g j = lenPQ x (j - 112) := if_neg (by simp; omega)
section
variable {z : Wd} {n j : Nat}
theorem pd_ltQ (h : j < n) : qaq z n j = z j := if_pos h
theorem pd_eqQ (h : j = n) : qaq z n j = 128 := by
 unfold qaq
 rw [if_neg (by omega), if_pos h]
theorem pd_midQ (h1 : n < j) (h2 : j < qao n - 16) : qaq z n j = 0 := by
 unfold qaq
 rw [if_neg (by omega), if_neg (by omega), if_pos h2]
theorem pd_endQ (h1 : n < j) (h2 : qao n - 16 ≤ j) : qaq z n j = lenBQ n (j - (qao n - 16)) := by
 unfold qaq
 rw [if_neg (by omega), if_neg (by omega), if_neg (by omega)]
end
theorem end_shortQ {z : Wd} {n q r : Nat} (hq : n = 128 * q + r) (hr : r < 112) {ν : Nat → Int} (hw : ∀ j, j < r → ν (64 + j) = z (128 * q + j)) {x : AI} (hx : x.val ν = (n : Int)) (hn : n < 1099511627776) : ∀ j, j < 128 → (endAQ x (reAQ r) j).val ν = qaq z n (128 * q + j) := by
 intro j hj
 have ht : qao n = 128 * q + 128 := by unfold qao; omega
 by_cases h1 : j < 112
 ·rw [endA_ltQ h1]
  rcases Nat.lt_trichotomy j r with h2 | h2 | h2
  ·rw [reA_ltQ h2, pd_ltQ (by omega)]
   exact hw j h2
  ·rw [h2, reA_eqQ, pd_eqQ hq.symm]
   rfl
  ·rw [reA_gtQ h2, pd_midQ (by omega) (by omega)]
   rfl
 ·rw [endA_geQ (by omega), pd_endQ (by omega) (by omega), lenP_valQ hx hn (by omega), ht]
  congr 1
  omega
theorem end_long1Q {z : Wd} {n q r : Nat} (hq : n = 128 * q + r) (hr : r < 128) (hr2 : 112 ≤ r) {ν : Nat → Int} (hw : ∀ j, j < r → ν (64 + j) = z (128 * q + j)) : ∀ j, j < 128 → (reAQ r j).val ν = qaq z n (128 * q + j) := by
 intro j hj
 have ht : qao n = 128 * q + 256 := by unfold qao; omega
 rcases Nat.lt_trichotomy j r with h2 | h2 | h2
 ·rw [reA_ltQ h2, pd_ltQ (by omega)]
  exact hw j h2
 ·rw [h2, reA_eqQ, pd_eqQ hq.symm]
  rfl
 ·rw [reA_gtQ h2, pd_midQ (by omega) (by omega)]
  rfl
theorem end_long2Q {z : Wd} {n q r : Nat} (hq : n = 128 * q + r) (hr : r < 128) (hr2 : 112 ≤ r) {ν : Nat → Int} {x : AI} (hx : x.val ν = (n : Int)) (hn : n < 1099511627776) : ∀ j, j < 128 → (endAQ x zeroA j).val ν = qaq z n (128 * (q + 1) + j) := by
 intro j hj
 have ht : qao n = 128 * q + 256 := by unfold qao; omega
 by_cases h1 : j < 112
 ·rw [endA_ltQ h1, pd_midQ (by omega) (by omega)]
  rfl
 ·rw [endA_geQ (by omega), pd_endQ (by omega) (by omega), lenP_valQ hx hn (by omega), ht]
  congr 1
  omega
theorem ad_range (x y : Int) : ∃ m : Nat, adI p512 x y = (m : Int) ∧ m < 18446744073709551616 := by
 show ∃ m : Nat, IntKind.u64.wrap (x + y) = (m : Int) ∧ m < 18446744073709551616
 have h : 0 ≤ IntKind.u64.wrap (x + y) ∧ IntKind.u64.wrap (x + y) < 18446744073709551616 := by
  simp only [IntKind.wrap, IntKind.bits, IntKind.signed]
  simp
  omega
 exact ⟨(IntKind.u64.wrap (x + y)).toNat, by omega, by omega⟩
theorem outA_valQ {ν : Nat → Int} {h : Wd} (hh : ∀ j, j < 8 → ν (308 + j) = h j) (hr : ∀ j, j < 8 → ∃ m : Nat, h j = (m : Int) ∧ m < 18446744073709551616) {j : Nat} (hj : j < 64) : (outAQ j).val ν = out256Q h j := by
 obtain ⟨m, h1, h2⟩ := hr (j / 8) (by omega)
 have e : ν (308 + j / 8) = (m : Int) := (hh _ (by omega)).trans h1
 have hm : j % 8 < 8 := Nat.mod_lt _ (by decide)
 have h3 : (outAQ j).val ν = ((m / 2 ^ (56 - 8 * (j % 8)) % 256 : Nat) : Int) := half_val (x := .s (308 + j / 8)) e h2 hm
 rw [h3]
 show _ = IntKind.u8.wrap (qaj .shr .u64 (h (j / 8)) ((56 - 8 * (j % 8) : Nat) : Int))
 rw [h1, shrN (k := .u64) m _ (by show 56 - 8 * (j % 8) ≤ 64; omega), w_u8]
end Go.Proofs.YtheidgcgdkmmiaaDoor
