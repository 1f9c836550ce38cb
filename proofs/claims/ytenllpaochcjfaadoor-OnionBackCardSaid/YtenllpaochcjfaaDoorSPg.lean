/-
  THE PAGE's Put, whole: it answers 'put' of the list. Own work.
-/
import Derived.Test.YtenllpaochcjfaaDoorSPg1
import Derived.Test.YtenllpaochcjfaaDoorSPg2
import Derived.Test.YtenllpaochcjfaaDoorSPg3
import Derived.Test.YtenllpaochcjfaaDoorSPg4
namespace Go.Proofs.YtenllpaochcjfaaDoor
open Go.RowKit Go.Maps
set_option maxRecDepth 100000
section
attribute [local go_sem ↓] Go.wp_at_zero Go.wp_at_succ
set_option maxHeartbeats 2000000 in
theorem pput_kind (a : Option Addr) (k n : Int) (v : Value) (h : k < 1 ∨ 9 < k) (w : World) : Calls Tryd.prog 37 #[.pointer a, .int .i64 k, .int .i64 n, v] w fun e w' => e = .returned (.tuple #[.int .i64 0, .int .i64 6]) ∧ w' = w := by
  rcases h with h | h
  all_goals (
    go_enter Tryd.func37, Tryd.ntmps37
    go_wp2
    go_ret2
    exact ⟨rfl, rfl⟩)
set_option maxHeartbeats 2000000 in
theorem pput_neg (a : Option Addr) (k n : Int) (v : Value) (h1 : 1 ≤ k) (h9 : k ≤ 9) (hn : n < 0) (w : World) : Calls Tryd.prog 37 #[.pointer a, .int .i64 k, .int .i64 n, v] w fun e w' => e = .returned (.tuple #[.int .i64 0, .int .i64 1]) ∧ w' = w := by
  go_enter Tryd.func37, Tryd.ntmps37
  go_wp2
  go_ret2
  exact ⟨rfl, rfl⟩
set_option maxHeartbeats 2000000 in
theorem pput_pos (a : Option Addr) (k n : Int) (v : Value) (h1 : 1 ≤ k) (h9 : k ≤ 9) (hn : 0 < n) (e1 : (k != 1) = true) (e2 : (k != 2) = true) (e4 : (k != 4) = true) (w : World) : Calls Tryd.prog 37 #[.pointer a, .int .i64 k, .int .i64 n, v] w fun e w' => e = .returned (.tuple #[.int .i64 0, .int .i64 1]) ∧ w' = w := by
  go_enter Tryd.func37, Tryd.ntmps37
  go_wp2
  go_ret2
  exact ⟨rfl, rfl⟩
end
theorem shape_cnt {k n : Int} {xs : List Int} (h1 : 1 ≤ k) (h9 : k ≤ 9) (hn : n = 0 ∨ (0 < n ∧ (k = 1 ∨ k = 2 ∨ k = 4))) : shape (k, n, xs) = if cntOk k xs.length then 0 else 2 := by
  unfold shape rightOf leastOf mostOf cntOk
  simp only
  (repeat' split) <;> omega
def Puts (w : World) (bb : Nat) (L : List Tm) (F : Nat → Prop) (t : Tm) (e : Ending) (w' : World) : Prop := e = .returned (.tuple #[.int .i64 (put L t).1, .int .i64 (put L t).2.1]) ∧ ∃ F', PAr w' bb (put L t).2.2 F' ∧ Keeps F w w' ∧ ∀ k, F' k → F k ∨ w.heap.size ≤ k
theorem puts_same {w w' : World} {bb : Nat} {L : List Tm} {F : Nat → Prop} {t : Tm} {a s : Int} (hp : put L t = (a, s, L)) (A : PAr w bb L F) (hB : Below w.heap.size w w') : Puts w bb L F t (.returned (.tuple #[.int .i64 a, .int .i64 s])) w' := pput_same hp A hB
/-- PUT. -/
theorem pput_ok {F : Nat → Prop} {w : World} {bb : Nat} {L : List Tm} (A : PAr w bb L F) (k n : Int) {v : Value} {xs : List Int} (hv : RdW w v xs) (hnil : NilCap v) (hn : n < 9223372036854775808) :
    Calls Tryd.prog 37 #[.pointer (some ⟨bb, 0, none⟩), .int .i64 k, .int .i64 n, v] w (Puts w bb L F (k, n, xs)) := by
  by_cases hk : k < 1 ∨ 9 < k
  · have hs : shape (k, n, xs) = 6 := by unfold shape rightOf; rw [if_pos hk]
    refine (pput_kind _ k n v hk w).mono ?_
    rintro e w' ⟨rfl, rfl⟩
    have hp := put_bad (L := L) (t := (k, n, xs)) (by rw [hs]; decide)
    rw [hs] at hp
    exact puts_same hp A (Below.refl _ _)
  have h1 : 1 ≤ k := by omega
  have h9 : k ≤ 9 := by omega
  by_cases hneg : n < 0
  · have hs : shape (k, n, xs) = 1 := by unfold shape rightOf; rw [if_neg hk, if_pos (.inl hneg)]
    refine (pput_neg _ k n v h1 h9 hneg w).mono ?_
    rintro e w' ⟨rfl, rfl⟩
    have hp := put_bad (L := L) (t := (k, n, xs)) (by rw [hs]; decide)
    rw [hs] at hp
    exact puts_same hp A (Below.refl _ _)
  by_cases hbad : 0 < n ∧ k ≠ 1 ∧ k ≠ 2 ∧ k ≠ 4
  · have hs : shape (k, n, xs) = 1 := by unfold shape rightOf; rw [if_neg hk, if_pos (.inr hbad)]
    refine (pput_pos _ k n v h1 h9 hbad.1 (by simpa using hbad.2.1) (by simpa using hbad.2.2.1) (by simpa using hbad.2.2.2) w).mono ?_
    rintro e w' ⟨rfl, rfl⟩
    have hp := put_bad (L := L) (t := (k, n, xs)) (by rw [hs]; decide)
    rw [hs] at hp
    exact puts_same hp A (Below.refl _ _)
  have hc := shape_cnt (xs := xs) h1 h9 (by omega : n = 0 ∨ (0 < n ∧ (k = 1 ∨ k = 2 ∨ k = 4)))
  have hkn : n = 0 ∨ (0 < n ∧ (k = 1 ∨ k = 2 ∨ k = 4)) := by omega
  clear hk hneg hbad
  obtain ⟨p, c, rfl⟩ := hv.form
  by_cases hcnt : cntOk k xs.length
  rotate_left
  · rw [if_neg hcnt] at hc
    have hp := put_bad (L := L) (t := (k, n, xs)) (by rw [hc]; decide)
    rw [hc] at hp
    rcases hkn with rfl | ⟨h0, rfl | rfl | rfl⟩
    · refine (pput_cnt0 k h1 h9 (decide_eq_false hcnt)).mono ?_
      rintro e w' ⟨rfl, hB⟩
      exact puts_same hp A hB
    · refine (pput_cnt1 n h0 (decide_eq_false hcnt)).mono ?_
      rintro e w' ⟨rfl, hB⟩
      exact puts_same hp A hB
    · refine (pput_cnt2 n h0 (decide_eq_false hcnt)).mono ?_
      rintro e w' ⟨rfl, hB⟩
      exact puts_same hp A hB
    · refine (pput_cnt4 n h0 (decide_eq_false hcnt)).mono ?_
      rintro e w' ⟨rfl, hB⟩
      exact puts_same hp A hB
  rw [if_pos hcnt] at hc
  have h400 : xs.length ≤ 400 := by have := hcnt.1; omega
  by_cases hfit : fitsIn L.length (k, n, xs)
  · have hN : Named (k, n, xs) := ⟨hc, hn, fitsIn_mono hfit A.wf.len⟩
    have hd : decide (∀ x ∈ xs, 0 ≤ x ∧ x < (L.length : Int)) = true := decide_eq_true hfit
    rcases hkn with rfl | ⟨h0, rfl | rfl | rfl⟩
    · exact pput_fit0 k h1 h9 A hv hnil rfl h400 (decide_eq_true hcnt) hd hN
    · exact pput_fit1 n h0 A hv hnil rfl h400 (decide_eq_true hcnt) hd hN
    · exact pput_fit2 n h0 A hv hnil rfl h400 (decide_eq_true hcnt) hd hN
    · exact pput_fit4 n h0 A hv hnil rfl h400 (decide_eq_true hcnt) hd hN
  · have hd : decide (∀ x ∈ xs, 0 ≤ x ∧ x < (L.length : Int)) = false := decide_eq_false hfit
    have hp := put_out hc hfit
    rcases hkn with rfl | ⟨h0, rfl | rfl | rfl⟩
    · refine (pput_out0 k h1 h9 A hv rfl h400 (decide_eq_true hcnt) hd).mono ?_
      rintro e w' ⟨rfl, hB⟩
      exact puts_same hp A hB
    · refine (pput_out1 n h0 A hv rfl h400 (decide_eq_true hcnt) hd).mono ?_
      rintro e w' ⟨rfl, hB⟩
      exact puts_same hp A hB
    · refine (pput_out2 n h0 A hv rfl h400 (decide_eq_true hcnt) hd).mono ?_
      rintro e w' ⟨rfl, hB⟩
      exact puts_same hp A hB
    · refine (pput_out4 n h0 A hv rfl h400 (decide_eq_true hcnt) hd).mono ?_
      rintro e w' ⟨rfl, hB⟩
      exact puts_same hp A hB
end Go.Proofs.YtenllpaochcjfaaDoor
