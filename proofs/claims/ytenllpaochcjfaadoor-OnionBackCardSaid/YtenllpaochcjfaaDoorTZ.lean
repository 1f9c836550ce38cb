/-
  TERMS: Open over an arena of a list. Own work.
-/
import Derived.Test.YtenllpaochcjfaaDoorTX
namespace Go.Proofs.YtenllpaochcjfaaDoor
open Go.RowKit Go.Maps
set_option maxRecDepth 100000
attribute [local go_sem ↓] Go.wp_at_zero Go.wp_at_succ
section
variable {ab ao m : Nat} {g cp : Nat} {w : World} {np : Option Addr}
set_option maxHeartbeats 4000000 in
theorem open_no1 (i k : Int) (c0 : w.cell? ⟨ab, ao, none⟩ = some (.slice np m cp)) (h : decide (0 ≤ i ∧ i < m) = false) : Calls Tryd.prog 38 #[.pointer (some ⟨ab, ao, none⟩), .int .i64 i, .int .i64 k] w fun e w' => e = .returned (.tuple #[.slice none 0 0, .int .i64 8]) ∧ w' = w := by
  go_enter Tryd.func38, Tryd.ntmps38
  go_wp2_with (go_at_call 43; refine (has_ok ⟨ab, ao, none⟩ _ _ m cp _ c0).mono ?_; rintro ev w ⟨rfl, rfl⟩; rw [h])
  go_ret2
  exact ⟨rfl, rfl⟩
set_option maxHeartbeats 4000000 in
theorem open_no2 (i k : Int) (c0 : w.cell? ⟨ab, ao, none⟩ = some (.slice np m cp)) (h : decide (0 ≤ i ∧ i < m) = true) (h2 : decide (0 ≤ k ∧ k < m) = false) : Calls Tryd.prog 38 #[.pointer (some ⟨ab, ao, none⟩), .int .i64 i, .int .i64 k] w fun e w' => e = .returned (.tuple #[.slice none 0 0, .int .i64 8]) ∧ w' = w := by
  go_enter Tryd.func38, Tryd.ntmps38
  go_wp2_with (go_at_call 43; refine (has_ok ⟨ab, ao, none⟩ _ _ m cp _ c0).mono ?_; rintro ev w ⟨rfl, rfl⟩; first | rw [h] | rw [h2])
  go_ret2
  exact ⟨rfl, rfl⟩
variable (i k : Nat) (hi : i < m) (hk : k < m) (c0 : w.cell? ⟨ab, ao, none⟩ = some (.slice (some ⟨g, 0, none⟩) m cp)) (hab : ab < w.heap.size) (hg : g < w.heap.size)
include hi hk c0 hab hg
set_option maxHeartbeats 4000000 in
theorem open_kind (kd n : Int) (p4 : Option Addr) (l4 c4 : Nat) (n0 : w.cell? ⟨g, i * 3, none⟩ = some (.int .i64 kd)) (n1 : w.cell? ⟨g, i * 3 + 1, none⟩ = some (.int .i64 n)) (n2 : w.cell? ⟨g, i * 3 + 2, none⟩ = some (.slice p4 l4 c4)) (hkd : kd ≠ 6) : Calls Tryd.prog 38 #[.pointer (some ⟨ab, ao, none⟩), .int .i64 i, .int .i64 k] w fun e w' => e = .returned (.tuple #[.slice none 0 0, .int .i64 6]) ∧ Below w.heap.size w w' := by
  have h : decide ((0 : Int) ≤ i ∧ (i : Int) < m) = true := decide_eq_true (by omega)
  have h2 : decide ((0 : Int) ≤ k ∧ (k : Int) < m) = true := decide_eq_true (by omega)
  go_enter Tryd.func38, Tryd.ntmps38
  go_wp2_with (go_at_call 43; refine (has_ok ⟨ab, ao, none⟩ _ _ m cp _ c0).mono ?_; rintro ev w ⟨rfl, rfl⟩; first | rw [h] | rw [h2])
  go_ret2
  exact ⟨rfl, (Below.refl _ w).alloc (Nat.le_refl _) _⟩
set_option maxHeartbeats 4000000 in
theorem open_else (n : Int) (b o l4 c4 : Nat) (q : Int) (n0 : w.cell? ⟨g, i * 3, none⟩ = some (.int .i64 6)) (n1 : w.cell? ⟨g, i * 3 + 1, none⟩ = some (.int .i64 n)) (n2 : w.cell? ⟨g, i * 3 + 2, none⟩ = some (.slice (some ⟨b, o, none⟩) l4 c4)) (hb : b < w.heap.size) (hl : 0 < l4) (a0 : w.cell? ⟨b, o, none⟩ = some (.int .i64 q)) (hs : q ≠ k) : Calls Tryd.prog 38 #[.pointer (some ⟨ab, ao, none⟩), .int .i64 i, .int .i64 k] w fun e w' => e = .returned (.tuple #[.slice none 0 0, .int .i64 3]) ∧ Below w.heap.size w w' := by
  have h : decide ((0 : Int) ≤ i ∧ (i : Int) < m) = true := decide_eq_true (by omega)
  have h2 : decide ((0 : Int) ≤ k ∧ (k : Int) < m) = true := decide_eq_true (by omega)
  go_enter Tryd.func38, Tryd.ntmps38
  go_wp2_with (go_at_call 43; refine (has_ok ⟨ab, ao, none⟩ _ _ m cp _ c0).mono ?_; rintro ev w ⟨rfl, rfl⟩; first | rw [h] | rw [h2])
  go_ret2
  exact ⟨rfl, (Below.refl _ w).alloc (Nat.le_refl _) _⟩
set_option maxHeartbeats 4000000 in
theorem open_yes (n : Int) (b o l4 c4 : Nat) (n0 : w.cell? ⟨g, i * 3, none⟩ = some (.int .i64 6)) (n1 : w.cell? ⟨g, i * 3 + 1, none⟩ = some (.int .i64 n)) (n2 : w.cell? ⟨g, i * 3 + 2, none⟩ = some (.slice (some ⟨b, o, none⟩) l4 c4)) (hb : b < w.heap.size) (hl : 1 ≤ l4) (hlc : l4 ≤ c4) (a0 : w.cell? ⟨b, o, none⟩ = some (.int .i64 k)) (xs : List Int) (hxs : xs.length = l4 - 1) (h4 : l4 ≤ 1000) (hR : Reads w (.slice (some ⟨b, o + 1, none⟩) (l4 - 1) (c4 - 1)) xs) (hR2 : c4 = 1 → Reads w (.slice (some ⟨b, o, none⟩) (l4 - 1) 0) xs) : Calls Tryd.prog 38 #[.pointer (some ⟨ab, ao, none⟩), .int .i64 i, .int .i64 k] w fun e w' => ∃ p c, e = .returned (.tuple #[.slice p (l4 - 1) c, .int .i64 0]) ∧ w'.ownsRow w.heap.size 3 1 (.slice p (l4 - 1) c) (l4 - 1) (xs.map (Value.int .i64)) ∧ Below w.heap.size w w' := by
  have h : decide ((0 : Int) ≤ i ∧ (i : Int) < m) = true := decide_eq_true (by omega)
  have h2 : decide ((0 : Int) ≤ k ∧ (k : Int) < m) = true := decide_eq_true (by omega)
  have hBB : ∀ (w : World) o1, Below w.heap.size w (w.alloc o1) := fun w o1 => (Below.refl _ w).alloc (Nat.le_refl _) o1
  go_enter Tryd.func38, Tryd.ntmps38
  go_wp2_with (first
    | (go_at_call 43; refine (has_ok ⟨ab, ao, none⟩ _ _ m cp _ c0).mono ?_; rintro ev w ⟨rfl, rfl⟩; first | rw [h] | rw [h2])
    | (go_at_call 45; refine (clone_rd (by first | exact (hR2 (by omega)).below (hBB _ _) | exact hR.below (hBB _ _)) (by omega)).mono ?_; rintro ev w4 ⟨p5, c5, rfl, hown4, hB4⟩; rw [hxs] at hown4; simp only [hxs]))
  all_goals (
    go_ret2
    exact ⟨p5, c5, rfl, row_lower hown4 (by simp), (hBB _ _).trans (hB4.mono (by simp))⟩)
end
/-- WHAT OPEN ANSWERS. -/
def openOf (L : List Tm) (i k : Int) : List Int × Int :=
  if ¬ (inL L i ∧ inL L k) then ([], 8) else if (tmAt L i).1 ≠ 6 then ([], 6) else if arg0 (tmAt L i) ≠ k then ([], 3) else ((tmAt L i).2.2.drop 1, 0)
theorem open_ok {F : Nat → Prop} {w : World} {ab : Nat} {L : List Tm} (A : Ar w ab L F) (i k : Int) : Calls Tryd.prog 38 #[.pointer (some ⟨ab, 0, none⟩), .int .i64 i, .int .i64 k] w (TellsRow w (openOf L i k)) := by
  obtain ⟨np, cp, c0, hab⟩ := A.head
  unfold openOf
  by_cases hi : inL L i
  rotate_left
  · rw [if_pos (fun h => hi h.1)]
    refine (open_no1 i k c0 (decide_eq_false hi)).mono ?_
    rintro e w' ⟨rfl, rfl⟩
    exact tells_none (Below.refl _ _)
  by_cases hk : inL L k
  rotate_left
  · rw [if_pos (fun h => hk h.2)]
    refine (open_no2 i k c0 (decide_eq_true hi) (decide_eq_false hk)).mono ?_
    rintro e w' ⟨rfl, rfl⟩
    exact tells_none (Below.refl _ _)
  rw [if_neg (fun h => h ⟨hi, hk⟩)]
  obtain ⟨i, rfl⟩ : ∃ j : Nat, i = j := ⟨i.toNat, by have := hi.1; omega⟩
  obtain ⟨k, rfl⟩ : ∃ j : Nat, k = j := ⟨k.toNat, by have := hk.1; omega⟩
  have hi' : i < L.length := by have := hi.2; omega
  have hk' : k < L.length := by have := hk.2; omega
  rw [tmAt_nat hi']
  by_cases h7 : L[i].1 = 6
  rotate_left
  · rw [if_pos h7]
    obtain ⟨g, cp, p4, c4, c0, hab, hg, _, n0, n1, n2, _⟩ := A.node i hi'
    refine (open_kind i k hi' hk' c0 hab hg _ _ p4 _ c4 n0 n1 n2 h7).mono ?_
    rintro e w' ⟨rfl, hB⟩
    exact tells_none hB
  rw [if_neg (fun h => h h7)]
  have hl := kind68 (A.wf.good i hi').1 (.inl h7)
  obtain ⟨g, cp, b, c4, c0, hab, hg, n0, n1, n2, hb, hc, hcs⟩ := A.args i hi' (by omega)
  have a0 := hcs 0 (by omega)
  rw [h7] at n0
  by_cases hs : arg0 L[i] = k
  · rw [if_neg (fun h => h hs)]
    rw [show L[i].2.2.getD 0 0 = (k : Int) from hs] at a0
    refine (open_yes i k hi' hk' c0 hab hg _ b 0 _ c4 n0 n1 n2 hb hl hc a0 (L[i].2.2.drop 1) (by simp) (by have := (shape_k (A.wf.good i hi').1).2.2.2; omega) (drop_reads 1 hb rfl hl hcs) (fun h => .inr ⟨b, 0, 0, by simp, hb, fun t ht => by simp at ht; omega⟩)).mono ?_
    rintro e w' ⟨p, c, rfl, hown, hB⟩
    have e2 : (L[i].2.2.drop 1).length = L[i].2.2.length - 1 := by simp
    unfold TellsRow
    simp only [e2]
    exact ⟨p, c, rfl, hown, hB⟩
  · rw [if_pos hs]
    refine (open_else i k hi' hk' c0 hab hg _ b 0 _ c4 _ n0 n1 n2 hb (by omega) a0 hs).mono ?_
    rintro e w' ⟨rfl, hB⟩
    exact tells_none hB
end Go.Proofs.YtenllpaochcjfaaDoor
