/-
  THE PAGE's KEEP AND ARENA: TwinInts whole, SpoilInts, count, Has. Own work.
-/
import Derived.Test.YtenllpaochcjfaaDoorSPd
namespace Go.Proofs.YtenllpaochcjfaaDoor
open Go.RowKit Go.Maps
set_option maxRecDepth 100000
attribute [local go_sem ↓] Go.wp_at_zero Go.wp_at_succ
theorem twin_ok {w : World} {v : Value} {xs : List Int} (h : RdW w v xs) (h4 : xs.length ≤ 1000) (hnil : ∀ c, v = .slice none 0 c → c = 0) : Calls Tryd.prog 11 #[v] w fun e w' => ∃ p c, e = .returned (.slice p xs.length c) ∧ w'.ownsRow w.heap.size 3 1 (.slice p xs.length c) xs.length (xs.map (Value.int .i64)) ∧ Below w.heap.size w w' := by
  obtain ⟨p, c, rfl, rfl | ⟨b, o, rfl, hb, hc⟩⟩ := h
  · cases p with
    | none =>
      obtain rfl := hnil c rfl
      refine (twin_nil w).mono ?_
      rintro e w' ⟨rfl, rfl⟩
      exact ⟨none, 0, rfl, World.ownsRow_nil _ _ _ _, Below.refl _ _⟩
    | some a =>
      refine (twin_none a c w).mono ?_
      rintro e w' ⟨v, rfl, hown, hB⟩
      obtain ⟨p, c, rfl⟩ := row_slice hown
      exact ⟨p, c, rfl, hown, hB⟩
  · refine (twin_some b o c xs _ rfl w h4 hc).mono ?_
    rintro e w' ⟨v, rfl, hown, hB⟩
    obtain ⟨p, c, rfl⟩ := row_slice hown
    exact ⟨p, c, rfl, hown, hB⟩
set_option maxHeartbeats 1000000 in
theorem spoil_nil (p : Option Addr) (c : Nat) (w : World) : Calls Tryd.prog 40 #[.slice p 0 c] w fun e w' => (∃ v, e = .returned v) ∧ w' = w := by
  go_enter Tryd.func40, Tryd.ntmps40
  go_wp2
  go_loopw [2] (fun i wr => i = .int .i64 0 ∧ wr = w) (fun _ _ => 0)
  case atStart => exact ⟨rfl, rfl⟩
  case round =>
    obtain ⟨rfl, rfl⟩ := hrel
    go_wp2
    go_end0
    exact ⟨⟨_, rfl⟩, rfl⟩
set_option maxHeartbeats 2000000 in
theorem spoil_some (g c n : Nat) (zs0 : List Value) (hn : n ≤ 1000) (w : World) (h : w.ownsRow 0 3 1 (.slice (some ⟨g, 0, none⟩) n c) n zs0) : Calls Tryd.prog 40 #[.slice (some ⟨g, 0, none⟩) n c] w fun e w' => (∃ v, e = .returned v) ∧ Keeps (fun k => k = g) w w' := by
  go_enter Tryd.func40, Tryd.ntmps40
  go_wp2
  go_loopw [2] (fun i wr => ∃ (j : Nat) (zs : List Value), j ≤ n ∧ i = .int .i64 j ∧ wr.ownsRow 0 3 1 (.slice (some ⟨g, 0, none⟩) n c) n zs ∧ Keeps (fun k => k = g) w wr) (fun i _ => n - (intOf i).toNat)
  case atStart => exact ⟨0, zs0, by omega, rfl, h, Keeps.refl _ _⟩
  case round =>
    obtain ⟨j, zs, hj, rfl, hown, hK⟩ := hrel
    by_cases hlt : j < n
    · have hlen := hown.1
      have hc := World.ownsRow.cellAt hown j (by omega)
      rw [List.getElem?_eq_getElem (by omega)] at hc
      have hf := World.ownsRow.frozenAt hown j
      generalize zs[j] = z at hc
      go_wp2
      obtain ⟨hs1, hs2⟩ := World.ownsRow.stored hown j (.int .i64 (-7777))
      exact ⟨⟨j + 1, _, by omega, by simp, hs1, hK.trans (Keeps.of_grown (F := fun k => k = g) hs2 (fun k hk => by cases hk; rfl)) (fun _ _ h => h)⟩, by simp [intOf]; omega⟩
    · go_wp2
      go_end0
      exact ⟨⟨_, rfl⟩, hK⟩
theorem spoil_ok {w : World} {v : Value} {xs : List Int} (h : IRow w v xs) (h4 : xs.length ≤ 1000) : Calls Tryd.prog 40 #[v] w fun e w' => (∃ v, e = .returned v) ∧ Keeps (fun k => v.ownBlock = some k) w w' := by
  rcases h.2 with ⟨h1, h2⟩ | ⟨g, cap, cur, h1, _⟩
  · subst h1
    refine (spoil_nil none 0 w).mono ?_
    rintro e w' ⟨he, rfl⟩
    exact ⟨he, Keeps.refl _ _⟩
  · subst h1
    refine (spoil_some g cap _ _ h4 w h).mono ?_
    rintro e w' ⟨he, hK⟩
    exact ⟨he, hK.mono (fun k _ hk => by subst hk; rfl)⟩
set_option maxHeartbeats 2000000 in
theorem count_ok (k n : Int) (w : World) : Calls Tryd.prog 56 #[.int .i64 k, .int .i64 n] w fun e w' => e = .returned (.bool (decide (n ≤ 400 ∧ ((k = 1 ∨ k = 2) → n = 0) ∧ ((k = 4 ∨ k = 5) → n = 1) ∧ ((k = 6 ∨ k = 8) → 1 ≤ n) ∧ (k = 7 → 2 ≤ n)))) ∧ w' = w := by
  go_enter Tryd.func56, Tryd.ntmps56
  go_wp2
  all_goals go_ret
  all_goals refine ⟨congrArg (fun x => Ending.returned (Value.bool x)) ?_, rfl⟩
  all_goals rw [Bool.eq_iff_iff]
  all_goals simp only [beq_iff_eq, decide_eq_true_eq, beq_eq_false_iff_ne, ne_eq, Bool.false_eq_true, false_iff, true_iff, gt_iff_lt, not_and, Classical.not_not] at *
  all_goals omega
end Go.Proofs.YtenllpaochcjfaaDoor
