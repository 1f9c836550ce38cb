/-
  STEPS: Heavy and Some. Own work.
-/
import Derived.Test.YtenllpaochcjfaaDoorSPa
namespace Go.Proofs.YtenllpaochcjfaaDoor
open Go.RowKit Go.Maps
set_option maxRecDepth 100000
attribute [local go_sem ↓] Go.wp_at_zero Go.wp_at_succ
theorem RdW.form {w : World} {v : Value} {xs : List Int} (h : RdW w v xs) : ∃ p c, v = .slice p xs.length c := by
  obtain ⟨p, c, rfl, _⟩ := h
  exact ⟨p, c, rfl⟩
set_option maxHeartbeats 1000000 in
theorem heavy_nil (p : Option Addr) (c : Nat) (w : World) : Calls Tryd.prog 6 #[.slice p 0 c] w fun e w' => w' = w ∧ e = .returned (.bool false) := by
  go_enter Tryd.func6, Tryd.ntmps6
  go_wp2
  go_loopw [3] (fun i wr => i = .int .i64 0 ∧ wr = w) (fun _ _ => 0)
  case atStart => exact ⟨rfl, rfl⟩
  case round =>
    obtain ⟨rfl, rfl⟩ := hrel
    go_wp2
    go_ret
    exact ⟨rfl, rfl⟩
set_option maxHeartbeats 4000000 in
theorem heavy_some (b o c : Nat) (S : List St) (n : Nat) (hn : S.length = n) (w : World) (HS : Hid (∀ i (h : i < S.length), StAt w b (o + i * 4) S[i])) : Calls Tryd.prog 6 #[.slice (some ⟨b, o, none⟩) n c] w fun e w' => w' = w ∧ ∃ r, e = .returned (.bool r) ∧ (r = false → n ≤ 600 ∧ ∀ i s, S[i]? = some s → i < 150 → s.xs.length ≤ 420) := by
  go_enter Tryd.func6, Tryd.ntmps6
  go_wp2
  · go_ret
    exact ⟨rfl, _, rfl, fun h => by cases h⟩
  · go_loopw [3] (fun i wr => ∃ j : Nat, i = .int .i64 j ∧ j ≤ 150 ∧ j ≤ n ∧ (∀ i s, S[i]? = some s → i < j → s.xs.length ≤ 420) ∧ wr = w) (fun i _ => 150 - (intOf i).toNat)
    case atStart => exact ⟨0, rfl, by omega, by omega, fun i s _ h => by omega, rfl⟩
    case round =>
      obtain ⟨j, rfl, hj, hjn, hall, rfl⟩ := hrel
      have HA := (show Hid _ from hall)
      clear hall
      by_cases hlt : j < n ∧ j < 150
      · obtain ⟨h1, h2⟩ := hlt
        have hst := HS.out j (by omega)
        obtain ⟨q, c4, hv⟩ := hst.args.form
        have hcell := hst.v
        rw [hv] at hcell
        have HL := (show Hid (S[j]? = some S[j]) from List.getElem?_eq_getElem (by omega))
        clear hst hv
        generalize S[j] = s at HL hcell
        go_wp2
        · go_ret
          exact ⟨rfl, _, rfl, fun h => by cases h⟩
        · refine ⟨⟨j + 1, by simp, by omega, by omega, fun i s' hs hi => ?_, trivial⟩, by simp [intOf]; omega⟩
          rcases Nat.lt_or_ge i j with h | h
          · exact HA.out i s' hs h
          · obtain rfl : i = j := by omega
            have := HL.out
            rw [this] at hs
            cases hs
            omega
      · have hd : ¬ (j < n ∧ j < 150) := hlt
        clear hlt
        rcases (show ¬ j < n ∨ (j < n ∧ ¬ j < 150) by omega) with h1 | ⟨h1, h2⟩
        all_goals (
          clear hd
          go_wp2
          go_ret
          exact ⟨rfl, _, rfl, fun _ => ⟨by omega, fun i s hs hi => HA.out i s hs (by have := (List.getElem?_eq_some_iff.1 hs).1; omega)⟩⟩)
theorem heavy_ok {v : Value} {S : List St} {w : World} (h : Steps w v S) : Calls Tryd.prog 6 #[v] w fun e w' => w' = w ∧ ∃ r, e = .returned (.bool r) ∧ (r = false → S.length ≤ 600 ∧ ∀ i s, S[i]? = some s → i < 150 → s.xs.length ≤ 420) := by
  obtain ⟨p, c, rfl, rfl | ⟨b, o, rfl, hb, hc⟩⟩ := h
  · refine (heavy_nil p c w).mono ?_
    rintro e w' ⟨rfl, rfl⟩
    exact ⟨rfl, _, rfl, fun _ => ⟨by simp, fun i s h => by simp at h⟩⟩
  · exact heavy_some b o c S _ rfl w hc
/-! Some -/
def someI (n x : Int) : Int := if 0 < n ∧ 0 ≤ x then x % n else x
theorem some_snoc {xs : List Int} {n : Int} {j : Nat} (h : j < xs.length) : ((xs.take (j + 1)).map (someI n)).map (Value.int .i64) = ((xs.take j).map (someI n)).map (Value.int .i64) ++ [.int .i64 (someI n (xs.getD j 0))] := by
  rw [List.take_add_one, List.getElem?_eq_getElem h, List.map_append, List.map_append, List.getD_eq_getElem?_getD, List.getElem?_eq_getElem h]
  rfl
set_option maxHeartbeats 4000000 in
theorem some_some (b o c : Nat) (n : Int) (xs : List Int) (l : Nat) (hl : xs.length = l) (h4 : l ≤ 1000) (w : World) (hn : 0 ≤ n) (hb : b < w.heap.size) (HC : Hid (∀ t, t < l → w.cell? ⟨b, o + t, none⟩ = some (.int .i64 (xs.getD t 0)))) : Calls Tryd.prog 9 #[.slice (some ⟨b, o, none⟩) l c, .int .i64 n] w fun e w' => ∃ v, e = .returned v ∧ w'.ownsRow w.heap.size 3 1 v l ((xs.map (someI n)).map (Value.int .i64)) ∧ Below w.heap.size w w' := by
  obtain ⟨i0, hi, hz0, hz1, hz2⟩ := info_parts (P := Tryd.prog) (e := 3) (z := .int .i64 0) (size := 1) (bytes := 8) (by kernel_rfl)
  go_enter Tryd.func9, Tryd.ntmps9
  go_wp2
  go_loopw [5, 6] (fun v i wr => ∃ (j : Nat) (p : Option Addr) (cc : Nat), j ≤ l ∧ i = .int .i64 j ∧ v = .slice p j cc ∧ wr.ownsRow w.heap.size 3 1 (.slice p j cc) j (((xs.take j).map (someI n)).map (Value.int .i64)) ∧ Below w.heap.size w wr)
    (fun _ i _ => l - (intOf i).toNat)
  case atStart => exact ⟨0, none, 0, by omega, rfl, rfl, World.ownsRow_nil _ _ _ _, Below.refl _ _⟩
  case round =>
    obtain ⟨j, p, cc, hj, rfl, rfl, hown, hB⟩ := hrel
    by_cases hlt : j < l
    · have hcell := (hB.cell (p := ⟨b, o + j, none⟩) hb).trans (HC.out j hlt)
      generalize hx : xs.getD j 0 = x at hcell
      have HX := (show Hid _ from hx)
      clear hx
      have hown2 : ∀ ob, (wr.alloc ob).ownsRow w.heap.size 3 1 (.slice p j cc) j (((xs.take j).map (someI n)).map (Value.int .i64)) := fun ob => hown.alloc ob
      go_wp2_with (first
        | (at_builtin; refine wpList_append_own _ rfl (.tmp 27) (.tmp 29) 23 rfl w.heap.size 3 i0 (.int .i64 0) 1 8 Tryd.underlying23 hi hz0 hz1 hz2 rfl (by decide) (.slice p j cc) j _ rfl (hown2 _) ⟨wr.heap.size, 0, none⟩ 1 1 [_] rfl rfl (news1 _ _ _) (fun u hu => by simp at hu; subst hu; rfl) (by unfold maxLen; omega) (by omega) (by have := hB.size; simp; omega) ?_; intro v' w3 hown3 hgrow3 _))
      all_goals (
        obtain ⟨p', c', rfl⟩ := row_slice hown3
        refine ⟨⟨j + 1, p', c', by omega, by simp, rfl, ?_, (hB.alloc hB.size _).grown hgrow3 (by have := hB.size; simp; omega) (fun k hk => (row_base hown hk).1)⟩, by simp [intOf]; omega⟩
        rw [some_snoc (by omega), HX.out]
        first
          | (rw [show someI n x = x % n from if_pos ⟨by omega, by omega⟩]; exact hown3)
          | (rw [show someI n x = x from if_neg (by omega)]; exact hown3))
    · go_wp2
      go_ret
      obtain rfl : j = l := by omega
      rw [List.take_of_length_le (by omega)] at hown
      exact ⟨_, rfl, hown, hB⟩
set_option maxHeartbeats 1000000 in
theorem some_nil (p : Option Addr) (c : Nat) (n : Int) (w : World) : Calls Tryd.prog 9 #[.slice p 0 c, .int .i64 n] w fun e w' => e = .returned (.slice none 0 0) ∧ w' = w := by
  go_enter Tryd.func9, Tryd.ntmps9
  go_wp2
  go_loopw [5, 6] (fun v i wr => v = .slice none 0 0 ∧ i = .int .i64 0 ∧ wr = w) (fun _ _ _ => 0)
  case atStart => exact ⟨rfl, rfl, rfl⟩
  case round =>
    obtain ⟨rfl, rfl, rfl⟩ := hrel
    go_wp2
    go_ret
    exact ⟨rfl, rfl⟩
theorem some_ok {w : World} {v : Value} {xs : List Int} (h : RdW w v xs) (n : Int) (hn : 0 ≤ n) (h4 : xs.length ≤ 1000) : Calls Tryd.prog 9 #[v, .int .i64 n] w fun e w' => ∃ p c, e = .returned (.slice p xs.length c) ∧ w'.ownsRow w.heap.size 3 1 (.slice p xs.length c) xs.length ((xs.map (someI n)).map (Value.int .i64)) ∧ Below w.heap.size w w' := by
  obtain ⟨p, c, rfl, rfl | ⟨b, o, rfl, hb, hc⟩⟩ := h
  · refine (some_nil p c n w).mono ?_
    rintro e w' ⟨rfl, rfl⟩
    exact ⟨none, 0, rfl, World.ownsRow_nil _ _ _ _, Below.refl _ _⟩
  · refine (some_some b o c n xs _ rfl h4 w hn hb hc).mono ?_
    rintro e w' ⟨v, rfl, hown, hB⟩
    obtain ⟨p, c, rfl⟩ := row_slice hown
    exact ⟨p, c, rfl, hown, hB⟩
end Go.Proofs.YtenllpaochcjfaaDoor
