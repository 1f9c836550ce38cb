/-
  THE PAGE's KEEP: Twin, TwinBools, Bools, SpoilBytes. Own work.
-/
import Derived.Test.YtgcndphocpedjaaDKu
namespace Go.Proofs.Ytgcndphocpedjaa
open Go.ChangeShapes Go.WideShapes Go.ChangeAt Go.RowKit Go.Maps Go.Deep
set_option maxRecDepth 100000
attribute [local go_sem ↓] Go.wp_at_zero Go.wp_at_succ

set_option maxHeartbeats 1000000 in
theorem twinB_ok {w : World} {v : Value} {cs : List Value} (h : RdV w v cs) (h4 : cs.length ≤ 1000) (h1 : ∀ u ∈ cs, u.oneCell' = true) : Calls Try.prog 29 #[v] w fun e w' => ∃ v, e = .returned v ∧ w'.ownsRow w.heap.size 5 1 v cs.length cs ∧ Below w.heap.size w w' := by
  obtain ⟨i0, hi, hz0, hz1, hz2⟩ := info_parts (P := Try.prog) (e := 5) (z := .int .u8 0) (size := 1) (bytes := 1) (by kernel_rfl)
  have h0 := h
  obtain ⟨p, c, rfl, hcs⟩ := h
  cases p with
  | none =>
    have : cs = [] := by
      rcases hcs with h | ⟨b, o, h, _⟩
      · exact h
      · cases h
    subst this
    clear h0 hcs
    go_enter Try.func29, Try.ntmps29
    go_wp2
    go_ret
    exact ⟨_, rfl, World.ownsRow_nil _ _ _ _, Below.refl _ _⟩
  | some a =>
    have HC := (show Hid _ from rdv_news h0)
    have H1 := (show Hid _ from h1)
    clear h0 hcs h1
    go_enter Try.func29, Try.ntmps29
    go_wp2_with (at_builtin; refine wpList_append_own _ rfl (.tmp 4) (.tmp 5) 32 rfl w.heap.size 5 i0 (.int .u8 0) 1 1 Try.underlying32 hi hz0 hz1 hz2 rfl (by decide) (.slice none 0 0) 0 [] rfl (World.ownsRow_nil _ _ _ _) a cs.length c cs rfl (by simp) HC.out H1.out (by unfold maxLen; omega) (by omega) (by simp) ?_; intro v' w1 hown1 hgrow1 _)
    go_ret
    exact ⟨v', rfl, by simpa using hown1, (Below.refl _ _).grown hgrow1 (Nat.le_refl _) (fun _ hk => by simp [Value.ownBlock] at hk)⟩

set_option maxHeartbeats 1000000 in
theorem twinL_ok {w : World} {v : Value} {cs : List Value} (h : RdV w v cs) (h4 : cs.length ≤ 1000) (h1 : ∀ u ∈ cs, u.oneCell' = true) : Calls Try.prog 23 #[v] w fun e w' => ∃ v, e = .returned v ∧ w'.ownsRow w.heap.size 4 1 v cs.length cs ∧ Below w.heap.size w w' := by
  obtain ⟨i0, hi, hz0, hz1, hz2⟩ := info_parts (P := Try.prog) (e := 4) (z := .bool false) (size := 1) (bytes := 1) (by kernel_rfl)
  have h0 := h
  obtain ⟨p, c, rfl, hcs⟩ := h
  cases p with
  | none =>
    have : cs = [] := by
      rcases hcs with h | ⟨b, o, h, _⟩
      · exact h
      · cases h
    subst this
    clear h0 hcs
    go_enter Try.func23, Try.ntmps23
    go_wp2
    go_ret
    exact ⟨_, rfl, World.ownsRow_nil _ _ _ _, Below.refl _ _⟩
  | some a =>
    have HC := (show Hid _ from rdv_news h0)
    have H1 := (show Hid _ from h1)
    clear h0 hcs h1
    go_enter Try.func23, Try.ntmps23
    go_wp2_with (at_builtin; refine wpList_append_own _ rfl (.tmp 4) (.tmp 5) 33 rfl w.heap.size 4 i0 (.bool false) 1 1 Try.underlying33 hi hz0 hz1 hz2 rfl (by decide) (.slice none 0 0) 0 [] rfl (World.ownsRow_nil _ _ _ _) a cs.length c cs rfl (by simp) HC.out H1.out (by unfold maxLen; omega) (by omega) (by simp) ?_; intro v' w1 hown1 hgrow1 _)
    go_ret
    exact ⟨v', rfl, by simpa using hown1, (Below.refl _ _).grown hgrow1 (Nat.le_refl _) (fun _ hk => by simp [Value.ownBlock] at hk)⟩
set_option maxHeartbeats 4000000 in
theorem bools_same {w : World} {u v : Value} {bs : List Bool} (h1 : RdV w u (bs.map Value.bool)) (h2 : RdV w v (bs.map Value.bool)) (hl : bs.length ≤ 1000) : Calls Try.prog 25 #[u, v] w fun e w' => e = .returned (.bool true) ∧ Below w.heap.size w w' := by
  obtain ⟨p, c, rfl⟩ := rdv_shape h1
  obtain ⟨q, e, rfl⟩ := rdv_shape h2
  simp only [List.length_map] at h1 h2 ⊢
  go_enter Try.func25, Try.ntmps25
  go_wp2
  go_loopw [5] (fun i wq => ∃ j : Nat, i = .int .i64 j ∧ j ≤ bs.length ∧ Below w.heap.size w wq) (fun i _ => bs.length - (intOf i).toNat)
  case atStart => exact ⟨0, rfl, by omega, Below.refl _ _⟩
  case round =>
    obtain ⟨j, rfl, hj, hB⟩ := hrel
    by_cases hlt : j < bs.length
    · have hjI : (j : Int) < bs.length := by omega
      obtain ⟨b, o, rfl, hbl, hc⟩ := rdv_nth h1 (t := j) (by simpa using hlt)
      obtain ⟨b', o', rfl, hbl', hc'⟩ := rdv_nth h2 (t := j) (by simpa using hlt)
      rw [List.getElem?_map, List.getElem?_eq_getElem hlt, Option.map_some] at hc hc'
      generalize bs[j] = z at hc hc'
      have x1 := (hB.cell (p := ⟨b, o + j, none⟩) hbl).trans hc
      have x2 := (hB.cell (p := ⟨b', o' + j, none⟩) hbl').trans hc'
      clear hc hc'
      cases z
      all_goals go_wp2
      all_goals go_region
      all_goals simp only [Exit.then]
      all_goals go_wp2
      all_goals exact ⟨⟨j + 1, by simp, by omega, hB.trans (by first | exact Below.refl _ _ | exact (Below.refl _ _).drew | exact below_drewN (Below.refl _ _) _)⟩, by simp [intOf]; omega⟩
    · have hjI : ¬ (j : Int) < bs.length := by omega
      go_wp2
      go_ret
      exact ⟨by simp, hB⟩

set_option maxHeartbeats 2000000 in
theorem spoil_ok {w : World} {v : Value} {n : Nat} {bs : List Int} (h : w.ownsRow 0 5 1 v n (bs.map (Value.int .u8))) (h4 : n ≤ 1000) : Calls Try.prog 28 #[v] w fun e w' => e = .returned (.tuple #[]) ∧ Keeps (fun k => v.ownBlock = some k) w w' := by
  obtain ⟨p, c, rfl⟩ := row_slice h
  by_cases h0 : n = 0
  · subst h0
    go_enter Try.func28, Try.ntmps28
    go_wp2
    go_loopw [2] (fun i wr => i = .int .i64 0 ∧ wr = w) (fun _ _ => 0)
    case atStart => exact ⟨rfl, rfl⟩
    case round =>
      obtain ⟨rfl, rfl⟩ := hrel
      go_wp2
      go_end0
      exact ⟨rfl, Keeps.refl _ _⟩
  · obtain ⟨g, rfl, _⟩ := row_open h (by omega)
    go_enter Try.func28, Try.ntmps28
    go_wp2
    go_loopw [2] (fun i wr => ∃ (j : Nat) (zs : List Int), j ≤ n ∧ i = .int .i64 j ∧ wr.ownsRow 0 5 1 (.slice (some ⟨g, 0, none⟩) n c) n (zs.map (Value.int .u8)) ∧ Keeps (fun k => k = g) w wr) (fun i _ => n - (intOf i).toNat)
    case atStart => exact ⟨0, bs, by omega, rfl, h, Keeps.refl _ _⟩
    case round =>
      obtain ⟨j, zs, hj, rfl, hown, hK⟩ := hrel
      by_cases hlt : j < n
      · have hjI : (j : Int) < n := by omega
        have hlen := hown.1
        rw [List.length_map] at hlen
        have hc := World.ownsRow.cellAt hown j (by omega)
        rw [List.getElem?_map, List.getElem?_eq_getElem (by omega), Option.map_some] at hc
        have hf := World.ownsRow.frozenAt hown j
        generalize zs[j] = z at hc
        go_wp2
        obtain ⟨hs1, hs2⟩ := World.ownsRow.stored hown j (.int .u8 (IntKind.u8.wrap (z + 101)))
        have e : (zs.map (Value.int .u8)).set j (.int .u8 (IntKind.u8.wrap (z + 101))) = (zs.set j (IntKind.u8.wrap (z + 101))).map (Value.int .u8) := by rw [List.map_set]
        rw [e] at hs1
        exact ⟨⟨j + 1, _, by omega, by simp, hs1, hK.trans (Keeps.of_grown (F := fun k => k = g) hs2 (fun k hk => by cases hk; rfl)) (fun _ _ h => h)⟩, by simp [intOf]; omega⟩
      · have hjI : ¬ (j : Int) < n := by omega
        go_wp2
        go_end0
        exact ⟨rfl, hK.mono (fun k _ hk => by subst hk; rfl)⟩
end Go.Proofs.Ytgcndphocpedjaa
