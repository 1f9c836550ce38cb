/-
  TERMCOUNTS: the walks, leaf by leaf. Own work.
-/
import Derived.Test.YtehkfgjnapjefaaCa
namespace Go.Proofs.Ytehkfgjnapjefaa
open Go.RowKit Go.Maps
set_option maxRecDepth 100000
attribute [local go_sem ↓] Go.wp_at_zero Go.wp_at_succ
set_option maxHeartbeats 4000000 in
theorem counts_neg1 (n : Int) (hn : n < 0) (a : Nat) (ha : a ≤ 403) (w : World) (hp : put [(1, 1, [])] (1, n, List.replicate a 0) = (0, 1, [(1, 1, [])])) : Calls Try.prog 9 #[.int .i64 1, .int .i64 n, .int .i64 a] w fun e w' => e = .returned (.bool true) ∧ Below w.heap.size w w' := by
  obtain ⟨i0, hi, hz0, hz1, hz2⟩ := info_parts (P := Try.prog) (e := 3) (z := .int .i64 0) (size := 1) (bytes := 8) (by kernel_rfl)
  have hneg : ¬ (a : Int) < 0 := by omega
  have hbig : ¬ 403 < (a : Int) := by omega
  go_enter Try.func9, Try.ntmps9
  go_wp2_with (first
    | (go_at_call 30; refine (new_ar _).mono ?_; rintro ev w1 ⟨ab, F0, rfl, A0, hF0, B0⟩; have G0 := (show Hid _ from hF0); clear hF0)
    | (go_at_call 29; refine (make_ok A0 1 1 (v := .slice none 0 0) (xs := []) (.inl ⟨rfl, rfl⟩) (by omega)).mono ?_; rintro ev w2 ⟨rfl, F1, A1, K1, hF1⟩; have G1 := (show Hid _ from hF1); clear hF1 A0; simp only [cput1] at A1 ⊢))
  go_loopw [10, 11] (fun v i wr => ∃ (j : Nat) (p : Option Addr) (c : Nat), j ≤ a ∧ i = .int .i64 j ∧ v = .slice p j c ∧ wr.ownsRow w2.heap.size 3 1 (.slice p j c) j ((List.replicate j (0 : Int)).map (Value.int .i64)) ∧ Below w2.heap.size w2 wr)
    (fun _ i _ => a - (intOf i).toNat)
  case atStart => exact ⟨0, none, 0, by omega, rfl, rfl, World.ownsRow_nil _ _ _ _, Below.refl _ _⟩
  case round =>
    obtain ⟨j, p, c, hj, rfl, rfl, hown, hB⟩ := hrel
    have hown2 := hown.alloc (.cells #[.int .i64 0] 3)
    go_wp2_with (first
      | (at_builtin; refine wpList_append_own _ rfl (.tmp 39) (.tmp 41) 31 rfl w2.heap.size 3 i0 (.int .i64 0) 1 8 Try.underlying31 hi hz0 hz1 hz2 rfl (by decide) (.slice p j c) j _ rfl hown2 ⟨wr.heap.size, 0, none⟩ 1 1 [.int .i64 0] rfl rfl (news1 _ _ _) (fun u hu => by simp at hu; subst hu; rfl) (by unfold maxLen; omega) (by omega) (by have := hB.size; simp; omega) ?_; intro v' w3 hown3 hgrow3 _)
      | (go_at_call 29; obtain rfl : a = j := by omega
         refine (make_ok (A1.below hB) 1 n (v := .slice p a c) (xs := List.replicate a 0) (irow_of hown).reads (by omega)).mono ?_; rintro ev w4 ⟨rfl, F3, A3, K3, hF3⟩; rw [hp] at A3; simp only [hp]; clear hF3 A1 hp)
      | (go_at_call 28; refine (len_ar A3).mono ?_; rintro ev w5 ⟨rfl, rfl⟩; simp only [List.length_cons, List.length_nil])
      | (go_at_call 17; refine (wakes_ok _).mono ?_; rintro ev w6 ⟨rfl, B6⟩))
    · obtain ⟨p', c', rfl⟩ := row_slice hown3
      exact ⟨⟨j + 1, p', c', by omega, by simp, rfl, by rw [zeros_snoc]; exact hown3, (hB.alloc hB.size _).grown hgrow3 (by have := hB.size; simp; omega) (fun k hk => (row_base hown hk).1)⟩, by simp [intOf]; omega⟩
    all_goals (
      go_ret
      exact ⟨rfl, counts_end B0 G0 K1 G1 hB K3 (B6)⟩)
set_option maxHeartbeats 4000000 in
theorem counts_neg5 (n : Int) (hn : n < 0) (a : Nat) (ha : a ≤ 403) (w : World) (hp : put [(1, 1, [])] (5, n, List.replicate a 0) = (0, 1, [(1, 1, [])])) : Calls Try.prog 9 #[.int .i64 5, .int .i64 n, .int .i64 a] w fun e w' => e = .returned (.bool true) ∧ Below w.heap.size w w' := by
  obtain ⟨i0, hi, hz0, hz1, hz2⟩ := info_parts (P := Try.prog) (e := 3) (z := .int .i64 0) (size := 1) (bytes := 8) (by kernel_rfl)
  have hneg : ¬ (a : Int) < 0 := by omega
  have hbig : ¬ 403 < (a : Int) := by omega
  go_enter Try.func9, Try.ntmps9
  go_wp2_with (first
    | (go_at_call 30; refine (new_ar _).mono ?_; rintro ev w1 ⟨ab, F0, rfl, A0, hF0, B0⟩; have G0 := (show Hid _ from hF0); clear hF0)
    | (go_at_call 29; refine (make_ok A0 1 1 (v := .slice none 0 0) (xs := []) (.inl ⟨rfl, rfl⟩) (by omega)).mono ?_; rintro ev w2 ⟨rfl, F1, A1, K1, hF1⟩; have G1 := (show Hid _ from hF1); clear hF1 A0; simp only [cput1] at A1 ⊢))
  go_loopw [10, 11] (fun v i wr => ∃ (j : Nat) (p : Option Addr) (c : Nat), j ≤ a ∧ i = .int .i64 j ∧ v = .slice p j c ∧ wr.ownsRow w2.heap.size 3 1 (.slice p j c) j ((List.replicate j (0 : Int)).map (Value.int .i64)) ∧ Below w2.heap.size w2 wr)
    (fun _ i _ => a - (intOf i).toNat)
  case atStart => exact ⟨0, none, 0, by omega, rfl, rfl, World.ownsRow_nil _ _ _ _, Below.refl _ _⟩
  case round =>
    obtain ⟨j, p, c, hj, rfl, rfl, hown, hB⟩ := hrel
    have hown2 := hown.alloc (.cells #[.int .i64 0] 3)
    go_wp2_with (first
      | (at_builtin; refine wpList_append_own _ rfl (.tmp 39) (.tmp 41) 31 rfl w2.heap.size 3 i0 (.int .i64 0) 1 8 Try.underlying31 hi hz0 hz1 hz2 rfl (by decide) (.slice p j c) j _ rfl hown2 ⟨wr.heap.size, 0, none⟩ 1 1 [.int .i64 0] rfl rfl (news1 _ _ _) (fun u hu => by simp at hu; subst hu; rfl) (by unfold maxLen; omega) (by omega) (by have := hB.size; simp; omega) ?_; intro v' w3 hown3 hgrow3 _)
      | (go_at_call 29; obtain rfl : a = j := by omega
         refine (make_ok (A1.below hB) 5 n (v := .slice p a c) (xs := List.replicate a 0) (irow_of hown).reads (by omega)).mono ?_; rintro ev w4 ⟨rfl, F3, A3, K3, hF3⟩; rw [hp] at A3; simp only [hp]; clear hF3 A1 hp)
      | (go_at_call 28; refine (len_ar A3).mono ?_; rintro ev w5 ⟨rfl, rfl⟩; simp only [List.length_cons, List.length_nil])
      | (go_at_call 17; refine (wakes_ok _).mono ?_; rintro ev w6 ⟨rfl, B6⟩))
    · obtain ⟨p', c', rfl⟩ := row_slice hown3
      exact ⟨⟨j + 1, p', c', by omega, by simp, rfl, by rw [zeros_snoc]; exact hown3, (hB.alloc hB.size _).grown hgrow3 (by have := hB.size; simp; omega) (fun k hk => (row_base hown hk).1)⟩, by simp [intOf]; omega⟩
    all_goals (
      go_ret
      exact ⟨rfl, counts_end B0 G0 K1 G1 hB K3 (B6)⟩)
set_option maxHeartbeats 4000000 in
theorem counts_neg9 (n : Int) (hn : n < 0) (a : Nat) (ha : a ≤ 403) (w : World) (hp : put [(1, 1, [])] (9, n, List.replicate a 0) = (0, 1, [(1, 1, [])])) : Calls Try.prog 9 #[.int .i64 9, .int .i64 n, .int .i64 a] w fun e w' => e = .returned (.bool true) ∧ Below w.heap.size w w' := by
  obtain ⟨i0, hi, hz0, hz1, hz2⟩ := info_parts (P := Try.prog) (e := 3) (z := .int .i64 0) (size := 1) (bytes := 8) (by kernel_rfl)
  have hneg : ¬ (a : Int) < 0 := by omega
  have hbig : ¬ 403 < (a : Int) := by omega
  go_enter Try.func9, Try.ntmps9
  go_wp2_with (first
    | (go_at_call 30; refine (new_ar _).mono ?_; rintro ev w1 ⟨ab, F0, rfl, A0, hF0, B0⟩; have G0 := (show Hid _ from hF0); clear hF0)
    | (go_at_call 29; refine (make_ok A0 1 1 (v := .slice none 0 0) (xs := []) (.inl ⟨rfl, rfl⟩) (by omega)).mono ?_; rintro ev w2 ⟨rfl, F1, A1, K1, hF1⟩; have G1 := (show Hid _ from hF1); clear hF1 A0; simp only [cput1] at A1 ⊢))
  go_loopw [10, 11] (fun v i wr => ∃ (j : Nat) (p : Option Addr) (c : Nat), j ≤ a ∧ i = .int .i64 j ∧ v = .slice p j c ∧ wr.ownsRow w2.heap.size 3 1 (.slice p j c) j ((List.replicate j (0 : Int)).map (Value.int .i64)) ∧ Below w2.heap.size w2 wr)
    (fun _ i _ => a - (intOf i).toNat)
  case atStart => exact ⟨0, none, 0, by omega, rfl, rfl, World.ownsRow_nil _ _ _ _, Below.refl _ _⟩
  case round =>
    obtain ⟨j, p, c, hj, rfl, rfl, hown, hB⟩ := hrel
    have hown2 := hown.alloc (.cells #[.int .i64 0] 3)
    go_wp2_with (first
      | (at_builtin; refine wpList_append_own _ rfl (.tmp 39) (.tmp 41) 31 rfl w2.heap.size 3 i0 (.int .i64 0) 1 8 Try.underlying31 hi hz0 hz1 hz2 rfl (by decide) (.slice p j c) j _ rfl hown2 ⟨wr.heap.size, 0, none⟩ 1 1 [.int .i64 0] rfl rfl (news1 _ _ _) (fun u hu => by simp at hu; subst hu; rfl) (by unfold maxLen; omega) (by omega) (by have := hB.size; simp; omega) ?_; intro v' w3 hown3 hgrow3 _)
      | (go_at_call 29; obtain rfl : a = j := by omega
         refine (make_ok (A1.below hB) 9 n (v := .slice p a c) (xs := List.replicate a 0) (irow_of hown).reads (by omega)).mono ?_; rintro ev w4 ⟨rfl, F3, A3, K3, hF3⟩; rw [hp] at A3; simp only [hp]; clear hF3 A1 hp)
      | (go_at_call 28; refine (len_ar A3).mono ?_; rintro ev w5 ⟨rfl, rfl⟩; simp only [List.length_cons, List.length_nil])
      | (go_at_call 17; refine (wakes_ok _).mono ?_; rintro ev w6 ⟨rfl, B6⟩))
    · obtain ⟨p', c', rfl⟩ := row_slice hown3
      exact ⟨⟨j + 1, p', c', by omega, by simp, rfl, by rw [zeros_snoc]; exact hown3, (hB.alloc hB.size _).grown hgrow3 (by have := hB.size; simp; omega) (fun k hk => (row_base hown hk).1)⟩, by simp [intOf]; omega⟩
    all_goals (
      go_ret
      exact ⟨rfl, counts_end B0 G0 K1 G1 hB K3 (B6)⟩)
set_option maxHeartbeats 4000000 in
theorem counts_pos7 (n : Int) (hn : 0 < n) (hn2 : n < 9223372036854775808) (a : Nat) (ha : a ≤ 403) (w : World) (hp : put [(1, 1, [])] (7, n, List.replicate a 0) = (0, 1, [(1, 1, [])])) : Calls Try.prog 9 #[.int .i64 7, .int .i64 n, .int .i64 a] w fun e w' => e = .returned (.bool true) ∧ Below w.heap.size w w' := by
  obtain ⟨i0, hi, hz0, hz1, hz2⟩ := info_parts (P := Try.prog) (e := 3) (z := .int .i64 0) (size := 1) (bytes := 8) (by kernel_rfl)
  have hneg : ¬ (a : Int) < 0 := by omega
  have hbig : ¬ 403 < (a : Int) := by omega
  go_enter Try.func9, Try.ntmps9
  go_wp2_with (first
    | (go_at_call 30; refine (new_ar _).mono ?_; rintro ev w1 ⟨ab, F0, rfl, A0, hF0, B0⟩; have G0 := (show Hid _ from hF0); clear hF0)
    | (go_at_call 29; refine (make_ok A0 1 1 (v := .slice none 0 0) (xs := []) (.inl ⟨rfl, rfl⟩) (by omega)).mono ?_; rintro ev w2 ⟨rfl, F1, A1, K1, hF1⟩; have G1 := (show Hid _ from hF1); clear hF1 A0; simp only [cput1] at A1 ⊢))
  go_loopw [10, 11] (fun v i wr => ∃ (j : Nat) (p : Option Addr) (c : Nat), j ≤ a ∧ i = .int .i64 j ∧ v = .slice p j c ∧ wr.ownsRow w2.heap.size 3 1 (.slice p j c) j ((List.replicate j (0 : Int)).map (Value.int .i64)) ∧ Below w2.heap.size w2 wr)
    (fun _ i _ => a - (intOf i).toNat)
  case atStart => exact ⟨0, none, 0, by omega, rfl, rfl, World.ownsRow_nil _ _ _ _, Below.refl _ _⟩
  case round =>
    obtain ⟨j, p, c, hj, rfl, rfl, hown, hB⟩ := hrel
    have hown2 := hown.alloc (.cells #[.int .i64 0] 3)
    go_wp2_with (first
      | (at_builtin; refine wpList_append_own _ rfl (.tmp 39) (.tmp 41) 31 rfl w2.heap.size 3 i0 (.int .i64 0) 1 8 Try.underlying31 hi hz0 hz1 hz2 rfl (by decide) (.slice p j c) j _ rfl hown2 ⟨wr.heap.size, 0, none⟩ 1 1 [.int .i64 0] rfl rfl (news1 _ _ _) (fun u hu => by simp at hu; subst hu; rfl) (by unfold maxLen; omega) (by omega) (by have := hB.size; simp; omega) ?_; intro v' w3 hown3 hgrow3 _)
      | (go_at_call 29; obtain rfl : a = j := by omega
         refine (make_ok (A1.below hB) 7 n (v := .slice p a c) (xs := List.replicate a 0) (irow_of hown).reads (by omega)).mono ?_; rintro ev w4 ⟨rfl, F3, A3, K3, hF3⟩; rw [hp] at A3; simp only [hp]; clear hF3 A1 hp)
      | (go_at_call 28; refine (len_ar A3).mono ?_; rintro ev w5 ⟨rfl, rfl⟩; simp only [List.length_cons, List.length_nil])
      | (go_at_call 17; refine (wakes_ok _).mono ?_; rintro ev w6 ⟨rfl, B6⟩))
    · obtain ⟨p', c', rfl⟩ := row_slice hown3
      exact ⟨⟨j + 1, p', c', by omega, by simp, rfl, by rw [zeros_snoc]; exact hown3, (hB.alloc hB.size _).grown hgrow3 (by have := hB.size; simp; omega) (fun k hk => (row_base hown hk).1)⟩, by simp [intOf]; omega⟩
    all_goals (
      go_ret
      exact ⟨rfl, counts_end B0 G0 K1 G1 hB K3 (B6)⟩)
set_option maxHeartbeats 4000000 in
theorem counts_some1 (n : Int) (hn : 0 ≤ n) (hn2 : n < 9223372036854775808) (a : Nat) (ha : a ≤ 403) (ha0 : 0 < a) (w : World) (hp : put [(1, 1, [])] (1, n, List.replicate a 0) = (0, 2, [(1, 1, [])])) : Calls Try.prog 9 #[.int .i64 1, .int .i64 n, .int .i64 a] w fun e w' => e = .returned (.bool true) ∧ Below w.heap.size w w' := by
  obtain ⟨i0, hi, hz0, hz1, hz2⟩ := info_parts (P := Try.prog) (e := 3) (z := .int .i64 0) (size := 1) (bytes := 8) (by kernel_rfl)
  have hneg : ¬ (a : Int) < 0 := by omega
  have hbig : ¬ 403 < (a : Int) := by omega
  go_enter Try.func9, Try.ntmps9
  go_wp2_with (first
    | (go_at_call 30; refine (new_ar _).mono ?_; rintro ev w1 ⟨ab, F0, rfl, A0, hF0, B0⟩; have G0 := (show Hid _ from hF0); clear hF0)
    | (go_at_call 29; refine (make_ok A0 1 1 (v := .slice none 0 0) (xs := []) (.inl ⟨rfl, rfl⟩) (by omega)).mono ?_; rintro ev w2 ⟨rfl, F1, A1, K1, hF1⟩; have G1 := (show Hid _ from hF1); clear hF1 A0; simp only [cput1] at A1 ⊢))
  go_loopw [10, 11] (fun v i wr => ∃ (j : Nat) (p : Option Addr) (c : Nat), j ≤ a ∧ i = .int .i64 j ∧ v = .slice p j c ∧ wr.ownsRow w2.heap.size 3 1 (.slice p j c) j ((List.replicate j (0 : Int)).map (Value.int .i64)) ∧ Below w2.heap.size w2 wr)
    (fun _ i _ => a - (intOf i).toNat)
  case atStart => exact ⟨0, none, 0, by omega, rfl, rfl, World.ownsRow_nil _ _ _ _, Below.refl _ _⟩
  case round =>
    obtain ⟨j, p, c, hj, rfl, rfl, hown, hB⟩ := hrel
    have hown2 := hown.alloc (.cells #[.int .i64 0] 3)
    go_wp2_with (first
      | (at_builtin; refine wpList_append_own _ rfl (.tmp 39) (.tmp 41) 31 rfl w2.heap.size 3 i0 (.int .i64 0) 1 8 Try.underlying31 hi hz0 hz1 hz2 rfl (by decide) (.slice p j c) j _ rfl hown2 ⟨wr.heap.size, 0, none⟩ 1 1 [.int .i64 0] rfl rfl (news1 _ _ _) (fun u hu => by simp at hu; subst hu; rfl) (by unfold maxLen; omega) (by omega) (by have := hB.size; simp; omega) ?_; intro v' w3 hown3 hgrow3 _)
      | (go_at_call 29; obtain rfl : a = j := by omega
         refine (make_ok (A1.below hB) 1 n (v := .slice p a c) (xs := List.replicate a 0) (irow_of hown).reads (by omega)).mono ?_; rintro ev w4 ⟨rfl, F3, A3, K3, hF3⟩; rw [hp] at A3; simp only [hp]; clear hF3 A1 hp)
      | (go_at_call 28; refine (len_ar A3).mono ?_; rintro ev w5 ⟨rfl, rfl⟩; simp only [List.length_cons, List.length_nil])
      | (go_at_call 17; refine (wakes_ok _).mono ?_; rintro ev w6 ⟨rfl, B6⟩))
    · obtain ⟨p', c', rfl⟩ := row_slice hown3
      exact ⟨⟨j + 1, p', c', by omega, by simp, rfl, by rw [zeros_snoc]; exact hown3, (hB.alloc hB.size _).grown hgrow3 (by have := hB.size; simp; omega) (fun k hk => (row_base hown hk).1)⟩, by simp [intOf]; omega⟩
    all_goals (
      go_ret
      exact ⟨rfl, counts_end B0 G0 K1 G1 hB K3 (B6)⟩)
set_option maxHeartbeats 4000000 in
theorem counts_zero4 (n : Int) (hn : 0 ≤ n) (hn2 : n < 9223372036854775808) (a : Nat) (ha : a ≤ 403) (ha0 : a = 0) (w : World) (hp : put [(1, 1, [])] (4, n, List.replicate a 0) = (0, 2, [(1, 1, [])])) : Calls Try.prog 9 #[.int .i64 4, .int .i64 n, .int .i64 a] w fun e w' => e = .returned (.bool true) ∧ Below w.heap.size w w' := by
  obtain ⟨i0, hi, hz0, hz1, hz2⟩ := info_parts (P := Try.prog) (e := 3) (z := .int .i64 0) (size := 1) (bytes := 8) (by kernel_rfl)
  have hneg : ¬ (a : Int) < 0 := by omega
  have hbig : ¬ 403 < (a : Int) := by omega
  go_enter Try.func9, Try.ntmps9
  go_wp2_with (first
    | (go_at_call 30; refine (new_ar _).mono ?_; rintro ev w1 ⟨ab, F0, rfl, A0, hF0, B0⟩; have G0 := (show Hid _ from hF0); clear hF0)
    | (go_at_call 29; refine (make_ok A0 1 1 (v := .slice none 0 0) (xs := []) (.inl ⟨rfl, rfl⟩) (by omega)).mono ?_; rintro ev w2 ⟨rfl, F1, A1, K1, hF1⟩; have G1 := (show Hid _ from hF1); clear hF1 A0; simp only [cput1] at A1 ⊢))
  go_loopw [10, 11] (fun v i wr => ∃ (j : Nat) (p : Option Addr) (c : Nat), j ≤ a ∧ i = .int .i64 j ∧ v = .slice p j c ∧ wr.ownsRow w2.heap.size 3 1 (.slice p j c) j ((List.replicate j (0 : Int)).map (Value.int .i64)) ∧ Below w2.heap.size w2 wr)
    (fun _ i _ => a - (intOf i).toNat)
  case atStart => exact ⟨0, none, 0, by omega, rfl, rfl, World.ownsRow_nil _ _ _ _, Below.refl _ _⟩
  case round =>
    obtain ⟨j, p, c, hj, rfl, rfl, hown, hB⟩ := hrel
    have hown2 := hown.alloc (.cells #[.int .i64 0] 3)
    go_wp2_with (first
      | (at_builtin; refine wpList_append_own _ rfl (.tmp 39) (.tmp 41) 31 rfl w2.heap.size 3 i0 (.int .i64 0) 1 8 Try.underlying31 hi hz0 hz1 hz2 rfl (by decide) (.slice p j c) j _ rfl hown2 ⟨wr.heap.size, 0, none⟩ 1 1 [.int .i64 0] rfl rfl (news1 _ _ _) (fun u hu => by simp at hu; subst hu; rfl) (by unfold maxLen; omega) (by omega) (by have := hB.size; simp; omega) ?_; intro v' w3 hown3 hgrow3 _)
      | (go_at_call 29; obtain rfl : a = j := by omega
         refine (make_ok (A1.below hB) 4 n (v := .slice p a c) (xs := List.replicate a 0) (irow_of hown).reads (by omega)).mono ?_; rintro ev w4 ⟨rfl, F3, A3, K3, hF3⟩; rw [hp] at A3; simp only [hp]; clear hF3 A1 hp)
      | (go_at_call 28; refine (len_ar A3).mono ?_; rintro ev w5 ⟨rfl, rfl⟩; simp only [List.length_cons, List.length_nil])
      | (go_at_call 17; refine (wakes_ok _).mono ?_; rintro ev w6 ⟨rfl, B6⟩))
    all_goals (
      go_ret
      exact ⟨rfl, counts_end B0 G0 K1 G1 hB K3 (B6)⟩)
set_option maxHeartbeats 4000000 in
theorem counts_two5 (a : Nat) (ha : a ≤ 403) (ha0 : 2 ≤ a) (w : World) (hp : put [(1, 1, [])] (5, 0, List.replicate a 0) = (0, 2, [(1, 1, [])])) : Calls Try.prog 9 #[.int .i64 5, .int .i64 0, .int .i64 a] w fun e w' => e = .returned (.bool true) ∧ Below w.heap.size w w' := by
  obtain ⟨i0, hi, hz0, hz1, hz2⟩ := info_parts (P := Try.prog) (e := 3) (z := .int .i64 0) (size := 1) (bytes := 8) (by kernel_rfl)
  have hneg : ¬ (a : Int) < 0 := by omega
  have hbig : ¬ 403 < (a : Int) := by omega
  go_enter Try.func9, Try.ntmps9
  go_wp2_with (first
    | (go_at_call 30; refine (new_ar _).mono ?_; rintro ev w1 ⟨ab, F0, rfl, A0, hF0, B0⟩; have G0 := (show Hid _ from hF0); clear hF0)
    | (go_at_call 29; refine (make_ok A0 1 1 (v := .slice none 0 0) (xs := []) (.inl ⟨rfl, rfl⟩) (by omega)).mono ?_; rintro ev w2 ⟨rfl, F1, A1, K1, hF1⟩; have G1 := (show Hid _ from hF1); clear hF1 A0; simp only [cput1] at A1 ⊢))
  go_loopw [10, 11] (fun v i wr => ∃ (j : Nat) (p : Option Addr) (c : Nat), j ≤ a ∧ i = .int .i64 j ∧ v = .slice p j c ∧ wr.ownsRow w2.heap.size 3 1 (.slice p j c) j ((List.replicate j (0 : Int)).map (Value.int .i64)) ∧ Below w2.heap.size w2 wr)
    (fun _ i _ => a - (intOf i).toNat)
  case atStart => exact ⟨0, none, 0, by omega, rfl, rfl, World.ownsRow_nil _ _ _ _, Below.refl _ _⟩
  case round =>
    obtain ⟨j, p, c, hj, rfl, rfl, hown, hB⟩ := hrel
    have hown2 := hown.alloc (.cells #[.int .i64 0] 3)
    go_wp2_with (first
      | (at_builtin; refine wpList_append_own _ rfl (.tmp 39) (.tmp 41) 31 rfl w2.heap.size 3 i0 (.int .i64 0) 1 8 Try.underlying31 hi hz0 hz1 hz2 rfl (by decide) (.slice p j c) j _ rfl hown2 ⟨wr.heap.size, 0, none⟩ 1 1 [.int .i64 0] rfl rfl (news1 _ _ _) (fun u hu => by simp at hu; subst hu; rfl) (by unfold maxLen; omega) (by omega) (by have := hB.size; simp; omega) ?_; intro v' w3 hown3 hgrow3 _)
      | (go_at_call 29; obtain rfl : a = j := by omega
         refine (make_ok (A1.below hB) 5 0 (v := .slice p a c) (xs := List.replicate a 0) (irow_of hown).reads (by omega)).mono ?_; rintro ev w4 ⟨rfl, F3, A3, K3, hF3⟩; rw [hp] at A3; simp only [hp]; clear hF3 A1 hp)
      | (go_at_call 28; refine (len_ar A3).mono ?_; rintro ev w5 ⟨rfl, rfl⟩; simp only [List.length_cons, List.length_nil])
      | (go_at_call 17; refine (wakes_ok _).mono ?_; rintro ev w6 ⟨rfl, B6⟩))
    · obtain ⟨p', c', rfl⟩ := row_slice hown3
      exact ⟨⟨j + 1, p', c', by omega, by simp, rfl, by rw [zeros_snoc]; exact hown3, (hB.alloc hB.size _).grown hgrow3 (by have := hB.size; simp; omega) (fun k hk => (row_base hown hk).1)⟩, by simp [intOf]; omega⟩
    all_goals (
      go_ret
      exact ⟨rfl, counts_end B0 G0 K1 G1 hB K3 (B6)⟩)
set_option maxHeartbeats 4000000 in
theorem counts_few8 (a : Nat) (ha : a ≤ 403) (ha0 : a < 1) (w : World) (hp : put [(1, 1, [])] (8, 0, List.replicate a 0) = (0, 2, [(1, 1, [])])) : Calls Try.prog 9 #[.int .i64 8, .int .i64 0, .int .i64 a] w fun e w' => e = .returned (.bool true) ∧ Below w.heap.size w w' := by
  obtain ⟨i0, hi, hz0, hz1, hz2⟩ := info_parts (P := Try.prog) (e := 3) (z := .int .i64 0) (size := 1) (bytes := 8) (by kernel_rfl)
  have hneg : ¬ (a : Int) < 0 := by omega
  have hbig : ¬ 403 < (a : Int) := by omega
  go_enter Try.func9, Try.ntmps9
  go_wp2_with (first
    | (go_at_call 30; refine (new_ar _).mono ?_; rintro ev w1 ⟨ab, F0, rfl, A0, hF0, B0⟩; have G0 := (show Hid _ from hF0); clear hF0)
    | (go_at_call 29; refine (make_ok A0 1 1 (v := .slice none 0 0) (xs := []) (.inl ⟨rfl, rfl⟩) (by omega)).mono ?_; rintro ev w2 ⟨rfl, F1, A1, K1, hF1⟩; have G1 := (show Hid _ from hF1); clear hF1 A0; simp only [cput1] at A1 ⊢))
  go_loopw [10, 11] (fun v i wr => ∃ (j : Nat) (p : Option Addr) (c : Nat), j ≤ a ∧ i = .int .i64 j ∧ v = .slice p j c ∧ wr.ownsRow w2.heap.size 3 1 (.slice p j c) j ((List.replicate j (0 : Int)).map (Value.int .i64)) ∧ Below w2.heap.size w2 wr)
    (fun _ i _ => a - (intOf i).toNat)
  case atStart => exact ⟨0, none, 0, by omega, rfl, rfl, World.ownsRow_nil _ _ _ _, Below.refl _ _⟩
  case round =>
    obtain ⟨j, p, c, hj, rfl, rfl, hown, hB⟩ := hrel
    have hown2 := hown.alloc (.cells #[.int .i64 0] 3)
    go_wp2_with (first
      | (at_builtin; refine wpList_append_own _ rfl (.tmp 39) (.tmp 41) 31 rfl w2.heap.size 3 i0 (.int .i64 0) 1 8 Try.underlying31 hi hz0 hz1 hz2 rfl (by decide) (.slice p j c) j _ rfl hown2 ⟨wr.heap.size, 0, none⟩ 1 1 [.int .i64 0] rfl rfl (news1 _ _ _) (fun u hu => by simp at hu; subst hu; rfl) (by unfold maxLen; omega) (by omega) (by have := hB.size; simp; omega) ?_; intro v' w3 hown3 hgrow3 _)
      | (go_at_call 29; obtain rfl : a = j := by omega
         refine (make_ok (A1.below hB) 8 0 (v := .slice p a c) (xs := List.replicate a 0) (irow_of hown).reads (by omega)).mono ?_; rintro ev w4 ⟨rfl, F3, A3, K3, hF3⟩; rw [hp] at A3; simp only [hp]; clear hF3 A1 hp)
      | (go_at_call 28; refine (len_ar A3).mono ?_; rintro ev w5 ⟨rfl, rfl⟩; simp only [List.length_cons, List.length_nil])
      | (go_at_call 17; refine (wakes_ok _).mono ?_; rintro ev w6 ⟨rfl, B6⟩))
    all_goals (
      go_ret
      exact ⟨rfl, counts_end B0 G0 K1 G1 hB K3 (B6)⟩)
set_option maxHeartbeats 4000000 in
theorem counts_fit7 (a : Nat) (ha : a ≤ 403) (ha0 : 2 ≤ a) (ha1 : a ≤ 400) (w : World) (y : Int) (L' : List Tm) (HY : Hid (Told y L' (7, 0, List.replicate a 0))) (hp : put [(1, 1, [])] (7, 0, List.replicate a 0) = (y, 0, L')) : Calls Try.prog 9 #[.int .i64 7, .int .i64 0, .int .i64 a] w fun e w' => e = .returned (.bool true) ∧ Below w.heap.size w w' := by
  obtain ⟨i0, hi, hz0, hz1, hz2⟩ := info_parts (P := Try.prog) (e := 3) (z := .int .i64 0) (size := 1) (bytes := 8) (by kernel_rfl)
  have hneg : ¬ (a : Int) < 0 := by omega
  have hbig : ¬ 403 < (a : Int) := by omega
  go_enter Try.func9, Try.ntmps9
  go_wp2_with (first
    | (go_at_call 30; refine (new_ar _).mono ?_; rintro ev w1 ⟨ab, F0, rfl, A0, hF0, B0⟩; have G0 := (show Hid _ from hF0); clear hF0)
    | (go_at_call 29; refine (make_ok A0 1 1 (v := .slice none 0 0) (xs := []) (.inl ⟨rfl, rfl⟩) (by omega)).mono ?_; rintro ev w2 ⟨rfl, F1, A1, K1, hF1⟩; have G1 := (show Hid _ from hF1); clear hF1 A0; simp only [cput1] at A1 ⊢))
  go_loopw [10, 11] (fun v i wr => ∃ (j : Nat) (p : Option Addr) (c : Nat), j ≤ a ∧ i = .int .i64 j ∧ v = .slice p j c ∧ wr.ownsRow w2.heap.size 3 1 (.slice p j c) j ((List.replicate j (0 : Int)).map (Value.int .i64)) ∧ Below w2.heap.size w2 wr)
    (fun _ i _ => a - (intOf i).toNat)
  case atStart => exact ⟨0, none, 0, by omega, rfl, rfl, World.ownsRow_nil _ _ _ _, Below.refl _ _⟩
  case round =>
    obtain ⟨j, p, c, hj, rfl, rfl, hown, hB⟩ := hrel
    have hown2 := hown.alloc (.cells #[.int .i64 0] 3)
    go_wp2_with (first
      | (at_builtin; refine wpList_append_own _ rfl (.tmp 39) (.tmp 41) 31 rfl w2.heap.size 3 i0 (.int .i64 0) 1 8 Try.underlying31 hi hz0 hz1 hz2 rfl (by decide) (.slice p j c) j _ rfl hown2 ⟨wr.heap.size, 0, none⟩ 1 1 [.int .i64 0] rfl rfl (news1 _ _ _) (fun u hu => by simp at hu; subst hu; rfl) (by unfold maxLen; omega) (by omega) (by have := hB.size; simp; omega) ?_; intro v' w3 hown3 hgrow3 _)
      | (go_at_call 29; obtain rfl : a = j := by omega
         refine (make_ok (A1.below hB) 7 0 (v := .slice p a c) (xs := List.replicate a 0) (irow_of hown).reads (by omega)).mono ?_; rintro ev w4 ⟨rfl, F3, A3, K3, hF3⟩; rw [hp] at A3; simp only [hp]; obtain ⟨q, rfl, hL⟩ := HY.out; have HL := (show Hid _ from hL); clear HY hL; clear hF3 A1 hp)
      | (go_at_call 13; refine (node_at A3 q _ HL.out).mono ?_; rintro ev w5 ⟨p5, c5, rfl, hr5, B5⟩; simp only [List.length_replicate] at hr5 ⊢)
      | (go_at_call 17; refine (wakes_ok _).mono ?_; rintro ev w6 ⟨rfl, B6⟩))
    · obtain ⟨p', c', rfl⟩ := row_slice hown3
      exact ⟨⟨j + 1, p', c', by omega, by simp, rfl, by rw [zeros_snoc]; exact hown3, (hB.alloc hB.size _).grown hgrow3 (by have := hB.size; simp; omega) (fun k hk => (row_base hown hk).1)⟩, by simp [intOf]; omega⟩
    all_goals (
      go_ret
      exact ⟨rfl, counts_end B0 G0 K1 G1 hB K3 ((B5.alloc B5.size _).trans (B6.mono (by have := B5.size; simp; omega)))⟩)
set_option maxHeartbeats 4000000 in
theorem counts_fit9 (a : Nat) (ha : a ≤ 403) (ha1 : a ≤ 400) (w : World) (y : Int) (L' : List Tm) (HY : Hid (Told y L' (9, 0, List.replicate a 0))) (hp : put [(1, 1, [])] (9, 0, List.replicate a 0) = (y, 0, L')) : Calls Try.prog 9 #[.int .i64 9, .int .i64 0, .int .i64 a] w fun e w' => e = .returned (.bool true) ∧ Below w.heap.size w w' := by
  obtain ⟨i0, hi, hz0, hz1, hz2⟩ := info_parts (P := Try.prog) (e := 3) (z := .int .i64 0) (size := 1) (bytes := 8) (by kernel_rfl)
  have hneg : ¬ (a : Int) < 0 := by omega
  have hbig : ¬ 403 < (a : Int) := by omega
  go_enter Try.func9, Try.ntmps9
  go_wp2_with (first
    | (go_at_call 30; refine (new_ar _).mono ?_; rintro ev w1 ⟨ab, F0, rfl, A0, hF0, B0⟩; have G0 := (show Hid _ from hF0); clear hF0)
    | (go_at_call 29; refine (make_ok A0 1 1 (v := .slice none 0 0) (xs := []) (.inl ⟨rfl, rfl⟩) (by omega)).mono ?_; rintro ev w2 ⟨rfl, F1, A1, K1, hF1⟩; have G1 := (show Hid _ from hF1); clear hF1 A0; simp only [cput1] at A1 ⊢))
  go_loopw [10, 11] (fun v i wr => ∃ (j : Nat) (p : Option Addr) (c : Nat), j ≤ a ∧ i = .int .i64 j ∧ v = .slice p j c ∧ wr.ownsRow w2.heap.size 3 1 (.slice p j c) j ((List.replicate j (0 : Int)).map (Value.int .i64)) ∧ Below w2.heap.size w2 wr)
    (fun _ i _ => a - (intOf i).toNat)
  case atStart => exact ⟨0, none, 0, by omega, rfl, rfl, World.ownsRow_nil _ _ _ _, Below.refl _ _⟩
  case round =>
    obtain ⟨j, p, c, hj, rfl, rfl, hown, hB⟩ := hrel
    have hown2 := hown.alloc (.cells #[.int .i64 0] 3)
    go_wp2_with (first
      | (at_builtin; refine wpList_append_own _ rfl (.tmp 39) (.tmp 41) 31 rfl w2.heap.size 3 i0 (.int .i64 0) 1 8 Try.underlying31 hi hz0 hz1 hz2 rfl (by decide) (.slice p j c) j _ rfl hown2 ⟨wr.heap.size, 0, none⟩ 1 1 [.int .i64 0] rfl rfl (news1 _ _ _) (fun u hu => by simp at hu; subst hu; rfl) (by unfold maxLen; omega) (by omega) (by have := hB.size; simp; omega) ?_; intro v' w3 hown3 hgrow3 _)
      | (go_at_call 29; obtain rfl : a = j := by omega
         refine (make_ok (A1.below hB) 9 0 (v := .slice p a c) (xs := List.replicate a 0) (irow_of hown).reads (by omega)).mono ?_; rintro ev w4 ⟨rfl, F3, A3, K3, hF3⟩; rw [hp] at A3; simp only [hp]; obtain ⟨q, rfl, hL⟩ := HY.out; have HL := (show Hid _ from hL); clear HY hL; clear hF3 A1 hp)
      | (go_at_call 13; refine (node_at A3 q _ HL.out).mono ?_; rintro ev w5 ⟨p5, c5, rfl, hr5, B5⟩; simp only [List.length_replicate] at hr5 ⊢)
      | (go_at_call 17; refine (wakes_ok _).mono ?_; rintro ev w6 ⟨rfl, B6⟩))
    · obtain ⟨p', c', rfl⟩ := row_slice hown3
      exact ⟨⟨j + 1, p', c', by omega, by simp, rfl, by rw [zeros_snoc]; exact hown3, (hB.alloc hB.size _).grown hgrow3 (by have := hB.size; simp; omega) (fun k hk => (row_base hown hk).1)⟩, by simp [intOf]; omega⟩
    all_goals (
      go_ret
      exact ⟨rfl, counts_end B0 G0 K1 G1 hB K3 ((B5.alloc B5.size _).trans (B6.mono (by have := B5.size; simp; omega)))⟩)
end Go.Proofs.Ytehkfgjnapjefaa
