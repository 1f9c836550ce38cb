/-
  DISKTRIPS: the walk. Own work.
-/
import Derived.Test.YtgcndphocpedjaaDKi
namespace Go.Proofs.Ytgcndphocpedjaa
open Go.ChangeShapes Go.WideShapes Go.ChangeAt Go.RowKit Go.Maps Go.Deep
set_option maxRecDepth 100000
attribute [local go_sem ↓] Go.wp_at_zero Go.wp_at_succ
def Small (m : Nat) : Prop := m < 9223372036854775808
def SmallI (m : Int) : Prop := m < 9223372036854775808
theorem small_left {n : Int} {j l : Nat} (h : SmallI n) (hl : l = (n - j).toNat) : Small l := by
  unfold Small SmallI at *
  omega
theorem rdv_nil (w : World) : RdV w (.slice none 0 0) [] := ⟨none, 0, rfl, .inl rfl⟩
theorem Dsk.dbl {w0 w : World} {db n : Nat} {d : Dk} {vs vn vw vk : Value} {R : List RowD} (T : Dsk w0 w db n d vs vn vw vk R) : w0.heap.size ≤ db := (row_base T.h rfl).1
theorem off_is {w0 w : World} {db n : Nat} {d : Dk} {vs vn vw vk : Value} {R : List RowD} (T : Dsk w0 w db n d vs vn vw vk R) (b : Bool) (h : d.off = b) : Calls Try.prog 21 #[.pointer (some ⟨db, 0, none⟩)] w fun e w' => e = .returned (.bool b) ∧ w' = w := by
  subst h
  exact off_ok T
set_option maxHeartbeats 8000000 in
theorem trips_low (n t : Int) (v1 v2 : Value) (ss ks : List Bool) (w : World) (H1 : RdV w v1 (ss.map Value.bool)) (H2 : RdV w v2 (ks.map Value.bool)) (hn : n < 9223372036854775808) : Calls Try.prog 6 #[.int .i64 n, v1, v2, .int .i64 t] w fun e w' => e = .returned (.bool true) ∧ Below w.heap.size w w' := by
  obtain ⟨p1, c1, rfl, _⟩ := id H1
  obtain ⟨p2, c2, rfl, _⟩ := id H2
  simp only [List.length_map] at H1 H2 ⊢
  have HN := (show SmallI n from hn)
  clear hn
  go_enter Try.func6, Try.ntmps6
  go_wp2_with (first
    | (go_at_call 8; refine (new_ok 4 (by omega) (by omega) w).mono ?_; rintro ev w1 ⟨db, vs, vn, rfl, T0⟩)
    | (go_at_call 18; refine (trip_ok T0 3 0 (ks := []) (rdv_nil _) (fun h => absurd rfl h) (by decide)).mono ?_; rintro ev w2 ⟨rfl, vk1, T1⟩; clear T0)
    | (go_at_call 18; refine (trip_ok T1 n t (H2.below T1.fam.below) (fun h0 k hk he => by have := H2.lt h0 hk; have := T1.dbl; omega) (by omega)).mono ?_; rintro ev w3 ⟨rfl, vk2, T2⟩; clear T1))
  all_goals first
    | (go_ret; exact ⟨by simp, Below.refl _ _⟩)
    | skip
  have hl60 : ss.length ≤ 60 := by omega
  go_loopw [11] (fun i wq => ∃ (j : Nat) (d : Dk) (vs vn vw vk : Value), i = .int .i64 j ∧ j ≤ ss.length ∧ Dsk w wq db 4 d vs vn vw vk [] ∧ d.off = false ∧ d.left = (n - j).toNat ∧ d.wr.length ≤ j) (fun i _ => ss.length - (intOf i).toNat)
  case atStart => exact ⟨0, _, _, _, _, _, rfl, by omega, T2, rfl, by simp, by simp [Dk.fresh]⟩
  case round =>
    clear T2
    obtain ⟨j, d, vs, vn, vw, vk, rfl, hj, T, hoff, hleft, hwr⟩ := hrel
    by_cases hlt : j < ss.length
    · have hjI : (j : Int) < ss.length := by omega
      obtain ⟨b, o, rfl, _, hbc⟩ := rdv_nth (H1.below T.fam.below) (t := j) (by simpa using hlt)
      rw [List.getElem?_map, List.getElem?_eq_getElem hlt, Option.map_some] at hbc
      generalize ss[j] = sj at hbc
      have HLM := small_left HN hleft
      cases sj with
      | true =>
        by_cases hnj : n = j + 1
        · subst hnj
          have hl1 : d.left = 1 := by omega
          go_wp2_with (first
            | (go_at_call 15; refine (sync_trip T hoff hl1).mono ?_; rintro ev w5 ⟨rfl, vw5, vk5, T5⟩; clear T)
            | (go_at_call 21; refine (off_is T5 true rfl).mono ?_; rintro ev w6 ⟨rfl, rfl⟩)
            | (go_at_call 15; refine (sync_off T5 rfl).mono ?_; rintro ev w6 ⟨rfl, rfl⟩)
            | (go_at_call 13; refine (sector_ok (bs := []) (rdv_nil _) (by decide)).mono ?_; rintro ev w7 ⟨g7, rfl, _, B7⟩; have T7 := T5.step B7; clear T5)
            | (go_at_call 14; refine (write_off T7 rfl 0 _).mono ?_; rintro ev w8 ⟨rfl, rfl⟩)
            | (go_at_call 17; refine (start_ok T7).mono ?_; rintro ev w9 ⟨rfl, T9⟩; clear T7))
          exact ⟨⟨j + 1, _, _, _, _, _, by simp, by omega, T9, rfl, by simp [Dk.crash], by simp [Dk.crash]⟩, by simp [intOf]; omega⟩
        · have hl1 : d.left ≠ 1 := by omega
          have hnj' : ¬ ((j : Int) + 1 = n) := fun e => hnj e.symm
          go_wp2_with (first
            | (go_at_call 15; refine (sync_ok T hoff hl1 HLM).mono ?_; rintro ev w5 ⟨rfl, T5⟩; clear T)
            | (go_at_call 21; refine (off_is T5 false hoff).mono ?_; rintro ev w6 ⟨rfl, rfl⟩))
          exact ⟨⟨j + 1, _, _, _, _, _, by simp, by omega, T5, hoff, by simp only; omega, by simp⟩, by simp [intOf]; omega⟩
      | false =>
        have hj4 : j % 4 < 4 := Nat.mod_lt _ (by omega)
        by_cases hnj : n = j + 1
        · subst hnj
          have hl1 : d.left = 1 := by omega
          go_wp2_with (first
            | (go_at_call 13; have t1 := T; clear t1; refine (sector_ok (bs := [_]) (rdv_row (World.ownsRow_lit (base := wr.heap.size) (e := 5) (size := 1) wr #[.int .u8 _] 1 (Nat.le_refl _) (by decide) rfl)) (by simp)).mono ?_; rintro ev w4 ⟨g4, rfl, r4, B4⟩; have T4 := (T.step ((Below.refl _ wr).alloc (Nat.le_refl _) _)).step B4; clear T)
            | (go_at_call 14; refine (write_trip T4 hoff hl1 (j % 4) hj4 (rdv_row r4) (pad_len _) (by omega)).mono ?_; rintro ev w5 ⟨rfl, vw5, vk5, T5⟩; clear T4 r4)
            | (go_at_call 21; refine (off_is T5 true rfl).mono ?_; rintro ev w6 ⟨rfl, rfl⟩)
            | (go_at_call 15; refine (sync_off T5 rfl).mono ?_; rintro ev w6 ⟨rfl, rfl⟩)
            | (go_at_call 13; refine (sector_ok (bs := []) (rdv_nil _) (by decide)).mono ?_; rintro ev w7 ⟨g7, rfl, _, B7⟩; have T7 := T5.step B7; clear T5)
            | (go_at_call 14; refine (write_off T7 rfl 0 _).mono ?_; rintro ev w8 ⟨rfl, rfl⟩)
            | (go_at_call 17; refine (start_ok T7).mono ?_; rintro ev w9 ⟨rfl, T9⟩; clear T7))
          exact ⟨⟨j + 1, _, _, _, _, _, by simp, by omega, T9, rfl, by simp [Dk.crash], by simp [Dk.crash]⟩, by simp [intOf]; omega⟩
        · have hl1 : d.left ≠ 1 := by omega
          have hnj' : ¬ ((j : Int) + 1 = n) := fun e => hnj e.symm
          go_wp2_with (first
            | (go_at_call 13; have t1 := T; clear t1; refine (sector_ok (bs := [_]) (rdv_row (World.ownsRow_lit (base := wr.heap.size) (e := 5) (size := 1) wr #[.int .u8 _] 1 (Nat.le_refl _) (by decide) rfl)) (by simp)).mono ?_; rintro ev w4 ⟨g4, rfl, r4, B4⟩; have T4 := (T.step ((Below.refl _ wr).alloc (Nat.le_refl _) _)).step B4; clear T)
            | (go_at_call 14; refine (write_ok T4 hoff hl1 HLM (j % 4) hj4 (rdv_row r4) (pad_len _) (by omega)).mono ?_; rintro ev w5 ⟨rfl, vw5, vk5, T5⟩; clear T4 r4)
            | (go_at_call 21; refine (off_is T5 false hoff).mono ?_; rintro ev w6 ⟨rfl, rfl⟩))
          exact ⟨⟨j + 1, _, _, _, _, _, by simp, by omega, T5, hoff, by simp only; omega, by simp; omega⟩, by simp [intOf]; omega⟩
    · obtain rfl : j = ss.length := by omega
      go_wp2_with (first
        | (go_at_call 18; refine (trip_ok T 1 (-1) (ks := []) (rdv_nil _) (fun h => absurd rfl h) (by decide)).mono ?_; rintro ev w2 ⟨rfl, vk1, T1⟩; clear T)
        | (go_at_call 13; refine (sector_ok (bs := []) (rdv_nil _) (by decide)).mono ?_; rintro ev w7 ⟨g7, rfl, _, B7⟩; have T7 := T1.step B7; clear T1; have F1 : Nat := 0)
        | (go_at_call 14; have t1 := F1; clear t1; refine (write_arg T7 hoff 9 (by decide) _).mono ?_; rintro ev w8 ⟨rfl, rfl⟩; clear F1)
        | (go_at_call 14; refine (write_len T7 hoff 0 (by decide) none 0 0 (by decide)).mono ?_; rintro ev w8 ⟨rfl, rfl⟩)
        | (go_at_call 21; refine (off_is T7 false hoff).mono ?_; rintro ev w6 ⟨rfl, rfl⟩)
        | (go_at_call 15; refine (sync_trip T7 hoff rfl).mono ?_; rintro ev w9 ⟨rfl, vw9, vk9, T9⟩; clear T7)
        | (go_at_call 21; refine (off_is T9 true rfl).mono ?_; rintro ev w6 ⟨rfl, rfl⟩)
        | (go_at_call 10; refine (wakes13_ok _).mono ?_; rintro ev w10 ⟨rfl, B10⟩))
      go_ret
      exact ⟨by simp, T9.fam.below.trans (B10.mono T9.fam.below.size)⟩
end Go.Proofs.Ytgcndphocpedjaa
