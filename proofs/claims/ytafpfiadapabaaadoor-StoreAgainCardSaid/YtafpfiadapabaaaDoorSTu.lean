/-
  STOREAGAIN: the walk. Own work.
-/
import Derived.Test.YtafpfiadapabaaaDoorSTt
namespace Go.Proofs.YtafpfiadapabaaaDoor
open Go.ChangeShapes Go.WideShapes Go.ChangeAt Go.RowKit Go.Maps Go.Deep
set_option maxRecDepth 100000
attribute [local go_sem ↓] Go.wp_at_zero Go.wp_at_succ
set_option maxHeartbeats 4000000 in
theorem again_far {w : World} {v : Value} {L : List Rb} (HL : Rbs w v L) (opens : Int) (h : 12 < L.length ∨ opens < 0 ∨ 10 < opens) : Calls Tryd.prog 7 #[v, .int .i64 opens] w fun e w' => e = .returned (.bool true) ∧ Below w.heap.size w w' := by
  obtain ⟨p, c, rfl, _⟩ := HL
  by_cases h1 : 12 < L.length
  · have h1I : (12 : Int) < L.length := by omega
    go_enter Tryd.func7, Tryd.ntmps7
    go_wp2
    go_ret
    exact ⟨by simp, Below.refl _ _⟩
  · have h1I : ¬ (12 : Int) < L.length := by omega
    by_cases h2 : opens < 0
    · go_enter Tryd.func7, Tryd.ntmps7
      go_wp2
      go_ret
      exact ⟨by simp, Below.refl _ _⟩
    · have h3 : 10 < opens := by omega
      go_enter Tryd.func7, Tryd.ntmps7
      go_wp2
      go_ret
      exact ⟨by simp, Below.refl _ _⟩
set_option maxHeartbeats 16000000 in
theorem again_walk {w : World} {v : Value} {L : List Rb} (HL : Rbs w v L) (opens : Nat) (hl : L.length ≤ 12) (ho : opens ≤ 10) (hg : w.cell? ⟨0, 0, none⟩ = some eTy) : Calls Tryd.prog 7 #[v, .int .i64 (opens : Int)] w fun e w' => e = .returned (.bool true) ∧ Below w.heap.size w w' := by
  have HG := (show Hid _ from hg)
  have HLL : Hid (Rbs w v L) := HL
  obtain ⟨p, c, rfl, _⟩ := HL
  have h1I : ¬ (12 : Int) < L.length := by omega
  have h2I : ¬ (opens : Int) < 0 := by omega
  have h3I : ¬ (10 : Int) < opens := by omega
  clear hg
  go_enter Tryd.func7, Tryd.ntmps7
  go_wp2_with (go_at_call 9; refine (new_st 512 (by omega) (by omega) w).mono ?_; rintro ev w1 ⟨db, rfl, T0⟩)
  have T1 := T0.add (r := byteRow (.slice none 0 0) []) (Below.refl _ _) (World.ownsRow_nil _ _ _ _)
  clear T0
  go_loopw [7, 8] (fun wv i wq => ∃ (j m : Nat) (S : List Int) (R : List RowD), i = .int .i64 j ∧ j ≤ L.length ∧ m ≤ j ∧ Dst w wq db 512 S m false R ∧ byteRow wv S ∈ R) (fun wv i _ => L.length + 1 - (intOf i).toNat)
  case atStart => exact ⟨0, 0, [], _, rfl, by omega, by omega, T1, by simp⟩
  case round =>
    obtain ⟨j, m, S, R, rfl, hj, hm, T2, hw2⟩ := hrel
    have hjI : (j : Int) ≤ L.length := by omega
    clear T1
    have hro : wr.ownsRow w.heap.size 5 1 u7 S.length (S.map (Value.int .u8)) := T2.row (r := byteRow u7 S) hw2
    obtain ⟨pw, cw, rfl⟩ := row_slice hro
    clear hro
    go_wp2
    have hSz := T2.size
    go_loopw [9, 10] (fun s k wq => ∃ (q : Nat) (R' : List RowD), k = .int .i64 q ∧ q ≤ opens + 1 ∧ Dst w wq db 512 S m false R' ∧ byteRow (.slice pw S.length cw) S ∈ R' ∧ (0 < q → ∃ sb v, s = .pointer (some ⟨sb, 0, none⟩) ∧ stRow sb db v ∈ R' ∧ byteRow v S ∈ R')) (fun s k _ => opens + 1 - (intOf k).toNat)
    case atStart => exact ⟨0, R, rfl, by omega, T2, hw2, fun h => absurd h (Nat.lt_irrefl _)⟩
    case round =>
      obtain ⟨q, R3, rfl, hq, T3, hw3, hs3⟩ := hrel
      clear T2 hw2
      by_cases hqo : q ≤ opens
      · have hqI : (q : Int) ≤ opens := by omega
        clear hs3
        go_wp2_with (first
          | (go_at_call 10; refine (open_st T3 (by omega)).mono ?_; rintro ev w4 ⟨sb, v4, rfl, B4, T4⟩)
          | (go_at_call 17; refine (state_st T4 (S1 := S) (sb := sb) (v := v4) (by simp) (by simp) hSz).mono ?_; rintro ev w5 ⟨u5, rfl, B5, hr5⟩; obtain ⟨p5, c5, rfl⟩ := row_slice hr5; have T5 := T4.step B5; have H5 := rdv_row hr5; clear hr5)
          | (go_at_call 15; refine (bytes_any H5 (T5.rdv (List.mem_append.2 (.inl hw3))) (by omega) (by omega)).mono ?_; rintro ev w6 ⟨rfl, B6⟩; have T6 := T5.step B6))
        exact ⟨⟨q + 1, _, by simp, by omega, T6, List.mem_append.2 (.inl hw3), fun _ => ⟨sb, v4, rfl, by simp, by simp⟩⟩, by simp [intOf]; omega⟩
      · have hqI : ¬ (q : Int) ≤ opens := by omega
        obtain ⟨sb, v3, rfl, hst3, hb3⟩ := hs3 (by omega)
        by_cases hjl : j = L.length
        · have hjlI : (j : Int) = L.length := by omega
          go_wp2_with (go_at_call 21; refine (wakes14_ok _ ((T3.below.cell (cell_lt HG.out)).trans HG.out)).mono ?_; rintro ev w18 ⟨rfl, B18⟩)
          go_ret
          exact ⟨by simp, T3.below.trans (B18.mono T3.below.size)⟩
        · have hjlI : ¬ (j : Int) = L.length := by omega
          have hjl2 : j < L.length := by omega
          have hjl2I : (j : Int) < L.length := by omega
          obtain ⟨b, o, rfl, hb, hx, hI⟩ := rbs_nth HLL.out hjl2
          generalize hXv : L[j].v = xv at hx hI
          generalize hXb : L[j].bs = xb at hI
          clear hXv hXb
          obtain ⟨px, cx, rfl⟩ := rdv_shape hI.rd
          have HI : Hid (Ins w (.slice px xb.length cx) xb) := by have h := hI; rw [List.length_map] at h; exact h
          rw [List.length_map] at hx
          have x3 := (T3.below.cell (p := ⟨b, o + j, none⟩) hb).trans hx
          have HX := (show Hid _ from hx)
          clear hI hx
          by_cases h5 : 500 < xb.length
          · have h5I : (500 : Int) < xb.length := by omega
            go_wp2
            go_ret
            exact ⟨by simp, T3.below⟩
          · have h5I : ¬ (500 : Int) < xb.length := by omega
            go_wp2
            go_region_with (first
              | (go_at_call 14; refine (save_st (T3.step (by first | exact Below.refl _ _ | exact (Below.refl _ _).drew | exact below_drewN (Below.refl _ _) _)) HG.out (by omega) (S' := xb) (by omega) (by omega) (Stays.old HI.out.rd) HI.out.cap (sb := sb) (vst := v3) hst3).mono ?_; rintro ev w7 ⟨rfl, R7, v7, T7, hs7, hb7, _⟩; have x7 := (T7.below.cell (p := ⟨b, o + j, none⟩) hb).trans HX.out)
              | (go_at_call 17; refine (state_st (T7.step (by first | exact Below.refl _ _ | exact (Below.refl _ _).drew | exact below_drewN (Below.refl _ _) _)) (S1 := xb) (sb := sb) (v := v7) hs7 hb7 (by omega)).mono ?_; rintro ev w8 ⟨u8, rfl, B8, hr8⟩; obtain ⟨p8, c8, rfl⟩ := row_slice hr8; have T8 := (T7.step (by first | exact Below.refl _ _ | exact (Below.refl _ _).drew | exact below_drewN (Below.refl _ _) _)).step B8; have x8 := (T8.below.cell (p := ⟨b, o + j, none⟩) hb).trans HX.out; have H8 := rdv_row hr8; clear hr8)
              | (go_at_call 15; refine (bytes_any (H8.below (by first | exact Below.refl _ _ | exact (Below.refl _ _).drew | exact below_drewN (Below.refl _ _) _)) (HI.out.rd.below (T8.step (by first | exact Below.refl _ _ | exact (Below.refl _ _).drew | exact below_drewN (Below.refl _ _) _)).below) (by omega) (by omega)).mono ?_; rintro ev w9 ⟨rfl, B9⟩; have T9 := (T8.step (by first | exact Below.refl _ _ | exact (Below.refl _ _).drew | exact below_drewN (Below.refl _ _) _)).step B9; have x9 := (T9.below.cell (p := ⟨b, o + j, none⟩) hb).trans HX.out))
            all_goals simp only [Exit.then]
            all_goals
              have hpp : (j : Int).tmod 2 = 1 ∨ (j : Int).tmod 2 = 0 := by
                have e : (j : Int).tmod 2 = ((j % 2 : Nat) : Int) := rfl
                omega
              rcases hpp with hpar | hpar
              · go_wp2_with (first
                  | (go_at_call 13; refine (twinB_ok (HI.out.rd.below (T9.step (by first | exact Below.refl _ _ | exact (Below.refl _ _).drew | exact below_drewN (Below.refl _ _) _)).below) (by simp; omega) (one_map _ (fun _ => rfl) _)).mono ?_; rintro ev w10 ⟨v10, rfl, hr10, B10⟩; have hr10' := hr10; rw [List.length_map] at hr10'; have T10 := (T9.step (by first | exact Below.refl _ _ | exact (Below.refl _ _).drew | exact below_drewN (Below.refl _ _) _)).add (r := byteRow v10 xb) B10 hr10'; clear hr10 hr10')
                  | (go_at_call 20; refine (crash_st T10).mono ?_; rintro ev w11 ⟨rfl, T11⟩; clear T10)
                  | (go_at_call 19; refine (start_st T11).mono ?_; rintro ev w12 ⟨rfl, T12⟩; clear T11))
                exact ⟨⟨j + 1, _, xb, _, by simp, by omega, by omega, T12, by simp⟩, by simp [intOf]; omega⟩
              · go_wp2_with (go_at_call 13; refine (twinB_ok (HI.out.rd.below (T9.step (by first | exact Below.refl _ _ | exact (Below.refl _ _).drew | exact below_drewN (Below.refl _ _) _)).below) (by simp; omega) (one_map _ (fun _ => rfl) _)).mono ?_; rintro ev w10 ⟨v10, rfl, hr10, B10⟩; have hr10' := hr10; rw [List.length_map] at hr10'; have T10 := (T9.step (by first | exact Below.refl _ _ | exact (Below.refl _ _).drew | exact below_drewN (Below.refl _ _) _)).add (r := byteRow v10 xb) B10 hr10'; clear hr10 hr10')
                exact ⟨⟨j + 1, _, xb, _, by simp, by omega, by omega, T10, by simp⟩, by simp [intOf]; omega⟩
end Go.Proofs.YtafpfiadapabaaaDoor
