/-
  STORELASTS: the walk. Own work.
-/
import Derived.Test.YtafpfiadapabaaaDoorSUa
namespace Go.Proofs.YtafpfiadapabaaaDoor
open Go.ChangeShapes Go.WideShapes Go.ChangeAt Go.RowKit Go.Maps Go.Deep
set_option maxRecDepth 100000
attribute [local go_sem ↓] Go.wp_at_zero Go.wp_at_succ
theorem row_cap {w : World} {base e size n : Nat} {v : Value} {xs : List Value} (h : w.ownsRow base e size v n xs) : ∀ p k c, v = .slice p k c → k ≤ c := fun p k c hv => by
  rcases h.2 with ⟨h1, h2⟩ | ⟨g, cap, cur, h1, hb, hg, hc, _⟩
  · rw [h1] at hv
    cases hv
    exact Nat.le_refl _
  · rw [h1] at hv
    cases hv
    exact hc
theorem spoil_row {w : World} {base : Nat} {v : Value} {l : List Int} (h : (byteRow v l).Holds base w) (h4 : l.length ≤ 100000) : Calls Tryd.prog 16 #[v] w fun e w' => e = .returned (.tuple #[]) ∧ Keeps (fun k => (byteRow v l).v.ownBlock = some k) w w' :=
  spoil_ok (row_lower (show w.ownsRow base 5 1 v l.length (l.map (Value.int .u8)) from h) (Nat.zero_le _)) h4
set_option maxHeartbeats 32000000 in
theorem lasts_walk {w : World} {v : Value} {L : List Sv} (HL : Saves w v L) (hg : w.cell? ⟨0, 0, none⟩ = some eTy) : Calls Tryd.prog 3 #[v] w fun e w' => e = .returned (.bool true) ∧ Below w.heap.size w w' := by
  have HG := (show Hid _ from hg)
  have HLL : Hid (Saves w v L) := HL
  obtain ⟨p, c, rfl, _⟩ := HL
  clear hg
  go_enter Tryd.func3, Tryd.ntmps3
  have F1 : Nat := 0
  go_wp2_with (go_at_call 9; refine (new_st 512 (by omega) (by omega) w).mono ?_; rintro ev w1 ⟨db, rfl, T1⟩)
  refine (heavy_ok HLL.out).mono ?_
  rintro ev wz ⟨rfl, r, rfl, hr⟩
  cases r with
  | true =>
    simp only []
    go_at_K
    go_wp2
    go_ret
    exact ⟨by simp, Below.refl _ _⟩
  | false =>
    obtain ⟨hL, hLb⟩ := hr rfl
    have HLB := (show Hid _ from hLb)
    clear hLb hr
    simp only []
    go_at_K
    go_wp2_with (first
      | (go_at_call 9; refine (new_st 512 (by omega) (by omega) _).mono ?_; rintro ev w1 ⟨db, rfl, T1⟩)
      | (go_at_call 10; refine (open_st T1 (by omega)).mono ?_; rintro ev w2 ⟨sb0, v0, rfl, B2, T2⟩; clear T1))
    have T3 := T2.add (r := byteRow (.slice none 0 0) []) (Below.refl _ _) (World.ownsRow_nil _ _ _ _)
    clear T2 B2
    go_loopw [5, 6, 7] (fun s wv i wq => ∃ (j m : Nat) (S : List Int) (R : List RowD) (sb : Nat) (v : Value), s = .pointer (some ⟨sb, 0, none⟩) ∧ i = .int .i64 j ∧ j ≤ L.length ∧ j ≤ 25 ∧ m ≤ j ∧ Dst wz wq db 512 S m false R ∧ stRow sb db v ∈ R ∧ byteRow wv S ∈ R) (fun s wv i _ => 200 - (intOf i).toNat)
    case atStart => exact ⟨0, 0, [], _, sb0, v0, rfl, rfl, by omega, by omega, by omega, T3, by simp, by simp⟩
    case round =>
      obtain ⟨j, m, S, R, sb, v1, rfl, rfl, hj, hj25, hm, T4, hs4, hw4⟩ := hrel
      clear T3
      have hSz := T4.size
      by_cases hlt : j < L.length ∧ j < 25
      · obtain ⟨hlt, hlt25⟩ := hlt
        have hjI : (j : Int) < L.length := by omega
        have hj25I : (j : Int) < 25 := by omega
        obtain ⟨hb1, hb2, hb3⟩ := HLB.out j hlt hlt25
        obtain ⟨b, o, rfl, hb, hA⟩ := saves_nth HLL.out hlt
        generalize L[j] = a at hb1 hb2 hb3 hA
        obtain ⟨pb, cb, e1⟩ := rdv_shape hA.rb
        obtain ⟨pk, ck, e2⟩ := rdv_shape hA.rk
        obtain ⟨pa, ca, e3⟩ := rdv_shape hA.ra
        rw [List.length_map] at e1 e2 e3
        have HA := (show Hid _ from hA)
        have A4 := hA.below hb T4.below
        have x0 := A4.c0
        have x1 := A4.c1
        have x2 := A4.c2
        have x3 := A4.c3
        have x4 := A4.c4
        have x5 := A4.c5
        rw [e1] at x0
        rw [e2] at x3
        rw [e3] at x5
        have HSt := state_of a A4.rb hb1
        simp only [Sv.val, e1, e2, e3] at HSt
        have rk := hA.rk
        rw [e2] at rk
        have HRK := (show Hid _ from rk)
        have ra := hA.ra
        rw [e3] at ra
        have HRA := (show Hid _ from ra)
        have E1 := (show Hid _ from e1)
        have E2 := (show Hid _ from e2)
        have E3 := (show Hid _ from e3)
        clear hA A4 rk ra e1 e2 e3
        go_wp2_with (go_at_call 11; refine HSt.mono ?_; rintro ev w8 ⟨v8, rfl, B8, Z, hr8, hZ⟩; have T8 := T4.add (r := byteRow v8 Z) B8 hr8
                     have y2 := (T8.below.cell (p := ⟨b, o + j * 6 + 2, none⟩) hb).trans HA.out.c2
                     have y3 := ((T8.below.cell (p := ⟨b, o + j * 6 + 3, none⟩) hb).trans HA.out.c3).trans (congrArg some E2.out)
                     have y4 := (T8.below.cell (p := ⟨b, o + j * 6 + 4, none⟩) hb).trans HA.out.c4
                     clear HSt hr8 B8)
        refine' (fun (hkey : ∀ w9, Dtr wz w9 db 512 S m (R ++ [byteRow v8 Z]) → (_ : World → Prop) w9) => ?_) ?_
        rotate_left
        · go_region_with (go_at_call 12; refine (trip_tr (T8.tr.step (by first | exact Below.refl _ _ | exact (Below.refl _ _).drew | exact below_drewN (Below.refl _ _) _)) _ _ HA.out.it HRK.out (by omega)).mono ?_; rintro ev w9 ⟨rfl, T9⟩)
          all_goals simp only [Exit.then]
          all_goals exact hkey _ (T9.step (by first | exact Below.refl _ _ | exact (Below.refl _ _).drew | exact below_drewN (Below.refl _ _) _))
        · intro w9 T9
          go_wp2_with (go_at_call 13; refine (twinB_ok ((T9.step (by first | exact Below.refl _ _ | exact (Below.refl _ _).drew | exact below_drewN (Below.refl _ _) _)).rdv (List.mem_append.2 (.inr (List.mem_singleton.2 rfl)))) (by simp; omega) (one_map _ (fun _ => rfl) _)).mono ?_; rintro ev w10 ⟨v10, rfl, hr10, B10⟩; rw [List.length_map] at hr10; have hcap10 := row_cap hr10; have T10 := (T9.step (by first | exact Below.refl _ _ | exact (Below.refl _ _).drew | exact below_drewN (Below.refl _ _) _)).add (r := byteRow v10 Z) B10 hr10)
          have HC10 := (show Hid _ from hcap10)
          clear hcap10 hr10 B10 T9 T8
          refine (save_tri T10 HG.out (by omega) hZ (by omega) (Stays.mem (List.mem_append.2 (.inr (List.mem_singleton.2 rfl)))) HC10.out (List.mem_append.2 (.inl hs4))).mono ?_
          rintro ev w11 (⟨rfl, A', v', T11, hs11, hk11⟩ | ⟨rfl, Q, hQ, T11⟩)
          · have hn11 : byteRow v8 Z ∈ A' := hk11 _ (List.mem_append.2 (.inr (List.mem_singleton.2 rfl))) ne_st
            have G1 : Nat := 0
            simp only []
            go_at_K
            go_wp2_with (first
              | (go_at_call 15; have t1 := G1; clear t1; refine (bytes_any (T11.rdv (l := Z) (v := v10) (by simp)) (T11.rdv (l := Z) (v := v8) (List.mem_append.2 (.inl hn11))) (by omega) (by omega)).mono ?_; rintro ev w12 ⟨rfl, B12⟩; have T12 := T11.step B12; clear G1 T11; have G2 : Nat := 0)
              | (go_at_call 16; refine (spoil_row (T12.row (r := byteRow v10 Z) (by simp)) (by omega)).mono ?_; rintro ev w13 ⟨rfl, K13⟩; have T13 := T12.spoil K13; clear T12 K13)
              | (go_at_call 12; refine (trip_none T13).mono ?_; rintro ev w14 ⟨rfl, T14⟩; clear T13)
              | (go_at_call 17; refine (state_st T14 (S1 := Z) (sb := sb) (v := v') (List.mem_append.2 (.inl hs11)) (List.mem_append.2 (.inr (List.mem_singleton.2 rfl))) hZ).mono ?_; rintro ev w15 ⟨u15, rfl, B15, hr15⟩; obtain ⟨p15, c15, rfl⟩ := row_slice hr15; have T15 := T14.step B15; have H15 := rdv_row hr15; clear T14 hr15 G2; have G3 : Nat := 0)
              | (go_at_call 15; have t1 := G3; clear t1; refine (bytes_any H15 (T15.rdv (l := Z) (v := v8) (List.mem_append.2 (.inl hn11))) (by omega) (by omega)).mono ?_; rintro ev w16 ⟨rfl, B16⟩; have T16 := T15.step B16; clear G3 T15 H15))
            exact ⟨⟨j + 1, m + 1, Z, _, sb, v', rfl, by simp, by omega, by omega, by omega, T16, (List.mem_append.2 (.inl hs11)), (List.mem_append.2 (.inl hn11))⟩, by simp [intOf]; omega⟩
          · have hQ2 : Q = S ∨ (Q = Z ∧ ¬ Z = S) := by
              rcases hQ with h | h
              · exact .inl h
              · by_cases e : Z = S
                · exact .inl (h.trans e)
                · exact .inr ⟨h, e⟩
            clear hQ
            rcases hQ2 with hQ' | ⟨hQ', hne⟩
            · rw [hQ'] at T11
              clear hQ'
              have G1 : Nat := 0
              simp only []
              go_at_K
              go_wp2_with (first
                | (go_at_call 15; have t1 := G1; clear t1; refine (bytes_any (T11.rdv (l := Z) (v := v10) (by simp)) (T11.rdv (l := Z) (v := v8) (by simp)) (by omega) (by omega)).mono ?_; rintro ev w12 ⟨rfl, B12⟩; have T12 := T11.step B12; clear G1 T11)
                | (go_at_call 16; refine (spoil_row (T12.row (r := byteRow v10 Z) (by simp)) (by omega)).mono ?_; rintro ev w13 ⟨rfl, K13⟩; have T13 := T12.spoil K13; rw [List.append_nil] at T13; clear T12 K13)
                | (go_at_call 18; refine (off_st T13).mono ?_; rintro ev w14 ⟨rfl, rfl⟩))
              go_loopw [11] (fun k wq => ∃ (q : Nat) (R' : List RowD), k = .int .i64 q ∧ q ≤ a.zs0.length ∧ Dst wz wq db 512 S (m + 1) true R' ∧ byteRow u6 S ∈ R' ∧ byteRow v8 Z ∈ R') (fun k _ => 200 - (intOf k).toNat)
              case atStart => exact ⟨0, _, rfl, by omega, T13, by simp [hw4], by simp⟩
              case round =>
                obtain ⟨q, R20, rfl, hq, T20, hw20, hn20⟩ := hrel
                clear T13
                have y5 := ((T20.below.cell (p := ⟨b, o + j * 6 + 5, none⟩) hb).trans HA.out.c5).trans (congrArg some E3.out)
                by_cases hqa : q < a.zs0.length
                · have hqI : (q : Int) < a.zs0.length := by omega
                  obtain ⟨ba, oa, hpa, hba, hca⟩ := rdv_nth HRA.out (t := q) (by simpa using hqa)
                  subst hpa
                  have hzi := HA.out.ia _ (List.getElem_mem hqa)
                  rw [List.getElem?_map, List.getElem?_eq_getElem hqa, Option.map_some] at hca
                  generalize a.zs0[q] = zq at hca hzi
                  have HCA := (show Hid _ from hca)
                  have HZI := (show Hid _ from hzi)
                  clear hca hzi
                  go_wp2_with (go_at_call 19; refine (start_st T20).mono ?_; rintro ev w21 ⟨rfl, T21⟩
                               have z3 := ((T21.below.cell (p := ⟨b, o + j * 6 + 3, none⟩) hb).trans HA.out.c3).trans (congrArg some E2.out)
                               have z4 := (T21.below.cell (p := ⟨b, o + j * 6 + 4, none⟩) hb).trans HA.out.c4
                               have z5 := ((T21.below.cell (p := ⟨b, o + j * 6 + 5, none⟩) hb).trans HA.out.c5).trans (congrArg some E3.out)
                               have zq1 := (T21.below.cell (p := ⟨ba, oa + q, none⟩) hba).trans HCA.out
                               clear T20 y5)
                  refine' (fun (hkey2 : ∀ w22, Dtr wz w22 db 512 S (m + 1) R20 → (_ : World → Prop) w22) => ?_) ?_
                  rotate_left
                  · go_region_with (go_at_call 12; refine (trip_tr (T21.tr.step (by first | exact Below.refl _ _ | exact (Below.refl _ _).drew | exact below_drewN (Below.refl _ _) _)) _ _ HZI.out HRK.out (by omega)).mono ?_; rintro ev w22 ⟨rfl, T22⟩)
                    all_goals simp only [Exit.then]
                    all_goals exact hkey2 _ (T22.step (by first | exact Below.refl _ _ | exact (Below.refl _ _).drew | exact below_drewN (Below.refl _ _) _))
                  intro w22 T22
                  have F22 : Nat := 0
                  go_wp2_with (first
                    | (go_at_call 10; have t1 := F22; clear t1; refine (open_tr (T22.step (by first | exact Below.refl _ _ | exact (Below.refl _ _).drew | exact below_drewN (Below.refl _ _) _)) (by omega)).mono ?_; rintro ev w23 ⟨sx, vx, rfl, B23, T23⟩; clear F22 T22; have P1 : Nat := 0)
                    | (go_at_call 17; have t1 := P1; clear t1; refine (state_tr T23 (S1 := S) (sb := sx) (v := vx) (by simp) (by simp) (by omega)).mono ?_; rintro ev wp1 ⟨up1, rfl, BP1, hrp1⟩; obtain ⟨pp1, cp1, rfl⟩ := row_slice hrp1; have TP1 := T23.step BP1; have HP1 := rdv_row hrp1; clear P1 T23 hrp1; have P1b : Nat := 0)
                    | (go_at_call 15; have t1 := P1b; clear t1; refine (bytes_any HP1 (TP1.rdv (l := S) (v := u6) (List.mem_append.2 (.inl hw20))) (by omega) (by omega)).mono ?_; rintro ev wp2 ⟨rfl, BP2⟩; have T24 := TP1.step BP2; clear TP1; have P9 : Nat := 0; clear P1b HP1)
                    | (go_at_call 20; refine (crash_tr T24).mono ?_; rintro ev w25 ⟨rfl, T25⟩; clear T24))
                  exact ⟨⟨q + 1, _, by simp, by omega, T25, List.mem_append.2 (.inl hw20), List.mem_append.2 (.inl hn20)⟩, by simp [intOf]; omega⟩
                · have hqI : ¬ (q : Int) < a.zs0.length := by omega
                  go_wp2_with (first
                    | (go_at_call 19; refine (start_st T20).mono ?_; rintro ev w21 ⟨rfl, T21⟩; clear T20 y5)
                    | (go_at_call 12; refine (trip_none T21.tr).mono ?_; rintro ev w22 ⟨rfl, T22⟩; clear T21)
                    | (go_at_call 10; refine (open_st T22 (by omega)).mono ?_; rintro ev w23 ⟨sx, vx, rfl, B23, T23⟩; clear T22; have P1 : Nat := 0)
                    | (go_at_call 17; have t1 := P1; clear t1; refine (state_st T23 (S1 := S) (sb := sx) (v := vx) (by simp) (by simp) (by omega)).mono ?_; rintro ev wp1 ⟨up1, rfl, BP1, hrp1⟩; obtain ⟨pp1, cp1, rfl⟩ := row_slice hrp1; have TP1 := T23.step BP1; have HP1 := rdv_row hrp1; clear P1 T23 hrp1; have P1b : Nat := 0)
                    | (go_at_call 15; have t1 := P1b; clear t1; refine (bytes_any HP1 (TP1.rdv (l := S) (v := u6) (List.mem_append.2 (.inl hw20))) (by omega) (by omega)).mono ?_; rintro ev wp2 ⟨rfl, BP2⟩; have T24 := TP1.step BP2; clear TP1; have P9 : Nat := 0; clear P1b HP1)
                    | (go_at_call 17; have t1 := P9; clear t1; refine (state_st T24 (S1 := S) (sb := sx) (v := vx) (by simp) (by simp) (by omega)).mono ?_; rintro ev w26 ⟨u26, rfl, B26, hr26⟩; have T26 := T24.step B26; have H26 := rdv_row hr26; clear P9 T24 hr26)
                    | (go_at_call 13; refine (twinB_ok H26 (by simp; omega) (one_map _ (fun _ => rfl) _)).mono ?_; rintro ev w27 ⟨v27, rfl, hr27, B27⟩; rw [List.length_map] at hr27; have T27 := T26.add (r := byteRow v27 S) B27 hr27; clear T26 hr27))
                  exact ⟨⟨j + 1, m + 1, S, _, sx, vx, rfl, by simp, by omega, by omega, by omega, T27, by simp, by simp⟩, by simp [intOf]; omega⟩
            · rw [hQ'] at T11
              clear hQ'
              have G1 : Nat := 0
              simp only []
              go_at_K
              go_wp2_with (first
                | (go_at_call 15; have t1 := G1; clear t1; refine (bytes_any (T11.rdv (l := Z) (v := v10) (by simp)) (T11.rdv (l := Z) (v := v8) (by simp)) (by omega) (by omega)).mono ?_; rintro ev w12 ⟨rfl, B12⟩; have T12 := T11.step B12; clear G1 T11)
                | (go_at_call 16; refine (spoil_row (T12.row (r := byteRow v10 Z) (by simp)) (by omega)).mono ?_; rintro ev w13 ⟨rfl, K13⟩; have T13 := T12.spoil K13; rw [List.append_nil] at T13; clear T12 K13)
                | (go_at_call 18; refine (off_st T13).mono ?_; rintro ev w14 ⟨rfl, rfl⟩))
              go_loopw [11] (fun k wq => ∃ (q : Nat) (R' : List RowD), k = .int .i64 q ∧ q ≤ a.zs0.length ∧ Dst wz wq db 512 Z (m + 1) true R' ∧ byteRow u6 S ∈ R' ∧ byteRow v8 Z ∈ R') (fun k _ => 200 - (intOf k).toNat)
              case atStart => exact ⟨0, _, rfl, by omega, T13, by simp [hw4], by simp⟩
              case round =>
                obtain ⟨q, R20, rfl, hq, T20, hw20, hn20⟩ := hrel
                clear T13
                have y5 := ((T20.below.cell (p := ⟨b, o + j * 6 + 5, none⟩) hb).trans HA.out.c5).trans (congrArg some E3.out)
                by_cases hqa : q < a.zs0.length
                · have hqI : (q : Int) < a.zs0.length := by omega
                  obtain ⟨ba, oa, hpa, hba, hca⟩ := rdv_nth HRA.out (t := q) (by simpa using hqa)
                  subst hpa
                  have hzi := HA.out.ia _ (List.getElem_mem hqa)
                  rw [List.getElem?_map, List.getElem?_eq_getElem hqa, Option.map_some] at hca
                  generalize a.zs0[q] = zq at hca hzi
                  have HCA := (show Hid _ from hca)
                  have HZI := (show Hid _ from hzi)
                  clear hca hzi
                  go_wp2_with (go_at_call 19; refine (start_st T20).mono ?_; rintro ev w21 ⟨rfl, T21⟩
                               have z3 := ((T21.below.cell (p := ⟨b, o + j * 6 + 3, none⟩) hb).trans HA.out.c3).trans (congrArg some E2.out)
                               have z4 := (T21.below.cell (p := ⟨b, o + j * 6 + 4, none⟩) hb).trans HA.out.c4
                               have z5 := ((T21.below.cell (p := ⟨b, o + j * 6 + 5, none⟩) hb).trans HA.out.c5).trans (congrArg some E3.out)
                               have zq1 := (T21.below.cell (p := ⟨ba, oa + q, none⟩) hba).trans HCA.out
                               clear T20 y5)
                  refine' (fun (hkey2 : ∀ w22, Dtr wz w22 db 512 Z (m + 1) R20 → (_ : World → Prop) w22) => ?_) ?_
                  rotate_left
                  · go_region_with (go_at_call 12; refine (trip_tr (T21.tr.step (by first | exact Below.refl _ _ | exact (Below.refl _ _).drew | exact below_drewN (Below.refl _ _) _)) _ _ HZI.out HRK.out (by omega)).mono ?_; rintro ev w22 ⟨rfl, T22⟩)
                    all_goals simp only [Exit.then]
                    all_goals exact hkey2 _ (T22.step (by first | exact Below.refl _ _ | exact (Below.refl _ _).drew | exact below_drewN (Below.refl _ _) _))
                  intro w22 T22
                  have F22 : Nat := 0
                  go_wp2_with (first
                    | (go_at_call 10; have t1 := F22; clear t1; refine (open_tr (T22.step (by first | exact Below.refl _ _ | exact (Below.refl _ _).drew | exact below_drewN (Below.refl _ _) _)) (by omega)).mono ?_; rintro ev w23 ⟨sx, vx, rfl, B23, T23⟩; clear F22 T22; have P1 : Nat := 0)
                    | (go_at_call 17; have t1 := P1; clear t1; refine (state_tr T23 (S1 := Z) (sb := sx) (v := vx) (by simp) (by simp) (by omega)).mono ?_; rintro ev wp1 ⟨up1, rfl, BP1, hrp1⟩; obtain ⟨pp1, cp1, rfl⟩ := row_slice hrp1; have TP1 := T23.step BP1; have HP1 := rdv_row hrp1; clear P1 T23 hrp1; have P1b : Nat := 0)
                    | (go_at_call 15; have t1 := P1b; clear t1; refine (bytes_any HP1 (TP1.rdv (l := S) (v := u6) (List.mem_append.2 (.inl hw20))) (by omega) (by omega)).mono ?_; rintro ev wp2 ⟨rfl, BP2⟩; have TP2 := TP1.step BP2; clear TP1; have P1c : Nat := 0; clear P1b HP1)
                    | (go_at_call 17; have t1 := P1c; clear t1; refine (state_tr TP2 (S1 := Z) (sb := sx) (v := vx) (by simp) (by simp) (by omega)).mono ?_; rintro ev wp3 ⟨up3, rfl, BP3, hrp3⟩; obtain ⟨pp3, cp3, rfl⟩ := row_slice hrp3; have TP3 := TP2.step BP3; have HP3 := rdv_row hrp3; clear P1c TP2 hrp3; have P1d : Nat := 0)
                    | (go_at_call 15; have t1 := P1d; clear t1; refine (bytes_any HP3 (TP3.rdv (l := Z) (v := v8) (List.mem_append.2 (.inl hn20))) (by omega) (by omega)).mono ?_; rintro ev wp4 ⟨rfl, BP4⟩; have T24 := TP3.step BP4; clear TP3 P1d HP3; have P9 : Nat := 0)
                    | (go_at_call 20; refine (crash_tr T24).mono ?_; rintro ev w25 ⟨rfl, T25⟩; clear T24))
                  exact ⟨⟨q + 1, _, by simp, by omega, T25, List.mem_append.2 (.inl hw20), List.mem_append.2 (.inl hn20)⟩, by simp [intOf]; omega⟩
                · have hqI : ¬ (q : Int) < a.zs0.length := by omega
                  go_wp2_with (first
                    | (go_at_call 19; refine (start_st T20).mono ?_; rintro ev w21 ⟨rfl, T21⟩; clear T20 y5)
                    | (go_at_call 12; refine (trip_none T21.tr).mono ?_; rintro ev w22 ⟨rfl, T22⟩; clear T21)
                    | (go_at_call 10; refine (open_st T22 (by omega)).mono ?_; rintro ev w23 ⟨sx, vx, rfl, B23, T23⟩; clear T22; have P1 : Nat := 0)
                    | (go_at_call 17; have t1 := P1; clear t1; refine (state_st T23 (S1 := Z) (sb := sx) (v := vx) (by simp) (by simp) (by omega)).mono ?_; rintro ev wp1 ⟨up1, rfl, BP1, hrp1⟩; obtain ⟨pp1, cp1, rfl⟩ := row_slice hrp1; have TP1 := T23.step BP1; have HP1 := rdv_row hrp1; clear P1 T23 hrp1; have P1b : Nat := 0)
                    | (go_at_call 15; have t1 := P1b; clear t1; refine (bytes_any HP1 (TP1.rdv (l := S) (v := u6) (List.mem_append.2 (.inl hw20))) (by omega) (by omega)).mono ?_; rintro ev wp2 ⟨rfl, BP2⟩; have TP2 := TP1.step BP2; clear TP1; have P1c : Nat := 0; clear P1b HP1)
                    | (go_at_call 17; have t1 := P1c; clear t1; refine (state_st TP2 (S1 := Z) (sb := sx) (v := vx) (by simp) (by simp) (by omega)).mono ?_; rintro ev wp3 ⟨up3, rfl, BP3, hrp3⟩; obtain ⟨pp3, cp3, rfl⟩ := row_slice hrp3; have TP3 := TP2.step BP3; have HP3 := rdv_row hrp3; clear P1c TP2 hrp3; have P1d : Nat := 0)
                    | (go_at_call 15; have t1 := P1d; clear t1; refine (bytes_any HP3 (TP3.rdv (l := Z) (v := v8) (List.mem_append.2 (.inl hn20))) (by omega) (by omega)).mono ?_; rintro ev wp4 ⟨rfl, BP4⟩; have T24 := TP3.step BP4; clear TP3 P1d HP3; have P9 : Nat := 0)
                    | (go_at_call 17; have t1 := P9; clear t1; refine (state_st T24 (S1 := Z) (sb := sx) (v := vx) (by simp) (by simp) (by omega)).mono ?_; rintro ev w26 ⟨u26, rfl, B26, hr26⟩; have T26 := T24.step B26; have H26 := rdv_row hr26; clear P9 T24 hr26)
                    | (go_at_call 13; refine (twinB_ok H26 (by simp; omega) (one_map _ (fun _ => rfl) _)).mono ?_; rintro ev w27 ⟨v27, rfl, hr27, B27⟩; rw [List.length_map] at hr27; have T27 := T26.add (r := byteRow v27 Z) B27 hr27; clear T26 hr27))
                  exact ⟨⟨j + 1, m + 1, Z, _, sx, vx, rfl, by simp, by omega, by omega, by omega, T27, by simp, by simp⟩, by simp [intOf]; omega⟩
      · obtain ⟨pu, cu, rfl⟩ := row_slice (show wr.ownsRow wz.heap.size 5 1 u6 S.length (S.map (Value.int .u8)) from T4.row (r := byteRow u6 S) hw4)
        by_cases hf1 : (j : Int) < L.length
        · have hf2 : ¬ (j : Int) < 25 := by omega
          go_wp2_with (first
            | (go_at_call 20; refine (crash_st T4).mono ?_; rintro ev w11 ⟨rfl, T11⟩; clear T4)
            | (go_at_call 19; refine (start_st T11).mono ?_; rintro ev w12 ⟨rfl, T12⟩; clear T11)
            | (go_at_call 10; refine (open_st T12 (by omega)).mono ?_; rintro ev w13 ⟨sx, vx, rfl, B13, T13⟩; clear T12)
            | (go_at_call 17; refine (state_st T13 (S1 := S) (sb := sx) (v := vx) (by simp) (by simp) (by omega)).mono ?_; rintro ev w14 ⟨u14, rfl, B14, hr14⟩; obtain ⟨p14, c14, rfl⟩ := row_slice hr14; have T14 := T13.step B14; have H14 := rdv_row hr14; clear T13 hr14)
            | (go_at_call 15; refine (bytes_any H14 (T14.rdv (l := S) (List.mem_append.2 (.inl hw4))) (by omega) (by omega)).mono ?_; rintro ev w15 ⟨rfl, B15⟩; have T15 := T14.step B15; clear T14 H14)
            | (go_at_call 21; refine (wakes14_ok _ ((T15.below.cell (cell_lt HG.out)).trans HG.out)).mono ?_; rintro ev w18 ⟨rfl, B18⟩))
          go_ret
          exact ⟨by simp, T15.below.trans (B18.mono T15.below.size)⟩
        · go_wp2_with (first
            | (go_at_call 20; refine (crash_st T4).mono ?_; rintro ev w11 ⟨rfl, T11⟩; clear T4)
            | (go_at_call 19; refine (start_st T11).mono ?_; rintro ev w12 ⟨rfl, T12⟩; clear T11)
            | (go_at_call 10; refine (open_st T12 (by omega)).mono ?_; rintro ev w13 ⟨sx, vx, rfl, B13, T13⟩; clear T12)
            | (go_at_call 17; refine (state_st T13 (S1 := S) (sb := sx) (v := vx) (by simp) (by simp) (by omega)).mono ?_; rintro ev w14 ⟨u14, rfl, B14, hr14⟩; obtain ⟨p14, c14, rfl⟩ := row_slice hr14; have T14 := T13.step B14; have H14 := rdv_row hr14; clear T13 hr14)
            | (go_at_call 15; refine (bytes_any H14 (T14.rdv (l := S) (List.mem_append.2 (.inl hw4))) (by omega) (by omega)).mono ?_; rintro ev w15 ⟨rfl, B15⟩; have T15 := T14.step B15; clear T14 H14)
            | (go_at_call 21; refine (wakes14_ok _ ((T15.below.cell (cell_lt HG.out)).trans HG.out)).mono ?_; rintro ev w18 ⟨rfl, B18⟩))
          go_ret
          exact ⟨by simp, T15.below.trans (B18.mono T15.below.size)⟩
end Go.Proofs.YtafpfiadapabaaaDoor
