/-
  STOREEACH: the walk. Own work.
-/
import Derived.Test.YtafpfiadapabaaaDoorSTr
namespace Go.Proofs.YtafpfiadapabaaaDoor
open Go.ChangeShapes Go.WideShapes Go.ChangeAt Go.RowKit Go.Maps Go.Deep
set_option maxRecDepth 100000
attribute [local go_sem ↓] Go.wp_at_zero Go.wp_at_succ
set_option maxHeartbeats 4000000 in
theorem each_long {w : World} {v1 v2 : Value} {old next : List Int} (Ho : Ins w v1 old) (Hn : Ins w v2 next) (c : Int) (h : 400 < old.length ∨ 400 < next.length) : Calls Tryd.prog 6 #[v1, v2, .int .i64 c] w fun e w' => e = .returned (.bool true) ∧ Below w.heap.size w w' := by
  obtain ⟨p1, c1, rfl⟩ := rdv_shape Ho.rd
  obtain ⟨p2, c2, rfl⟩ := rdv_shape Hn.rd
  rw [List.length_map, List.length_map]
  by_cases h1 : 400 < old.length
  · have h1I : (400 : Int) < old.length := by omega
    go_enter Tryd.func6, Tryd.ntmps6
    go_wp2
    go_ret
    exact ⟨by simp, Below.refl _ _⟩
  · have h1I : ¬ (400 : Int) < old.length := by omega
    have h2I : (400 : Int) < next.length := by omega
    go_enter Tryd.func6, Tryd.ntmps6
    go_wp2
    go_ret
    exact ⟨by simp, Below.refl _ _⟩
set_option maxHeartbeats 16000000 in
theorem each_walk {w : World} {v1 v2 : Value} {old next : List Int} (Ho : Ins w v1 old) (Hn : Ins w v2 next) (c : Int) (ho : old.length ≤ 400) (hn : next.length ≤ 400) (hg : w.cell? ⟨0, 0, none⟩ = some eTy) : Calls Tryd.prog 6 #[v1, v2, .int .i64 c] w fun e w' => e = .returned (.bool true) ∧ Below w.heap.size w w' := by
  have HG := (show Hid _ from hg)
  have HO := (show Hid _ from Ho)
  have HN := (show Hid _ from Hn)
  obtain ⟨p1, c1, rfl⟩ := rdv_shape Ho.rd
  obtain ⟨p2, c2, rfl⟩ := rdv_shape Hn.rd
  rw [List.length_map] at HO HN
  rw [List.length_map, List.length_map]
  have h1I : ¬ (400 : Int) < old.length := by omega
  have h2I : ¬ (400 : Int) < next.length := by omega
  clear hg Ho Hn
  go_enter Tryd.func6, Tryd.ntmps6
  go_wp2
  go_loopw [7] (fun i wq => ∃ k : Nat, i = .int .i64 k ∧ 1 ≤ k ∧ k ≤ 40 ∧ Below w.heap.size w wq) (fun i _ => 40 - (intOf i).toNat)
  case atStart => exact ⟨1, rfl, by omega, by omega, Below.refl _ _⟩
  case round =>
    obtain ⟨k, rfl, hk1, hk, Bq⟩ := hrel
    have HGr : Hid (wr.cell? ⟨0, 0, none⟩ = some eTy) := (Bq.cell (cell_lt HG.out)).trans HG.out
    have RO : Hid (RdV wr (.slice p1 old.length c1) (old.map (Value.int .u8))) := HO.out.rd.below Bq
    have RN : Hid (RdV wr (.slice p2 next.length c2) (next.map (Value.int .u8))) := HN.out.rd.below Bq
    by_cases hlt : k < 40
    · have hkI : (k : Int) < 40 := by omega
      have hu : (IntKind.u64.wrap c).tmod 3 = 0 ∨ (IntKind.u64.wrap c).tmod 3 = 1 ∨ ((IntKind.u64.wrap c).tmod 3 ≠ 0 ∧ (IntKind.u64.wrap c).tmod 3 ≠ 1) := by omega
      rcases hu with hu | hu | ⟨hu, hu2⟩
      · obtain ⟨i0, hi, hz0, hz1, hz2⟩ := info_parts (P := Tryd.prog) (e := 4) (z := .bool false) (size := 1) (bytes := 1) (by kernel_rfl)
        go_wp2_with (first
          | (go_at_call 9; refine (new_st 300 (by omega) (by omega) wr).mono ?_; rintro ev w1 ⟨db, rfl, T1⟩; have F1 : Nat := 0)
          | (go_at_call 10; have t1 := F1; clear t1; refine (open_st T1 (by omega)).mono ?_; rintro ev w2 ⟨sb, v2, rfl, B2, T2⟩; clear F1 T1; have F2 : Nat := 0)
          | (go_at_call 14; have t1 := F2; clear t1; refine (save_st T2 HGr.out (by omega) (S' := old) (by omega) (by omega) (Stays.old RO.out) HO.out.cap (sb := sb) (vst := v2) (by simp)).mono ?_; rintro ev w3 ⟨rfl, R3, v3, T3, hs3, _, _⟩; clear F2 T2))
        go_loopw [11, 13] (fun v i wq => ∃ j : Nat, i = .int .i64 j ∧ j ≤ 60 ∧ Below w3.heap.size w3 wq ∧ wq.ownsRow w3.heap.size 4 1 v j ((List.replicate j true).map Value.bool)) (fun v i _ => 60 - (intOf i).toNat)
        case atStart => exact ⟨0, rfl, by omega, Below.refl _ _, World.ownsRow_nil _ _ _ _⟩
        case round =>
          obtain ⟨j, rfl, hj, B4, hr4⟩ := hrel
          obtain ⟨pv, cv, rfl⟩ := row_slice hr4
          by_cases hl : j < 60
          · have hjI : (j : Int) < 60 := by omega
            have BA := (Below.refl wr.heap.size wr).alloc (Nat.le_refl _) (.cells #[.bool true] 4)
            have hrA := row_keeps (F := fun _ => False) hr4 (Keeps.of_below BA) (fun _ _ h => h)
            have HRA := (show Hid _ from hrA)
            have HNW := (show Hid _ from news1 wr (.bool true) 4)
            have hsz3 : w3.heap.size ≤ (wr.alloc (.cells #[.bool true] 4)).heap.size := Nat.le_trans B4.size BA.size
            have HS3 := (show Hid _ from hsz3)
            clear hrA hsz3
            go_wp2_with (at_builtin; refine wpList_append_own _ rfl (.tmp 63) (.tmp 64) 33 rfl w3.heap.size 4 i0 (.bool false) 1 1 Tryd.underlying33 hi hz0 hz1 hz2 rfl (by decide) (.slice pv j cv) j ((List.replicate j true).map Value.bool) rfl HRA.out ⟨wr.heap.size, 0, none⟩ 1 1 [.bool true] rfl rfl HNW.out (fun u hu => by rw [List.mem_singleton.1 hu]; rfl) (by unfold maxLen; omega) (by omega) HS3.out ?_; intro v' w4 hown4 hgrow4 _)
            have e1 : (List.replicate j true).map Value.bool ++ [.bool true] = (List.replicate (j + 1) true).map Value.bool := by rw [List.replicate_succ' (n := j)]; simp
            rw [e1] at hown4
            exact ⟨⟨j + 1, by simp, by omega, (B4.trans (BA.mono B4.size)).grown hgrow4 HS3.out (fun q hq => (row_base hr4 hq).1), hown4⟩, by simp [intOf]; omega⟩
          · obtain rfl : j = 60 := by omega
            have T4 := T3.add (r := boolRow (.slice pv 60 cv) (List.replicate 60 true)) B4 (show World.ownsRow _ _ _ _ _ (List.replicate 60 true).length _ by rw [List.length_replicate]; exact hr4)
            have hk4 : boolRow (.slice pv 60 cv) (List.replicate 60 true) ∈ R3 ++ [boolRow (.slice pv 60 cv) (List.replicate 60 true)] := List.mem_append.2 (.inr (List.mem_singleton.2 rfl))
            have hs4 : stRow sb db v3 ∈ R3 ++ [boolRow (.slice pv 60 cv) (List.replicate 60 true)] := List.mem_append.2 (.inl hs3)
            have hk5 : ((List.replicate 60 true) : List Bool).length ≤ 100000 := by simp
            clear T3 hs3
            go_wp2_with (go_at_call 12; refine (trip_st T4 _ _ (by unfold In64; omega) hk4 hk5).mono ?_; rintro ev w5 ⟨rfl, T5⟩; clear T4)
            refine (save_tr T5 HGr.out (by omega) (S' := next) (by omega) (by omega) (Stays.old RN.out) HN.out.cap (sb := sb) (vst := v3) hs4).mono ?_
            rintro ev w6 (⟨rfl, R6, v6, T6, hs6, hb6, _⟩ | ⟨rfl, Z, hZ, T6⟩)
            · simp only []
              go_at_K
              go_wp2_with (first
                | (go_at_call 17; refine (state_tr T6 hs6 hb6 (by omega)).mono ?_; rintro ev w7 ⟨u7, rfl, B7, hr7⟩; obtain ⟨p7, c7, rfl⟩ := row_slice hr7; have T7 := T6.step B7; have H7 := rdv_row hr7; clear hr7)
                | (go_at_call 15; refine (bytes_any H7 (RN.out.below T7.below) (by omega) (by omega)).mono ?_; rintro ev w8 ⟨rfl, B8⟩; have T8 := T7.step B8)
                | (go_at_call 21; refine (wakes14_ok _ ((T8.below.cell (cell_lt HGr.out)).trans HGr.out)).mono ?_; rintro ev w9 ⟨rfl, B9⟩))
              go_ret
              exact ⟨by simp, Bq.trans ((T8.below.trans (B9.mono T8.below.size)).mono Bq.size)⟩
            · have hZ' : Z = old ∨ (Z = next ∧ ¬ next = old) := by
                rcases hZ with h | h
                · exact .inl h
                · by_cases e : next = old
                  · exact .inl (h.trans e)
                  · exact .inr ⟨h, e⟩
              clear hZ
              have G0 : Nat := 0
              rcases hZ' with hZ | ⟨hZ, hne⟩
              · rw [hZ] at T6
                clear hZ
                simp only []
                go_at_K
                go_wp2_with (first
                  | (go_at_call 19; have t1 := G0; clear t1; refine (start_st T6).mono ?_; rintro ev w7 ⟨rfl, T7⟩; clear T6 G0; have G1 : Nat := 0)
                  | (go_at_call 10; have t1 := G1; clear t1; refine (open_st T7 (by omega)).mono ?_; rintro ev w8 ⟨sb8, v8, rfl, B8, T8⟩; clear G1 T7; have G2 : Nat := 0)
                  | (go_at_call 17; have t1 := G2; clear t1; refine (state_st T8 (S1 := old) (sb := sb8) (v := v8) (by simp) (by simp) (by omega)).mono ?_; rintro ev w9 ⟨u9, rfl, B9, hr9⟩; obtain ⟨p9, c9, rfl⟩ := row_slice hr9; have T9 := T8.step B9; have H9 := rdv_row hr9; clear G2 T8 hr9; have G3 : Nat := 0)
                  | (go_at_call 15; have t1 := G3; clear t1; refine (bytes_any H9 (RO.out.below T9.below) (by omega) (by omega)).mono ?_; rintro ev w10 ⟨rfl, B10⟩; have T10 := T9.step B10; clear G3 T9 H9; have T12 := T10.lit #[.int .u8 7] [7] rfl (by decide); clear T10; have G6 : Nat := 0)
                  | (go_at_call 14; have t1 := G6; clear t1; refine (save_st T12 HGr.out (by omega) (S' := [7]) (by decide) (by omega) (Stays.mem (by simp)) (cap_lit _ _) (sb := sb8) (vst := v8) (by simp)).mono ?_; rintro ev w13 ⟨rfl, R13, v13, T13, hs13, _, _⟩; clear G6 T12)
                  | (go_at_call 20; refine (crash_st T13).mono ?_; rintro ev w14 ⟨rfl, T14⟩; clear T13; have G7 : Nat := 0)
                  | (go_at_call 19; have t1 := G7; clear t1; refine (start_st T14).mono ?_; rintro ev w15 ⟨rfl, T15⟩; clear T14 G7; have G8 : Nat := 0)
                  | (go_at_call 10; have t1 := G8; clear t1; refine (open_st T15 (by omega)).mono ?_; rintro ev w16 ⟨sb16, v16, rfl, B16, T16⟩; clear G8 T15; have G9 : Nat := 0)
                  | (go_at_call 17; have t1 := G9; clear t1; refine (state_st T16 (S1 := [7]) (sb := sb16) (v := v16) (by simp) (by simp) (by decide)).mono ?_; rintro ev w17 ⟨u17, rfl, B17, hr17⟩; obtain ⟨p17, c17, rfl⟩ := row_slice hr17; have H17 := rdv_row (row_keeps (F := fun _ => False) hr17 (Keeps.of_below ((Below.refl _ w17).alloc (Nat.le_refl _) (.cells #[.int .u8 7] 5))) (fun _ _ h => h)); have T17 := (T16.step B17).lit #[.int .u8 7] [7] rfl (by decide); have hl17 : byteRow (.slice (some ⟨w17.heap.size, 0, none⟩) [(7 : Int)].length [(7 : Int)].length) [7] ∈ R13 ++ [byteRow v16 [7], stRow sb16 db v16] ++ [byteRow (.slice (some ⟨w17.heap.size, 0, none⟩) [(7 : Int)].length [(7 : Int)].length) [7]] := List.mem_append.2 (.inr (List.mem_singleton.2 rfl)); clear G9 T16 hr17; have G10 : Nat := 0)
                  | (go_at_call 15; have t1 := G10; clear t1; refine (bytes_any H17 (T17.rdv hl17) (by decide) (by decide)).mono ?_; rintro ev w18 ⟨rfl, B18⟩; have T18 := T17.step B18; clear G10 T17 H17))
                exact ⟨⟨k + 1, by simp, by omega, by omega, Bq.trans (T18.below.mono Bq.size)⟩, by simp [intOf]; omega⟩
              · rw [hZ] at T6
                clear hZ
                simp only []
                go_at_K
                go_wp2_with (first
                  | (go_at_call 19; have t1 := G0; clear t1; refine (start_st T6).mono ?_; rintro ev w7 ⟨rfl, T7⟩; clear T6 G0; have G1 : Nat := 0)
                  | (go_at_call 10; have t1 := G1; clear t1; refine (open_st T7 (by omega)).mono ?_; rintro ev w8 ⟨sb8, v8, rfl, B8, T8⟩; clear G1 T7; have G2 : Nat := 0)
                  | (go_at_call 17; have t1 := G2; clear t1; refine (state_st T8 (S1 := next) (sb := sb8) (v := v8) (by simp) (by simp) (by omega)).mono ?_; rintro ev w9 ⟨u9, rfl, B9, hr9⟩; obtain ⟨p9, c9, rfl⟩ := row_slice hr9; have T9 := T8.step B9; have H9 := rdv_row hr9; clear G2 T8 hr9; have G3 : Nat := 0)
                  | (go_at_call 15; have t1 := G3; clear t1; refine (bytes_any H9 (RO.out.below T9.below) (by omega) (by omega)).mono ?_; rintro ev w10 ⟨rfl, B10⟩; have T10 := T9.step B10; clear G3 T9 H9; have G4 : Nat := 0)
                  | (go_at_call 17; have t1 := G4; clear t1; refine (state_st T10 (S1 := next) (sb := sb8) (v := v8) (by simp) (by simp) (by omega)).mono ?_; rintro ev w11 ⟨u11, rfl, B11, hr11⟩; obtain ⟨p11, c11, rfl⟩ := row_slice hr11; have T11 := T10.step B11; have H11 := rdv_row hr11; clear G4 T10 hr11; have G5 : Nat := 0)
                  | (go_at_call 15; have t1 := G5; clear t1; refine (bytes_any H11 (RN.out.below T11.below) (by omega) (by omega)).mono ?_; rintro ev w12 ⟨rfl, B12⟩; have T10 := T11.step B12; clear G5 T11 H11; have T12 := T10.lit #[.int .u8 7] [7] rfl (by decide); clear T10; have G6 : Nat := 0)
                  | (go_at_call 14; have t1 := G6; clear t1; refine (save_st T12 HGr.out (by omega) (S' := [7]) (by decide) (by omega) (Stays.mem (by simp)) (cap_lit _ _) (sb := sb8) (vst := v8) (by simp)).mono ?_; rintro ev w13 ⟨rfl, R13, v13, T13, hs13, _, _⟩; clear G6 T12)
                  | (go_at_call 20; refine (crash_st T13).mono ?_; rintro ev w14 ⟨rfl, T14⟩; clear T13; have G7 : Nat := 0)
                  | (go_at_call 19; have t1 := G7; clear t1; refine (start_st T14).mono ?_; rintro ev w15 ⟨rfl, T15⟩; clear T14 G7; have G8 : Nat := 0)
                  | (go_at_call 10; have t1 := G8; clear t1; refine (open_st T15 (by omega)).mono ?_; rintro ev w16 ⟨sb16, v16, rfl, B16, T16⟩; clear G8 T15; have G9 : Nat := 0)
                  | (go_at_call 17; have t1 := G9; clear t1; refine (state_st T16 (S1 := [7]) (sb := sb16) (v := v16) (by simp) (by simp) (by decide)).mono ?_; rintro ev w17 ⟨u17, rfl, B17, hr17⟩; obtain ⟨p17, c17, rfl⟩ := row_slice hr17; have H17 := rdv_row (row_keeps (F := fun _ => False) hr17 (Keeps.of_below ((Below.refl _ w17).alloc (Nat.le_refl _) (.cells #[.int .u8 7] 5))) (fun _ _ h => h)); have T17 := (T16.step B17).lit #[.int .u8 7] [7] rfl (by decide); have hl17 : byteRow (.slice (some ⟨w17.heap.size, 0, none⟩) [(7 : Int)].length [(7 : Int)].length) [7] ∈ R13 ++ [byteRow v16 [7], stRow sb16 db v16] ++ [byteRow (.slice (some ⟨w17.heap.size, 0, none⟩) [(7 : Int)].length [(7 : Int)].length) [7]] := List.mem_append.2 (.inr (List.mem_singleton.2 rfl)); clear G9 T16 hr17; have G10 : Nat := 0)
                  | (go_at_call 15; have t1 := G10; clear t1; refine (bytes_any H17 (T17.rdv hl17) (by decide) (by decide)).mono ?_; rintro ev w18 ⟨rfl, B18⟩; have T18 := T17.step B18; clear G10 T17 H17))
                exact ⟨⟨k + 1, by simp, by omega, by omega, Bq.trans (T18.below.mono Bq.size)⟩, by simp [intOf]; omega⟩
      · go_wp2_with (first
          | (go_at_call 9; refine (new_st 300 (by omega) (by omega) wr).mono ?_; rintro ev w1 ⟨db, rfl, T1⟩; have F1 : Nat := 0)
          | (go_at_call 10; have t1 := F1; clear t1; refine (open_st T1 (by omega)).mono ?_; rintro ev w2 ⟨sb, v2, rfl, B2, T2⟩; clear F1 T1; have F2 : Nat := 0)
          | (go_at_call 14; have t1 := F2; clear t1; refine (save_st T2 HGr.out (by omega) (S' := old) (by omega) (by omega) (Stays.old RO.out) HO.out.cap (sb := sb) (vst := v2) (by simp)).mono ?_; rintro ev w3 ⟨rfl, R3, v3, T3, hs3, _, _⟩; clear F2 T2
             have T4 := T3.add (r := boolRow (.slice none 0 0) []) (Below.refl _ _) (World.ownsRow_nil _ _ _ _)
             have hk4 : boolRow (.slice none 0 0) [] ∈ R3 ++ [boolRow (.slice none 0 0) []] := List.mem_append.2 (.inr (List.mem_singleton.2 rfl))
             have hs4 : stRow sb db v3 ∈ R3 ++ [boolRow (.slice none 0 0) []] := List.mem_append.2 (.inl hs3)
             have hk5 : ([] : List Bool).length ≤ 100000 := by simp
             clear T3 hs3)
          | (go_at_call 12; refine (trip_st T4 _ _ (by unfold In64; omega) hk4 hk5).mono ?_; rintro ev w5 ⟨rfl, T5⟩; clear T4))
        refine (save_tr T5 HGr.out (by omega) (S' := next) (by omega) (by omega) (Stays.old RN.out) HN.out.cap (sb := sb) (vst := v3) hs4).mono ?_
        rintro ev w6 (⟨rfl, R6, v6, T6, hs6, hb6, _⟩ | ⟨rfl, Z, hZ, T6⟩)
        · simp only []
          go_at_K
          go_wp2_with (first
            | (go_at_call 17; refine (state_tr T6 hs6 hb6 (by omega)).mono ?_; rintro ev w7 ⟨u7, rfl, B7, hr7⟩; obtain ⟨p7, c7, rfl⟩ := row_slice hr7; have T7 := T6.step B7; have H7 := rdv_row hr7; clear hr7)
            | (go_at_call 15; refine (bytes_any H7 (RN.out.below T7.below) (by omega) (by omega)).mono ?_; rintro ev w8 ⟨rfl, B8⟩; have T8 := T7.step B8)
            | (go_at_call 21; refine (wakes14_ok _ ((T8.below.cell (cell_lt HGr.out)).trans HGr.out)).mono ?_; rintro ev w9 ⟨rfl, B9⟩))
          go_ret
          exact ⟨by simp, Bq.trans ((T8.below.trans (B9.mono T8.below.size)).mono Bq.size)⟩
        · have hZ' : Z = old ∨ (Z = next ∧ ¬ next = old) := by
            rcases hZ with h | h
            · exact .inl h
            · by_cases e : next = old
              · exact .inl (h.trans e)
              · exact .inr ⟨h, e⟩
          clear hZ
          have G0 : Nat := 0
          rcases hZ' with hZ | ⟨hZ, hne⟩
          · rw [hZ] at T6
            clear hZ
            simp only []
            go_at_K
            go_wp2_with (first
              | (go_at_call 19; have t1 := G0; clear t1; refine (start_st T6).mono ?_; rintro ev w7 ⟨rfl, T7⟩; clear T6 G0; have G1 : Nat := 0)
              | (go_at_call 10; have t1 := G1; clear t1; refine (open_st T7 (by omega)).mono ?_; rintro ev w8 ⟨sb8, v8, rfl, B8, T8⟩; clear G1 T7; have G2 : Nat := 0)
              | (go_at_call 17; have t1 := G2; clear t1; refine (state_st T8 (S1 := old) (sb := sb8) (v := v8) (by simp) (by simp) (by omega)).mono ?_; rintro ev w9 ⟨u9, rfl, B9, hr9⟩; obtain ⟨p9, c9, rfl⟩ := row_slice hr9; have T9 := T8.step B9; have H9 := rdv_row hr9; clear G2 T8 hr9; have G3 : Nat := 0)
              | (go_at_call 15; have t1 := G3; clear t1; refine (bytes_any H9 (RO.out.below T9.below) (by omega) (by omega)).mono ?_; rintro ev w10 ⟨rfl, B10⟩; have T10 := T9.step B10; clear G3 T9 H9; have T12 := T10.lit #[.int .u8 7] [7] rfl (by decide); clear T10; have G6 : Nat := 0)
              | (go_at_call 14; have t1 := G6; clear t1; refine (save_st T12 HGr.out (by omega) (S' := [7]) (by decide) (by omega) (Stays.mem (by simp)) (cap_lit _ _) (sb := sb8) (vst := v8) (by simp)).mono ?_; rintro ev w13 ⟨rfl, R13, v13, T13, hs13, _, _⟩; clear G6 T12)
              | (go_at_call 20; refine (crash_st T13).mono ?_; rintro ev w14 ⟨rfl, T14⟩; clear T13; have G7 : Nat := 0)
              | (go_at_call 19; have t1 := G7; clear t1; refine (start_st T14).mono ?_; rintro ev w15 ⟨rfl, T15⟩; clear T14 G7; have G8 : Nat := 0)
              | (go_at_call 10; have t1 := G8; clear t1; refine (open_st T15 (by omega)).mono ?_; rintro ev w16 ⟨sb16, v16, rfl, B16, T16⟩; clear G8 T15; have G9 : Nat := 0)
              | (go_at_call 17; have t1 := G9; clear t1; refine (state_st T16 (S1 := [7]) (sb := sb16) (v := v16) (by simp) (by simp) (by decide)).mono ?_; rintro ev w17 ⟨u17, rfl, B17, hr17⟩; obtain ⟨p17, c17, rfl⟩ := row_slice hr17; have H17 := rdv_row (row_keeps (F := fun _ => False) hr17 (Keeps.of_below ((Below.refl _ w17).alloc (Nat.le_refl _) (.cells #[.int .u8 7] 5))) (fun _ _ h => h)); have T17 := (T16.step B17).lit #[.int .u8 7] [7] rfl (by decide); have hl17 : byteRow (.slice (some ⟨w17.heap.size, 0, none⟩) [(7 : Int)].length [(7 : Int)].length) [7] ∈ R13 ++ [byteRow v16 [7], stRow sb16 db v16] ++ [byteRow (.slice (some ⟨w17.heap.size, 0, none⟩) [(7 : Int)].length [(7 : Int)].length) [7]] := List.mem_append.2 (.inr (List.mem_singleton.2 rfl)); clear G9 T16 hr17; have G10 : Nat := 0)
              | (go_at_call 15; have t1 := G10; clear t1; refine (bytes_any H17 (T17.rdv hl17) (by decide) (by decide)).mono ?_; rintro ev w18 ⟨rfl, B18⟩; have T18 := T17.step B18; clear G10 T17 H17))
            exact ⟨⟨k + 1, by simp, by omega, by omega, Bq.trans (T18.below.mono Bq.size)⟩, by simp [intOf]; omega⟩
          · rw [hZ] at T6
            clear hZ
            simp only []
            go_at_K
            go_wp2_with (first
              | (go_at_call 19; have t1 := G0; clear t1; refine (start_st T6).mono ?_; rintro ev w7 ⟨rfl, T7⟩; clear T6 G0; have G1 : Nat := 0)
              | (go_at_call 10; have t1 := G1; clear t1; refine (open_st T7 (by omega)).mono ?_; rintro ev w8 ⟨sb8, v8, rfl, B8, T8⟩; clear G1 T7; have G2 : Nat := 0)
              | (go_at_call 17; have t1 := G2; clear t1; refine (state_st T8 (S1 := next) (sb := sb8) (v := v8) (by simp) (by simp) (by omega)).mono ?_; rintro ev w9 ⟨u9, rfl, B9, hr9⟩; obtain ⟨p9, c9, rfl⟩ := row_slice hr9; have T9 := T8.step B9; have H9 := rdv_row hr9; clear G2 T8 hr9; have G3 : Nat := 0)
              | (go_at_call 15; have t1 := G3; clear t1; refine (bytes_any H9 (RO.out.below T9.below) (by omega) (by omega)).mono ?_; rintro ev w10 ⟨rfl, B10⟩; have T10 := T9.step B10; clear G3 T9 H9; have G4 : Nat := 0)
              | (go_at_call 17; have t1 := G4; clear t1; refine (state_st T10 (S1 := next) (sb := sb8) (v := v8) (by simp) (by simp) (by omega)).mono ?_; rintro ev w11 ⟨u11, rfl, B11, hr11⟩; obtain ⟨p11, c11, rfl⟩ := row_slice hr11; have T11 := T10.step B11; have H11 := rdv_row hr11; clear G4 T10 hr11; have G5 : Nat := 0)
              | (go_at_call 15; have t1 := G5; clear t1; refine (bytes_any H11 (RN.out.below T11.below) (by omega) (by omega)).mono ?_; rintro ev w12 ⟨rfl, B12⟩; have T10 := T11.step B12; clear G5 T11 H11; have T12 := T10.lit #[.int .u8 7] [7] rfl (by decide); clear T10; have G6 : Nat := 0)
              | (go_at_call 14; have t1 := G6; clear t1; refine (save_st T12 HGr.out (by omega) (S' := [7]) (by decide) (by omega) (Stays.mem (by simp)) (cap_lit _ _) (sb := sb8) (vst := v8) (by simp)).mono ?_; rintro ev w13 ⟨rfl, R13, v13, T13, hs13, _, _⟩; clear G6 T12)
              | (go_at_call 20; refine (crash_st T13).mono ?_; rintro ev w14 ⟨rfl, T14⟩; clear T13; have G7 : Nat := 0)
              | (go_at_call 19; have t1 := G7; clear t1; refine (start_st T14).mono ?_; rintro ev w15 ⟨rfl, T15⟩; clear T14 G7; have G8 : Nat := 0)
              | (go_at_call 10; have t1 := G8; clear t1; refine (open_st T15 (by omega)).mono ?_; rintro ev w16 ⟨sb16, v16, rfl, B16, T16⟩; clear G8 T15; have G9 : Nat := 0)
              | (go_at_call 17; have t1 := G9; clear t1; refine (state_st T16 (S1 := [7]) (sb := sb16) (v := v16) (by simp) (by simp) (by decide)).mono ?_; rintro ev w17 ⟨u17, rfl, B17, hr17⟩; obtain ⟨p17, c17, rfl⟩ := row_slice hr17; have H17 := rdv_row (row_keeps (F := fun _ => False) hr17 (Keeps.of_below ((Below.refl _ w17).alloc (Nat.le_refl _) (.cells #[.int .u8 7] 5))) (fun _ _ h => h)); have T17 := (T16.step B17).lit #[.int .u8 7] [7] rfl (by decide); have hl17 : byteRow (.slice (some ⟨w17.heap.size, 0, none⟩) [(7 : Int)].length [(7 : Int)].length) [7] ∈ R13 ++ [byteRow v16 [7], stRow sb16 db v16] ++ [byteRow (.slice (some ⟨w17.heap.size, 0, none⟩) [(7 : Int)].length [(7 : Int)].length) [7]] := List.mem_append.2 (.inr (List.mem_singleton.2 rfl)); clear G9 T16 hr17; have G10 : Nat := 0)
              | (go_at_call 15; have t1 := G10; clear t1; refine (bytes_any H17 (T17.rdv hl17) (by decide) (by decide)).mono ?_; rintro ev w18 ⟨rfl, B18⟩; have T18 := T17.step B18; clear G10 T17 H17))
            exact ⟨⟨k + 1, by simp, by omega, by omega, Bq.trans (T18.below.mono Bq.size)⟩, by simp [intOf]; omega⟩
      · go_wp2_with (first
          | (go_at_call 9; refine (new_st 300 (by omega) (by omega) wr).mono ?_; rintro ev w1 ⟨db, rfl, T1⟩; have F1 : Nat := 0)
          | (go_at_call 10; have t1 := F1; clear t1; refine (open_st T1 (by omega)).mono ?_; rintro ev w2 ⟨sb, v2, rfl, B2, T2⟩; clear F1 T1; have F2 : Nat := 0)
          | (go_at_call 14; have t1 := F2; clear t1; refine (save_st T2 HGr.out (by omega) (S' := old) (by omega) (by omega) (Stays.old RO.out) HO.out.cap (sb := sb) (vst := v2) (by simp)).mono ?_; rintro ev w3 ⟨rfl, R3, v3, T3, hs3, _, _⟩; clear F2 T2
             have T4 := T3.add (r := boolRow (.slice none 0 0) []) (Below.refl _ _) (World.ownsRow_nil _ _ _ _)
             have hk4 : boolRow (.slice none 0 0) [] ∈ R3 ++ [boolRow (.slice none 0 0) []] := List.mem_append.2 (.inr (List.mem_singleton.2 rfl))
             have hs4 : stRow sb db v3 ∈ R3 ++ [boolRow (.slice none 0 0) []] := List.mem_append.2 (.inl hs3)
             have hk5 : ([] : List Bool).length ≤ 100000 := by simp
             clear T3 hs3)
          | (go_at_call 12; refine (trip_st T4 _ _ (by unfold In64; omega) hk4 hk5).mono ?_; rintro ev w5 ⟨rfl, T5⟩; clear T4))
        refine (save_tr T5 HGr.out (by omega) (S' := next) (by omega) (by omega) (Stays.old RN.out) HN.out.cap (sb := sb) (vst := v3) hs4).mono ?_
        rintro ev w6 (⟨rfl, R6, v6, T6, hs6, hb6, _⟩ | ⟨rfl, Z, hZ, T6⟩)
        · simp only []
          go_at_K
          go_wp2_with (first
            | (go_at_call 17; refine (state_tr T6 hs6 hb6 (by omega)).mono ?_; rintro ev w7 ⟨u7, rfl, B7, hr7⟩; obtain ⟨p7, c7, rfl⟩ := row_slice hr7; have T7 := T6.step B7; have H7 := rdv_row hr7; clear hr7)
            | (go_at_call 15; refine (bytes_any H7 (RN.out.below T7.below) (by omega) (by omega)).mono ?_; rintro ev w8 ⟨rfl, B8⟩; have T8 := T7.step B8)
            | (go_at_call 21; refine (wakes14_ok _ ((T8.below.cell (cell_lt HGr.out)).trans HGr.out)).mono ?_; rintro ev w9 ⟨rfl, B9⟩))
          go_ret
          exact ⟨by simp, Bq.trans ((T8.below.trans (B9.mono T8.below.size)).mono Bq.size)⟩
        · have hZ' : Z = old ∨ (Z = next ∧ ¬ next = old) := by
            rcases hZ with h | h
            · exact .inl h
            · by_cases e : next = old
              · exact .inl (h.trans e)
              · exact .inr ⟨h, e⟩
          clear hZ
          have G0 : Nat := 0
          rcases hZ' with hZ | ⟨hZ, hne⟩
          · rw [hZ] at T6
            clear hZ
            simp only []
            go_at_K
            go_wp2_with (first
              | (go_at_call 19; have t1 := G0; clear t1; refine (start_st T6).mono ?_; rintro ev w7 ⟨rfl, T7⟩; clear T6 G0; have G1 : Nat := 0)
              | (go_at_call 10; have t1 := G1; clear t1; refine (open_st T7 (by omega)).mono ?_; rintro ev w8 ⟨sb8, v8, rfl, B8, T8⟩; clear G1 T7; have G2 : Nat := 0)
              | (go_at_call 17; have t1 := G2; clear t1; refine (state_st T8 (S1 := old) (sb := sb8) (v := v8) (by simp) (by simp) (by omega)).mono ?_; rintro ev w9 ⟨u9, rfl, B9, hr9⟩; obtain ⟨p9, c9, rfl⟩ := row_slice hr9; have T9 := T8.step B9; have H9 := rdv_row hr9; clear G2 T8 hr9; have G3 : Nat := 0)
              | (go_at_call 15; have t1 := G3; clear t1; refine (bytes_any H9 (RO.out.below T9.below) (by omega) (by omega)).mono ?_; rintro ev w10 ⟨rfl, B10⟩; have T10 := T9.step B10; clear G3 T9 H9; have T12 := T10.lit #[.int .u8 7] [7] rfl (by decide); clear T10; have G6 : Nat := 0)
              | (go_at_call 14; have t1 := G6; clear t1; refine (save_st T12 HGr.out (by omega) (S' := [7]) (by decide) (by omega) (Stays.mem (by simp)) (cap_lit _ _) (sb := sb8) (vst := v8) (by simp)).mono ?_; rintro ev w13 ⟨rfl, R13, v13, T13, hs13, _, _⟩; clear G6 T12)
              | (go_at_call 20; refine (crash_st T13).mono ?_; rintro ev w14 ⟨rfl, T14⟩; clear T13; have G7 : Nat := 0)
              | (go_at_call 19; have t1 := G7; clear t1; refine (start_st T14).mono ?_; rintro ev w15 ⟨rfl, T15⟩; clear T14 G7; have G8 : Nat := 0)
              | (go_at_call 10; have t1 := G8; clear t1; refine (open_st T15 (by omega)).mono ?_; rintro ev w16 ⟨sb16, v16, rfl, B16, T16⟩; clear G8 T15; have G9 : Nat := 0)
              | (go_at_call 17; have t1 := G9; clear t1; refine (state_st T16 (S1 := [7]) (sb := sb16) (v := v16) (by simp) (by simp) (by decide)).mono ?_; rintro ev w17 ⟨u17, rfl, B17, hr17⟩; obtain ⟨p17, c17, rfl⟩ := row_slice hr17; have H17 := rdv_row (row_keeps (F := fun _ => False) hr17 (Keeps.of_below ((Below.refl _ w17).alloc (Nat.le_refl _) (.cells #[.int .u8 7] 5))) (fun _ _ h => h)); have T17 := (T16.step B17).lit #[.int .u8 7] [7] rfl (by decide); have hl17 : byteRow (.slice (some ⟨w17.heap.size, 0, none⟩) [(7 : Int)].length [(7 : Int)].length) [7] ∈ R13 ++ [byteRow v16 [7], stRow sb16 db v16] ++ [byteRow (.slice (some ⟨w17.heap.size, 0, none⟩) [(7 : Int)].length [(7 : Int)].length) [7]] := List.mem_append.2 (.inr (List.mem_singleton.2 rfl)); clear G9 T16 hr17; have G10 : Nat := 0)
              | (go_at_call 15; have t1 := G10; clear t1; refine (bytes_any H17 (T17.rdv hl17) (by decide) (by decide)).mono ?_; rintro ev w18 ⟨rfl, B18⟩; have T18 := T17.step B18; clear G10 T17 H17))
            exact ⟨⟨k + 1, by simp, by omega, by omega, Bq.trans (T18.below.mono Bq.size)⟩, by simp [intOf]; omega⟩
          · rw [hZ] at T6
            clear hZ
            simp only []
            go_at_K
            go_wp2_with (first
              | (go_at_call 19; have t1 := G0; clear t1; refine (start_st T6).mono ?_; rintro ev w7 ⟨rfl, T7⟩; clear T6 G0; have G1 : Nat := 0)
              | (go_at_call 10; have t1 := G1; clear t1; refine (open_st T7 (by omega)).mono ?_; rintro ev w8 ⟨sb8, v8, rfl, B8, T8⟩; clear G1 T7; have G2 : Nat := 0)
              | (go_at_call 17; have t1 := G2; clear t1; refine (state_st T8 (S1 := next) (sb := sb8) (v := v8) (by simp) (by simp) (by omega)).mono ?_; rintro ev w9 ⟨u9, rfl, B9, hr9⟩; obtain ⟨p9, c9, rfl⟩ := row_slice hr9; have T9 := T8.step B9; have H9 := rdv_row hr9; clear G2 T8 hr9; have G3 : Nat := 0)
              | (go_at_call 15; have t1 := G3; clear t1; refine (bytes_any H9 (RO.out.below T9.below) (by omega) (by omega)).mono ?_; rintro ev w10 ⟨rfl, B10⟩; have T10 := T9.step B10; clear G3 T9 H9; have G4 : Nat := 0)
              | (go_at_call 17; have t1 := G4; clear t1; refine (state_st T10 (S1 := next) (sb := sb8) (v := v8) (by simp) (by simp) (by omega)).mono ?_; rintro ev w11 ⟨u11, rfl, B11, hr11⟩; obtain ⟨p11, c11, rfl⟩ := row_slice hr11; have T11 := T10.step B11; have H11 := rdv_row hr11; clear G4 T10 hr11; have G5 : Nat := 0)
              | (go_at_call 15; have t1 := G5; clear t1; refine (bytes_any H11 (RN.out.below T11.below) (by omega) (by omega)).mono ?_; rintro ev w12 ⟨rfl, B12⟩; have T10 := T11.step B12; clear G5 T11 H11; have T12 := T10.lit #[.int .u8 7] [7] rfl (by decide); clear T10; have G6 : Nat := 0)
              | (go_at_call 14; have t1 := G6; clear t1; refine (save_st T12 HGr.out (by omega) (S' := [7]) (by decide) (by omega) (Stays.mem (by simp)) (cap_lit _ _) (sb := sb8) (vst := v8) (by simp)).mono ?_; rintro ev w13 ⟨rfl, R13, v13, T13, hs13, _, _⟩; clear G6 T12)
              | (go_at_call 20; refine (crash_st T13).mono ?_; rintro ev w14 ⟨rfl, T14⟩; clear T13; have G7 : Nat := 0)
              | (go_at_call 19; have t1 := G7; clear t1; refine (start_st T14).mono ?_; rintro ev w15 ⟨rfl, T15⟩; clear T14 G7; have G8 : Nat := 0)
              | (go_at_call 10; have t1 := G8; clear t1; refine (open_st T15 (by omega)).mono ?_; rintro ev w16 ⟨sb16, v16, rfl, B16, T16⟩; clear G8 T15; have G9 : Nat := 0)
              | (go_at_call 17; have t1 := G9; clear t1; refine (state_st T16 (S1 := [7]) (sb := sb16) (v := v16) (by simp) (by simp) (by decide)).mono ?_; rintro ev w17 ⟨u17, rfl, B17, hr17⟩; obtain ⟨p17, c17, rfl⟩ := row_slice hr17; have H17 := rdv_row (row_keeps (F := fun _ => False) hr17 (Keeps.of_below ((Below.refl _ w17).alloc (Nat.le_refl _) (.cells #[.int .u8 7] 5))) (fun _ _ h => h)); have T17 := (T16.step B17).lit #[.int .u8 7] [7] rfl (by decide); have hl17 : byteRow (.slice (some ⟨w17.heap.size, 0, none⟩) [(7 : Int)].length [(7 : Int)].length) [7] ∈ R13 ++ [byteRow v16 [7], stRow sb16 db v16] ++ [byteRow (.slice (some ⟨w17.heap.size, 0, none⟩) [(7 : Int)].length [(7 : Int)].length) [7]] := List.mem_append.2 (.inr (List.mem_singleton.2 rfl)); clear G9 T16 hr17; have G10 : Nat := 0)
              | (go_at_call 15; have t1 := G10; clear t1; refine (bytes_any H17 (T17.rdv hl17) (by decide) (by decide)).mono ?_; rintro ev w18 ⟨rfl, B18⟩; have T18 := T17.step B18; clear G10 T17 H17))
            exact ⟨⟨k + 1, by simp, by omega, by omega, Bq.trans (T18.below.mono Bq.size)⟩, by simp [intOf]; omega⟩
    · obtain rfl : k = 40 := by omega
      go_wp2_with (go_at_call 21; refine (wakes14_ok _ HGr.out).mono ?_; rintro ev w18 ⟨rfl, B18⟩)
      go_ret
      exact ⟨by simp, Bq.trans (B18.mono Bq.size)⟩
end Go.Proofs.YtafpfiadapabaaaDoor
