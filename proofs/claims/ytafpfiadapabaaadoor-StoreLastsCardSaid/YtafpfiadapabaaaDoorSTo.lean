/-
  STOREBOUNDS: the walk. Own work.
-/
import Derived.Test.YtafpfiadapabaaaDoorSTn
namespace Go.Proofs.YtafpfiadapabaaaDoor
open Go.ChangeShapes Go.WideShapes Go.ChangeAt Go.RowKit Go.Maps Go.Deep
set_option maxRecDepth 100000
attribute [local go_sem ↓] Go.wp_at_zero Go.wp_at_succ
theorem byte_make_n (n : Nat) (h : n ≤ 100000) (w : World) : (Instr.makeSlice 31 (.int .i64 (n : Int)) (.int .i64 (n : Int))).run Tryd.prog w = .ok (.slice (some ⟨w.heap.size, 0, none⟩) n n) (w.alloc (.cells (List.replicate n (Value.int .u8 0)).toArray 5)) := by
  obtain ⟨i0, hi, hz0, hz1, hz2⟩ := info_parts (P := Tryd.prog) (e := 5) (z := .int .u8 0) (size := 1) (bytes := 1) (by kernel_rfl)
  have h := make_row n Tryd.underlying31 hi hz0 hz1 hz2 (by omega) (by omega) w
  have e : madeCells (Value.int .u8 0).cells (n * 1) = (List.replicate n (Value.int .u8 0)).toArray := by
    apply Array.ext'
    rw [Nat.mul_one]
    exact toList_madeCells_one _ _
  rw [e] at h
  exact h
/-- The last row turned. -/
theorem Dst.setLast {w0 w w' : World} {db n m : Nat} {S : List Int} {off : Bool} {A : List RowD} {r r' : RowD} (T : Dst w0 w db n S m off (A ++ [r])) (hg : w.grownBy w' r.v.ownBlock) (hr : r'.Holds w0.heap.size w') (hat : ∀ k, r'.v.ownBlock = some k → r.v.ownBlock = some k ∨ w.heap.size ≤ k) : Dst w0 w' db n S m off (A ++ [r']) := by
  obtain ⟨d, vs, vn, vw, vk, h0, h1, a, c, T, q⟩ := T
  have F := T.fam.put (5 + A.length) (r := r) (r' := r') (by rw [List.getElem?_append_right (by simp [Dk.rows])]; simp [Dk.rows]) hg hr hat
  have e : (d.rows db vs vn vw vk ++ (A ++ [r])).set (5 + A.length) r' = d.rows db vs vn vw vk ++ (A ++ [r']) := by
    rw [List.set_append_right _ _ (by simp [Dk.rows]), List.set_append_right _ _ (by simp [Dk.rows])]
    simp [Dk.rows]
  rw [e] at F
  exact ⟨d, vs, vn, vw, vk, h0, h1, a, c, ⟨F, T.ok⟩, q⟩
def fil (k j : Nat) (c : Int) : List Int := List.replicate j c ++ List.replicate (k - j) 0
theorem fil_len (k j : Nat) (c : Int) (h : j ≤ k) : (fil k j c).length = k := by simp [fil]; omega
theorem fil_set (k j : Nat) (c : Int) (h : j < k) : ((fil k j c).map (Value.int .u8)).set j (.int .u8 c) = (fil k (j + 1) c).map (Value.int .u8) := by
  obtain ⟨r, hr⟩ : ∃ r, k - j = r + 1 := ⟨k - j - 1, by omega⟩
  have hr2 : k - (j + 1) = r := by omega
  rw [fil, fil, hr, hr2, List.map_append, List.map_append, List.set_append_right _ _ (by simp)]
  rw [List.replicate_succ' (n := j), List.replicate_succ (n := r)]
  simp
theorem fil_all (k : Nat) (c : Int) : fil k k c = List.replicate k c := by simp [fil]
theorem Dst.rdv {w0 w : World} {db n m : Nat} {S : List Int} {off : Bool} {R : List RowD} (T : Dst w0 w db n S m off R) {v : Value} {l : List Int} (h : byteRow v l ∈ R) : RdV w v (l.map (Value.int .u8)) := rdv_row (show w.ownsRow w0.heap.size 5 1 v l.length (l.map (Value.int .u8)) from T.row (r := byteRow v l) h)
section
variable {w : World}
set_option maxHeartbeats 4000000 in
theorem bounds_far (sectors over c : Int) (h : over < -3 ∨ 2 < over) : Calls Tryd.prog 4 #[.int .i64 sectors, .int .i64 over, .int .u8 c] w fun e w' => e = .returned (.bool true) ∧ Below w.heap.size w w' := by
  rcases h with h | h
  · go_enter Tryd.func4, Tryd.ntmps4
    go_wp2
    go_ret
    exact ⟨by simp, Below.refl _ _⟩
  · have h' : ¬ over < -3 := by omega
    go_enter Tryd.func4, Tryd.ntmps4
    go_wp2
    go_ret
    exact ⟨by simp, Below.refl _ _⟩
set_option maxHeartbeats 4000000 in
theorem bounds_none (sectors over c : Int) (h1 : ¬ over < -3) (h2 : ¬ 2 < over) (hn : ¬ (1 ≤ sectors ∧ sectors ≤ 512)) (hg : w.cell? ⟨0, 0, none⟩ = some eTy) : Calls Tryd.prog 4 #[.int .i64 sectors, .int .i64 over, .int .u8 c] w fun e w' => e = .returned (.bool true) ∧ Below w.heap.size w w' := by
  have HG := (show Hid _ from hg)
  have HN := (show Hid _ from hn)
  clear hg hn
  go_enter Tryd.func4, Tryd.ntmps4
  go_wp2_with (first
    | (go_at_call 9; refine (new_no sectors HN.out w).mono ?_; rintro ev w1 ⟨rfl, rfl⟩)
    | (go_at_call 21; refine (wakes14_ok _ HG.out).mono ?_; rintro ev w2 ⟨rfl, B2⟩))
  go_ret
  exact ⟨by simp, B2⟩
set_option maxHeartbeats 4000000 in
theorem bounds_small (n : Nat) (over c : Int) (h1 : ¬ over < -3) (h2 : ¬ 2 < over) (hn : 1 ≤ n ∧ n < 300) (hg : w.cell? ⟨0, 0, none⟩ = some eTy) : Calls Tryd.prog 4 #[.int .i64 (n : Int), .int .i64 over, .int .u8 c] w fun e w' => e = .returned (.bool true) ∧ Below w.heap.size w w' := by
  have HG := (show Hid _ from hg)
  clear hg
  have hnI : (n : Int) < 300 := by omega
  go_enter Tryd.func4, Tryd.ntmps4
  go_wp2_with (first
    | (go_at_call 9; refine (new_ok n (by omega) (by omega) w).mono ?_; rintro ev w1 ⟨db, vs, vn, rfl, T1⟩)
    | (go_at_call 10; refine (open_small T1 rfl (by omega)).mono ?_; rintro ev w2 ⟨rfl, rfl⟩)
    | (go_at_call 21; refine (wakes14_ok _ ((T1.fam.below.cell (cell_lt HG.out)).trans HG.out)).mono ?_; rintro ev w3 ⟨rfl, B3⟩))
  go_ret
  exact ⟨by simp, T1.fam.below.trans (B3.mono T1.fam.below.size)⟩
set_option maxHeartbeats 16000000 in
theorem bounds_walk (n k : Nat) (over c : Int) (h1 : ¬ over < -3) (h2 : ¬ 2 < over) (hn : 300 ≤ n ∧ n ≤ 512) (hk : 8000 + over = (k : Int)) (hg : w.cell? ⟨0, 0, none⟩ = some eTy) : Calls Tryd.prog 4 #[.int .i64 (n : Int), .int .i64 over, .int .u8 c] w fun e w' => e = .returned (.bool true) ∧ Below w.heap.size w w' := by
  have HG := (show Hid _ from hg)
  clear hg
  have hnI : ¬ (n : Int) < 300 := by omega
  have hk2 : k ≤ 8002 := by omega
  have hmk := byte_make_n k (by omega)
  go_enter Tryd.func4, Tryd.ntmps4
  go_wp2_with (first
    | (go_at_call 9; refine (new_st n (by omega) hn.2 w).mono ?_; rintro ev w1 ⟨db, rfl, T1⟩; have F1 : Nat := 0)
    | (go_at_call 10; have t1 := F1; clear t1; refine (open_st T1 hn.1).mono ?_; rintro ev w2 ⟨sb, v2, rfl, B2, T2⟩
       have T3 := T2.lit #[.int .u8 1, .int .u8 2, .int .u8 3] [1, 2, 3] rfl (by decide)
       clear F1 T1 T2; have F2 : Nat := 0)
    | (go_at_call 14; have t1 := F2; clear t1; refine (save_st T3 HG.out hn.1 (S' := [1, 2, 3]) (by decide) (by omega) (Stays.mem (by simp)) (cap_lit _ _) (sb := sb) (vst := v2) (by simp)).mono ?_; rintro ev w4 ⟨rfl, R4, v4, T4, hs4, hb4, _⟩; clear F2 T3))
  have T5 : Dst w (w4.alloc (.cells (Array.replicate k (Value.int .u8 0)) 5)) db n [1, 2, 3] (0 + 1) false (R4 ++ [byteRow (.slice (some ⟨w4.heap.size, 0, none⟩) k k) (fil k 0 c)]) := by
    refine T4.add ((Below.refl _ w4).alloc (Nat.le_refl _) _) ?_
    have h := World.ownsRow_lit (base := w4.heap.size) (e := 5) (size := 1) w4 (Array.replicate k (Value.int .u8 0)) k (Nat.le_refl _) (by unfold maxLen; omega) (by simp)
    have e1 : (Array.replicate k (Value.int .u8 0)).toList = (fil k 0 c).map (Value.int .u8) := by simp [fil]
    have e2 : (fil k 0 c).length = k := fil_len k 0 c (Nat.zero_le _)
    rw [e1] at h
    show World.ownsRow _ _ _ _ _ (fil k 0 c).length _
    rw [e2]
    exact h
  clear T4
  go_loopw [11] (fun i wq => ∃ j : Nat, i = .int .i64 j ∧ j ≤ k ∧ Dst w wq db n [1, 2, 3] (0 + 1) false (R4 ++ [byteRow (.slice (some ⟨w4.heap.size, 0, none⟩) k k) (fil k j c)])) (fun i _ => k - (intOf i).toNat)
  case atStart => exact ⟨0, rfl, by omega, T5⟩
  case round =>
    obtain ⟨j, rfl, hj, T6⟩ := hrel
    have r6 : wr.ownsRow w.heap.size 5 1 (.slice (some ⟨w4.heap.size, 0, none⟩) k k) k ((fil k j c).map (Value.int .u8)) := by
      have h : wr.ownsRow w.heap.size 5 1 (.slice (some ⟨w4.heap.size, 0, none⟩) k k) (fil k j c).length ((fil k j c).map (Value.int .u8)) := T6.row (r := byteRow (.slice (some ⟨w4.heap.size, 0, none⟩) k k) (fil k j c)) (List.mem_append.2 (.inr (List.mem_singleton.2 rfl)))
      rw [fil_len k j c hj] at h
      exact h
    by_cases hlt : j < k
    · have hjI : (j : Int) < k := by omega
      have hc := World.ownsRow.cellAt r6 j (by omega)
      rw [List.getElem?_eq_getElem (by rw [List.length_map, fil_len k j c hj]; exact hlt)] at hc
      have hf := World.ownsRow.frozenAt r6 j
      obtain ⟨s1, g1⟩ := World.ownsRow.stored r6 j (.int .u8 c)
      rw [fil_set k j c hlt] at s1
      have T7 := T6.setLast (r' := byteRow (.slice (some ⟨w4.heap.size, 0, none⟩) k k) (fil k (j + 1) c)) g1 (by show World.ownsRow _ _ _ _ _ (fil k (j + 1) c).length _; rw [fil_len k (j + 1) c hlt]; exact s1) (fun q hq => .inl hq)
      clear s1 g1 r6 T6
      go_wp2
      exact ⟨⟨j + 1, by simp, by omega, T7⟩, by simp [intOf]; omega⟩
    · obtain rfl : j = k := by omega
      rw [fil_all] at T6
      clear r6 hmk T5
      by_cases ho : 0 < over
      · have ho2 : (8000 : Nat) < j := by omega
        go_wp2_with (first
          | (go_at_call 14; have t1 := hlt; clear t1; refine (save_st_len T6 (sb := sb) (vst := v4) (List.mem_append.2 (.inl hs4)) _ _ _ ho2).mono ?_; rintro ev w7 ⟨rfl, rfl⟩
             have T8 := T6.lit #[.int .u8 1, .int .u8 2, .int .u8 3] [1, 2, 3] rfl (by decide)
             have hs8 : stRow sb db v4 ∈ R4 ++ [byteRow (.slice (some ⟨w4.heap.size, 0, none⟩) j j) (List.replicate j c)] ++ [byteRow (.slice (some ⟨w7.heap.size, 0, none⟩) [(1 : Int), 2, 3].length [(1 : Int), 2, 3].length) [1, 2, 3]] := List.mem_append.2 (.inl (List.mem_append.2 (.inl hs4)))
             have hb8 : byteRow v4 [1, 2, 3] ∈ R4 ++ [byteRow (.slice (some ⟨w4.heap.size, 0, none⟩) j j) (List.replicate j c)] ++ [byteRow (.slice (some ⟨w7.heap.size, 0, none⟩) [(1 : Int), 2, 3].length [(1 : Int), 2, 3].length) [1, 2, 3]] := List.mem_append.2 (.inl (List.mem_append.2 (.inl hb4)))
             have hw8 : byteRow (.slice (some ⟨w7.heap.size, 0, none⟩) [(1 : Int), 2, 3].length [(1 : Int), 2, 3].length) [1, 2, 3] ∈ R4 ++ [byteRow (.slice (some ⟨w4.heap.size, 0, none⟩) j j) (List.replicate j c)] ++ [byteRow (.slice (some ⟨w7.heap.size, 0, none⟩) [(1 : Int), 2, 3].length [(1 : Int), 2, 3].length) [1, 2, 3]] := List.mem_append.2 (.inr (List.mem_singleton.2 rfl))
             have hz8 : [(1 : Int), 2, 3].length ≤ 8000 := by decide
             have hz9 : [(1 : Int), 2, 3].length ≤ 100000 := by decide
             clear T6 hlt; have G1 : Nat := 0)
          | (go_at_call 17; have t1 := G1; clear t1; refine (state_st T8 hs8 hb8 hz8).mono ?_; rintro ev w9 ⟨u9, rfl, B9, hr9⟩; obtain ⟨p9, c9, rfl⟩ := row_slice hr9; have T9 := T8.step B9; have H9 := rdv_row hr9; clear G1 T8 hr9; have G2 : Nat := 0)
          | (go_at_call 15; have t1 := G2; clear t1; refine (bytes_any H9 (T9.rdv hw8) hz9 hz9).mono ?_; rintro ev w10 ⟨rfl, B10⟩; have T10 := T9.step B10; clear G2 T9 H9)
          | (go_at_call 20; refine (crash_st T10).mono ?_; rintro ev w11 ⟨rfl, T11⟩; clear T10; have G3 : Nat := 0)
          | (go_at_call 10; have t1 := G3; clear t1; refine (open_st_off T11).mono ?_; rintro ev w12 ⟨rfl, rfl⟩; clear G3)
          | (go_at_call 14; refine (save_st_off T11 hs8 _).mono ?_; rintro ev w13 ⟨rfl, rfl⟩)
          | (go_at_call 19; refine (start_st T11).mono ?_; rintro ev w14 ⟨rfl, T14⟩; clear T11; have G4 : Nat := 0)
          | (go_at_call 10; have t1 := G4; clear t1; refine (open_st T14 hn.1).mono ?_; rintro ev w15 ⟨sb15, v15, rfl, B15, T15⟩; clear G4 T14; have G5 : Nat := 0)
          | (go_at_call 17; have t1 := G5; clear t1; refine (state_st T15 (sb := sb15) (v := v15) (by simp) (by simp) hz8).mono ?_; rintro ev w16 ⟨u16, rfl, B16, hr16⟩; obtain ⟨p16, c16, rfl⟩ := row_slice hr16; have T16 := T15.step B16; have H16 := rdv_row hr16; clear G5 T15 hr16; have G6 : Nat := 0)
          | (go_at_call 15; have t1 := G6; clear t1; refine (bytes_any H16 (T16.rdv (List.mem_append.2 (.inl hw8))) hz9 hz9).mono ?_; rintro ev w17 ⟨rfl, B17⟩; have T17 := T16.step B17; clear G6 T16 H16)
          | (go_at_call 21; refine (wakes14_ok _ ((T17.below.cell (cell_lt HG.out)).trans HG.out)).mono ?_; rintro ev w18 ⟨rfl, B18⟩))
        go_ret
        exact ⟨by simp, T17.below.trans (B18.mono T17.below.size)⟩
      · have ho2 : j ≤ 8000 := by omega
        obtain ⟨Z, hZ⟩ : ∃ Z, List.replicate j c = Z := ⟨_, rfl⟩
        have hR : Z.length ≤ 8000 := by rw [← hZ, List.length_replicate]; exact ho2
        rw [hZ] at T6
        clear hZ
        have hyA : Stays w db n (R4 ++ [byteRow (.slice (some ⟨w4.heap.size, 0, none⟩) j j) Z]) (.slice (some ⟨w4.heap.size, 0, none⟩) j j) (Z.map (Value.int .u8)) := Stays.mem (List.mem_append.2 (.inr (List.mem_singleton.2 rfl)))
        have HYA := (show Hid _ from hyA)
        clear hyA
        go_wp2_with (first
          | (go_at_call 14; have t1 := hlt; clear t1; refine (save_st T6 HG.out hn.1 (S' := Z) hR (by omega) HYA.out (cap_lit _ _) (sb := sb) (vst := v4) (List.mem_append.2 (.inl hs4))).mono ?_; rintro ev w7 ⟨rfl, R7, v7, T8, hs8, hb8, hk8⟩
             have hw8 := hk8 _ (List.mem_append.2 (.inr (List.mem_singleton.2 rfl))) ne_st
             have hz8 := hR
             have hz9 : Z.length ≤ 100000 := by omega
             clear T6 hlt hk8; have G1 : Nat := 0)
          | (go_at_call 17; have t1 := G1; clear t1; refine (state_st T8 hs8 hb8 hz8).mono ?_; rintro ev w9 ⟨u9, rfl, B9, hr9⟩; obtain ⟨p9, c9, rfl⟩ := row_slice hr9; have T9 := T8.step B9; have H9 := rdv_row hr9; clear G1 T8 hr9; have G2 : Nat := 0)
          | (go_at_call 15; have t1 := G2; clear t1; refine (bytes_any H9 (T9.rdv hw8) hz9 hz9).mono ?_; rintro ev w10 ⟨rfl, B10⟩; have T10 := T9.step B10; clear G2 T9 H9)
          | (go_at_call 20; refine (crash_st T10).mono ?_; rintro ev w11 ⟨rfl, T11⟩; clear T10; have G3 : Nat := 0)
          | (go_at_call 10; have t1 := G3; clear t1; refine (open_st_off T11).mono ?_; rintro ev w12 ⟨rfl, rfl⟩; clear G3)
          | (go_at_call 14; refine (save_st_off T11 hs8 _).mono ?_; rintro ev w13 ⟨rfl, rfl⟩)
          | (go_at_call 19; refine (start_st T11).mono ?_; rintro ev w14 ⟨rfl, T14⟩; clear T11; have G4 : Nat := 0)
          | (go_at_call 10; have t1 := G4; clear t1; refine (open_st T14 hn.1).mono ?_; rintro ev w15 ⟨sb15, v15, rfl, B15, T15⟩; clear G4 T14; have G5 : Nat := 0)
          | (go_at_call 17; have t1 := G5; clear t1; refine (state_st T15 (sb := sb15) (v := v15) (by simp) (by simp) hz8).mono ?_; rintro ev w16 ⟨u16, rfl, B16, hr16⟩; obtain ⟨p16, c16, rfl⟩ := row_slice hr16; have T16 := T15.step B16; have H16 := rdv_row hr16; clear G5 T15 hr16; have G6 : Nat := 0)
          | (go_at_call 15; have t1 := G6; clear t1; refine (bytes_any H16 (T16.rdv (List.mem_append.2 (.inl hw8))) hz9 hz9).mono ?_; rintro ev w17 ⟨rfl, B17⟩; have T17 := T16.step B17; clear G6 T16 H16)
          | (go_at_call 21; refine (wakes14_ok _ ((T17.below.cell (cell_lt HG.out)).trans HG.out)).mono ?_; rintro ev w18 ⟨rfl, B18⟩))
        go_ret
        exact ⟨by simp, T17.below.trans (B18.mono T17.below.size)⟩
end
end Go.Proofs.YtafpfiadapabaaaDoor
