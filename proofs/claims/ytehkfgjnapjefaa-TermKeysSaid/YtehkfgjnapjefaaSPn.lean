/-
  TERMKEYS: the walk. Own work.
-/
import Derived.Test.YtehkfgjnapjefaaSPm
namespace Go.Proofs.Ytehkfgjnapjefaa
open Go.RowKit Go.Maps
set_option maxRecDepth 100000
attribute [local go_sem ↓] Go.wp_at_zero Go.wp_at_succ
set_option maxHeartbeats 8000000 in
theorem keys_low (v : Value) (key other : Int) (pp : Option Addr) (np cpp : Nat) (ps : List Int) (hnp : ps.length = np) (S : List St) (w : World) (H1 : Hid (Steps w v S)) (HP : Hid (RdW w (.slice pp np cpp) ps)) : Calls Try.prog 6 #[v, .int .i64 key, .int .i64 other, .slice pp np cpp] w fun e w' => e = .returned (.bool true) ∧ Below w.heap.size w w' := by
  go_enter Try.func6, Try.ntmps6
  go_wp2_with (first
    | (go_at_call 11; refine (heavy_ok H1.out).mono ?_; rintro ev w ⟨rfl, r1, rfl, hr⟩; have R1 := (show Hid _ from hr); clear hr)
    | (go_at_call 12; refine (build_ok H1.out (R1.out (by first | assumption | simpa using ‹¬ r1 = true›)).2).mono ?_; rintro ev w1 ⟨aa, bb, L, rfl, T, hL⟩; have O := T.one; clear T R1)
    | (go_at_call 28; refine (len_one O).mono ?_; rintro ev w' ⟨rfl, rfl⟩)
    | (go_at_call 17; refine (wakes_ok _).mono ?_; rintro ev w6 ⟨rfl, B6⟩))
  all_goals first
    | (go_ret; exact ⟨rfl, Below.refl _ _⟩)
    | (go_ret; exact ⟨rfl, O.below.trans (B6.mono O.below.size)⟩)
    | skip
  have hne : L ≠ [] := by assumption
  have hpos : 0 < L.length := List.length_pos_iff.2 hne
  have hk0 : 0 ≤ key := by assumption
  have ho0 : 0 ≤ other := by
    have h : (((L.length : Int) == 0) = false ∧ 0 ≤ key) ∧ 0 ≤ other := by assumption
    exact h.2
  have hn20 : np ≤ 20 := by omega
  obtain ⟨k1, hk1, hk2⟩ : ∃ k1 : Nat, key % (L.length : Int) = k1 ∧ k1 < L.length := ⟨(key % (L.length : Int)).toNat, by have := Int.emod_nonneg key (b := (L.length : Int)) (by omega); omega, by have := Int.emod_nonneg key (b := (L.length : Int)) (by omega); have := Int.emod_lt_of_pos key (b := (L.length : Int)) (by omega); omega⟩
  obtain ⟨o1, ho1, ho2⟩ : ∃ o1 : Nat, other % (L.length : Int) = o1 ∧ o1 < L.length := ⟨(other % (L.length : Int)).toNat, by have := Int.emod_nonneg other (b := (L.length : Int)) (by omega); omega, by have := Int.emod_nonneg other (b := (L.length : Int)) (by omega); have := Int.emod_lt_of_pos other (b := (L.length : Int)) (by omega); omega⟩
  have hpi : (0 : Int) < (L.length : Int) := by omega
  go_quiet (fail)
  try simp only [Exit.then]
  go_wp2_with (go_at_call 18; refine (some_one (O.step (below_drewN (Below.refl _ _) _)) HP.out L.length (by omega)).mono ?_; rintro ev w2 ⟨p, c, rfl, I⟩; clear O)
  have hxlt : ∀ x ∈ ps.map (someI L.length), 0 ≤ x → x < (L.length : Int) := by
    intro x hx h0
    obtain ⟨y, _, rfl⟩ := List.mem_map.1 hx
    exact someI_lt hpos h0
  have hx20 : (ps.map (someI L.length)).length ≤ 20 := by rw [List.length_map]; omega
  have hxn : (ps.map (someI L.length)).length = np := by rw [List.length_map]; exact hnp
  have HXL := (show Hid _ from hxlt)
  clear hxlt
  generalize ps.map (someI L.length) = xs at *
  obtain ⟨i0, hi, hz0, hz1, hz2⟩ := info_parts (P := Try.prog) (e := 3) (z := .int .i64 0) (size := 1) (bytes := 8) (by kernel_rfl)
  rw [hxn] at I
  have hrw : w2.ownsRow 0 3 1 (.slice p np c) np (xs.map (Value.int .i64)) := by
    have h := I.row
    unfold IRow at h
    rwa [hxn] at h
  have HR := (show Hid (w2.ownsRow 0 3 1 (.slice p np c) np (xs.map (Value.int .i64))) from hrw)
  clear hrw
  go_loopw [14] (fun i wr => ∃ t : Nat, i = .int .i64 t ∧ t ≤ np ∧ (∀ q, q < t → 0 ≤ xs.getD q 0) ∧ wr = w2) (fun i _ => np - (intOf i).toNat)
  case atStart => exact ⟨0, rfl, by omega, fun q h => by omega, rfl⟩
  case round =>
    obtain ⟨t, rfl, ht, hall, rfl⟩ := hrel
    have HA := (show Hid _ from hall)
    clear hall
    by_cases htl : t < np
    · obtain ⟨g, rfl, _, _, _, hc⟩ := row_open HR.out (by omega)
      have hcell := hc t (by omega)
      have htx : t < xs.length := by omega
      rw [List.getElem?_map, List.getElem?_eq_getElem htx] at hcell
      have hgd : xs.getD t 0 = xs[t] := by rw [List.getD_eq_getElem?_getD, List.getElem?_eq_getElem htx]; rfl
      simp only [Option.map_some] at hcell
      clear hc
      generalize xs[t] = x at hcell hgd
      have HX := (show Hid _ from hgd)
      clear hgd
      by_cases hx0 : x < 0
      · go_wp2_with (go_at_call 17; refine (wakes_ok _).mono ?_; rintro ev w6 ⟨rfl, B6⟩)
        go_ret
        exact ⟨rfl, I.below.trans (B6.mono I.below.size)⟩
      · go_wp2
        refine ⟨⟨t + 1, by simp, by omega, fun q hq => ?_, trivial⟩, by simp [intOf]; omega⟩
        rcases Nat.lt_or_ge q t with h | h
        · exact HA.out q h
        · obtain rfl : q = t := by omega
          rw [HX.out]
          omega
    · obtain rfl : np = t := by omega
      have hfit : ∀ x ∈ xs, 0 ≤ x ∧ x < (L.length : Int) := by
        intro x hx
        obtain ⟨q, hq, rfl⟩ := List.getElem_of_mem hx
        have h0 := HA.out q (by omega)
        rw [List.getD_eq_getElem?_getD, List.getElem?_eq_getElem hq] at h0
        exact ⟨h0, HXL.out _ hx h0⟩
      obtain ⟨s, pb, b, tt, q, L1, L2, L3, L4, L5, KR⟩ := keys_math (key := k1) (other := o1) (xs := xs) (by omega) hk2 ho2 hfit hx20
      clear hfit
      have HK := (show Hid (KeyRun L k1 o1 xs s pb b tt q L1 L2 L3 L4 L5) from KR)
      clear KR
      rcases HR.out.2 with ⟨hnil, hn0⟩ | ⟨g, cap, cur, hsl, _⟩
      · have hx0 : xs = [] := List.eq_nil_of_length_eq_zero (by omega)
        subst hx0
        subst hn0
        simp only [Value.slice.injEq] at hnil
        obtain ⟨rfl, _, rfl⟩ := hnil
        go_wp2_with (first
          | (go_at_call 29; refine (make_i (I.alloc _) 6 0 (reads_lit [(k1 : Int)] rfl rfl _) (by omega) HK.out.p1).mono ?_; rintro ev w4 ⟨rfl, I4⟩; clear I)
          | (go_at_call 29; refine (make_i (I4.alloc _) 5 0 (reads_lit [(k1 : Int)] rfl rfl _) (by omega) HK.out.p2).mono ?_; rintro ev w5 ⟨rfl, I5⟩; clear I4)
          | (go_at_call 29; refine (make_i (I5.alloc _) 7 0 (reads_lit [(pb : Int), (o1 : Int)] rfl rfl _) (by omega) HK.out.p3).mono ?_; rintro ev w7 ⟨rfl, I7⟩; clear I5)
          | (go_at_call 29; refine (make_i (I7.alloc _) 8 0 (reads_lit [(k1 : Int)] rfl rfl _) (by omega) HK.out.p4).mono ?_; rintro ev w9 ⟨rfl, I9⟩; clear I7)
          | (go_at_call 29; refine (make_i (I9.alloc _) 5 0 (reads_lit [(o1 : Int)] rfl rfl _) (by omega) HK.out.p5).mono ?_; rintro ev w10 ⟨rfl, I10⟩; clear I9)
          | (go_at_call 19; refine (open_i I10 s k1 HK.out.o1).mono ?_; rintro ev w11 ⟨p11, c11, rfl, X, BX, I11⟩; simp only [List.length_nil] at X ⊢; clear I10 BX)
          | (go_at_call 22; refine (unbox_i I11 b k1 HK.out.o2).mono ?_; rintro ev w12 ⟨p12, c12, rfl, Y, BY, I12⟩; simp only [List.length_nil] at Y ⊢; have X2 := X.step BY; clear I11 X BY)
          | (go_at_call 24; refine (signed_i I12 tt pb HK.out.o3).mono ?_; rintro ev w13 ⟨p13, c13, rfl, Z, BZ, I13⟩; simp only [List.length_nil] at Z ⊢; have X3 := X2.step BZ; have Y3 := Y.step BZ; clear I12 X2 Y BZ)
          | (go_at_call 21; refine (ints_ok (by simp) X3.reads.rdw I13.row.reads.rdw).mono ?_; rintro ev w14 ⟨rfl, B14⟩; rw [show decide (([] : List Int) = []) = true from decide_eq_true rfl]; have Y4 := Y3.step B14; have Z4 := Z.step B14; have I14 := I13.step B14; clear I13 X3 Y3 Z B14)
          | (go_at_call 21; refine (ints_ok (by simp) Y4.reads.rdw I14.row.reads.rdw).mono ?_; rintro ev w15 ⟨rfl, B15⟩; rw [show decide (([] : List Int) = []) = true from decide_eq_true rfl]; have Z5 := Z4.step B15; have I15 := I14.step B15; clear I14 Y4 Z4 B15)
          | (go_at_call 21; refine (ints_ok (by simp) Z5.reads.rdw I15.row.reads.rdw).mono ?_; rintro ev w16 ⟨rfl, B16⟩; rw [show decide (([] : List Int) = []) = true from decide_eq_true rfl]; have I16 := I15.step B16; clear I15 Z5 B16)
          | (go_at_call 19; refine (open_i I16 s o1 (HK.out.n1 (by first | omega | (intro e; simp_all)))).mono ?_; rintro ev w17 ⟨p17, c17, rfl, _, _, I17⟩; clear I16)
          | (go_at_call 22; refine (unbox_i I17 b o1 (HK.out.n2 (by first | omega | (intro e; simp_all)))).mono ?_; rintro ev w18 ⟨p18, c18, rfl, _, _, I18⟩; clear I17)
          | (go_at_call 24; refine (signed_i I18 tt q (HK.out.n3 (by first | omega | (intro e; simp_all)))).mono ?_; rintro ev w19 ⟨p19, c19, rfl, _, _, I19⟩; clear I18)
          | (go_at_call 17; refine (wakes_ok _).mono ?_; rintro ev w20 ⟨rfl, B20⟩))
        all_goals trace "END"
        all_goals first
          | (go_ret; exact ⟨rfl, I16.below.trans (B20.mono I16.below.size)⟩)
          | (go_ret; exact ⟨rfl, I19.below.trans (B20.mono I19.below.size)⟩)
      · obtain ⟨rfl, rfl⟩ : p = some ⟨g, 0, none⟩ ∧ c = cap := by cases hsl; exact ⟨rfl, rfl⟩
        clear hsl
        go_wp2_with (first
          | (at_builtin; refine wpList_append_own _ rfl (.tmp 81) (.tmp 82) 31 rfl wr.heap.size 3 i0 (.int .i64 0) 1 8 Try.underlying31 hi hz0 hz1 hz2 rfl (by decide) (.slice (some ⟨wr.heap.size, 0, none⟩) 1 1) 1 [.int .i64 k1] rfl (lit_row wr k1) ⟨g, 0, none⟩ np c (xs.map (Value.int .i64)) rfl (by simp [hxn]) (irow_news ((I.alloc _).own hxn)) (ints_oneCell _ _) (by unfold maxLen; omega) (by omega) (by simp) ?_; intro v3 w3 hown3 hgrow3 _; have I3 := app_step I hgrow3; have R3 := app_reads hown3; clear I hown3 hgrow3)
          | (go_at_call 29; refine (make_i I3 6 0 R3 (by omega) HK.out.p1).mono ?_; rintro ev w4 ⟨rfl, I4⟩; clear I3 R3)
          | (go_at_call 29; refine (make_i (I4.alloc _) 5 0 (reads_lit [(k1 : Int)] rfl rfl _) (by omega) HK.out.p2).mono ?_; rintro ev w5 ⟨rfl, I5⟩; clear I4)
          | (at_builtin; refine wpList_append_own _ rfl (.tmp 98) (.tmp 99) 31 rfl w5.heap.size 3 i0 (.int .i64 0) 1 8 Try.underlying31 hi hz0 hz1 hz2 rfl (by decide) (.slice (some ⟨w5.heap.size, 0, none⟩) 2 2) 2 [.int .i64 pb, .int .i64 o1] rfl (lit_row2 w5 pb o1) ⟨g, 0, none⟩ np c (xs.map (Value.int .i64)) rfl (by simp [hxn]) (irow_news ((I5.alloc _).own hxn)) (ints_oneCell _ _) (by unfold maxLen; omega) (by omega) (by simp) ?_; intro v6 w6 hown6 hgrow6 _; have I6 := app_step I5 hgrow6; have R6 := app_reads2 hown6; clear I5 hown6 hgrow6)
          | (go_at_call 29; refine (make_i I6 7 0 R6 (by omega) HK.out.p3).mono ?_; rintro ev w7 ⟨rfl, I7⟩; clear I6 R6)
          | (at_builtin; refine wpList_append_own _ rfl (.tmp 107) (.tmp 108) 31 rfl w7.heap.size 3 i0 (.int .i64 0) 1 8 Try.underlying31 hi hz0 hz1 hz2 rfl (by decide) (.slice (some ⟨w7.heap.size, 0, none⟩) 1 1) 1 [.int .i64 k1] rfl (lit_row w7 k1) ⟨g, 0, none⟩ np c (xs.map (Value.int .i64)) rfl (by simp [hxn]) (irow_news ((I7.alloc _).own hxn)) (ints_oneCell _ _) (by unfold maxLen; omega) (by omega) (by simp) ?_; intro v8 w8 hown8 hgrow8 _; have I8 := app_step I7 hgrow8; have R8 := app_reads hown8; clear I7 hown8 hgrow8)
          | (go_at_call 29; refine (make_i I8 8 0 R8 (by omega) HK.out.p4).mono ?_; rintro ev w9 ⟨rfl, I9⟩; clear I8 R8)
          | (go_at_call 29; refine (make_i (I9.alloc _) 5 0 (reads_lit [(o1 : Int)] rfl rfl _) (by omega) HK.out.p5).mono ?_; rintro ev w10 ⟨rfl, I10⟩; clear I9)
          | (go_at_call 19; refine (open_i I10 s k1 HK.out.o1).mono ?_; rintro ev w11 ⟨p11, c11, rfl, X, BX, I11⟩; rw [hxn] at X; simp only [hxn]; clear I10 BX)
          | (go_at_call 22; refine (unbox_i I11 b k1 HK.out.o2).mono ?_; rintro ev w12 ⟨p12, c12, rfl, Y, BY, I12⟩; rw [hxn] at Y; simp only [hxn]; have X2 := X.step BY; clear I11 X BY)
          | (go_at_call 24; refine (signed_i I12 tt pb HK.out.o3).mono ?_; rintro ev w13 ⟨p13, c13, rfl, Z, BZ, I13⟩; rw [hxn] at Z; simp only [hxn]; have X3 := X2.step BZ; have Y3 := Y.step BZ; clear I12 X2 Y BZ)
          | (go_at_call 21; refine (ints_ok (by omega) X3.reads.rdw I13.row.reads.rdw).mono ?_; rintro ev w14 ⟨rfl, B14⟩; rw [show decide (xs = xs) = true from decide_eq_true rfl]; have Y4 := Y3.step B14; have Z4 := Z.step B14; have I14 := I13.step B14; clear I13 X3 Y3 Z B14)
          | (go_at_call 21; refine (ints_ok (by omega) Y4.reads.rdw I14.row.reads.rdw).mono ?_; rintro ev w15 ⟨rfl, B15⟩; rw [show decide (xs = xs) = true from decide_eq_true rfl]; have Z5 := Z4.step B15; have I15 := I14.step B15; clear I14 Y4 Z4 B15)
          | (go_at_call 21; refine (ints_ok (by omega) Z5.reads.rdw I15.row.reads.rdw).mono ?_; rintro ev w16 ⟨rfl, B16⟩; rw [show decide (xs = xs) = true from decide_eq_true rfl]; have I16 := I15.step B16; clear I15 Z5 B16)
          | (go_at_call 19; refine (open_i I16 s o1 (HK.out.n1 (by first | omega | (intro e; simp_all)))).mono ?_; rintro ev w17 ⟨p17, c17, rfl, _, _, I17⟩; clear I16)
          | (go_at_call 22; refine (unbox_i I17 b o1 (HK.out.n2 (by first | omega | (intro e; simp_all)))).mono ?_; rintro ev w18 ⟨p18, c18, rfl, _, _, I18⟩; clear I17)
          | (go_at_call 24; refine (signed_i I18 tt q (HK.out.n3 (by first | omega | (intro e; simp_all)))).mono ?_; rintro ev w19 ⟨p19, c19, rfl, _, _, I19⟩; clear I18)
          | (go_at_call 17; refine (wakes_ok _).mono ?_; rintro ev w20 ⟨rfl, B20⟩))
        all_goals trace "END"
        all_goals first
          | (go_ret; exact ⟨rfl, I16.below.trans (B20.mono I16.below.size)⟩)
          | (go_ret; exact ⟨rfl, I19.below.trans (B20.mono I19.below.size)⟩)
end Go.Proofs.Ytehkfgjnapjefaa
