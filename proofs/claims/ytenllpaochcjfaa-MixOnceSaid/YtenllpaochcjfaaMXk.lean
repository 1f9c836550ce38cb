/-
  MIXONCE: the walk. Own work.
-/
import Derived.Test.YtenllpaochcjfaaMXl
namespace Go.Proofs.Ytenllpaochcjfaa
open Go.ChangeShapes Go.WideShapes Go.ChangeAt Go.RowKit Go.Maps Go.Deep
set_option maxRecDepth 100000
attribute [local go_sem ↓] Go.wp_at_zero Go.wp_at_succ
set_option maxHeartbeats 16000000 in
theorem once_main (n0 : Int) (p : Option Addr) (n c : Nat) (w : World) (h80 : n ≤ 80) (H1 : Hid (Says w (.slice p n c) n)) : Calls Try.prog 3 #[.int .i64 n0, .slice p n c] w fun e w' => e = .returned (.bool true) ∧ Below w.heap.size w w' := by
  obtain ⟨i0, hi', hz0, hz1, hz2⟩ := info_parts (P := Try.prog) (e := 3) (z := .int .i64 0) (size := 1) (bytes := 8) (by kernel_rfl)
  have hnI : ¬ (80 : Int) < n := by omega
  go_enter Try.func3, Try.ntmps3
  go_wp2_with (first
    | (go_at_call 5; refine (new_ar _).mono ?_; rintro ev w1 ⟨ab, F0, rfl, A0, hF0, B0⟩; have T0 := on_fresh A0 hF0 B0; clear A0 hF0 B0)
    | (go_at_call 6; refine (make_on T0 2 71 (v := .slice none 0 0) (xs := []) (.inl ⟨rfl, rfl⟩) (by omega) mo0).mono ?_; rintro ev w2 ⟨rfl, T1, _⟩; clear T0)
    | (go_at_call 6; refine (make_on T1 2 72 (v := .slice none 0 0) (xs := []) (.inl ⟨rfl, rfl⟩) (by omega) mo1).mono ?_; rintro ev w3 ⟨rfl, T2, _⟩; clear T1)
    | (go_at_call 6; refine (make_on T2 2 0 (v := .slice none 0 0) (xs := []) (.inl ⟨rfl, rfl⟩) (by omega) mo2).mono ?_; rintro ev w4 ⟨rfl, T3, _⟩; clear T2)
    | (at_make; refine wpList_make_full _ rfl _ _ 29 rfl w4.heap.size 3 i0 (.int .i64 0) 1 Try.underlying29 hi' hz0 hz1 .i64 .i64 _ _ 5 rfl rfl rfl rfl (by rw [hz2]; omega) (by unfold maxLen; omega) (by simp) ?_; intro w5 hown5 hgrow5))
  have hm : (madeCells (Value.int .i64 0).cells (5 * 1)).toList = ([0, 0, 0, 0, 0] : List Int).map (Value.int .i64) := by kernel_rfl
  rw [hm] at hown5
  have hB5 : Below w4.heap.size w4 w5 := (Below.refl _ w4).grown hgrow5 (Nat.le_refl _) (fun _ h => by cases h)
  have M0 := (show Hid (MOn w w5 ab w4.heap.size [(2, 71, []), (2, 72, []), (2, 0, [])] [] [0, 0, 0, 0, 0] none 0) from ⟨(T3.add hB5 (P := fun k => k = w4.heap.size) (fun k hk => by subst hk; exact row_base hown5 rfl)).mono (fun k hk => hk.elim .inr (fun h => by simp [Value.ownBlock] at h)), hown5, ⟨none, 0, rfl, .inl rfl⟩, fun k h => by simp [Value.ownBlock] at h, T3.below.size⟩)
  have hfb := T3.below.size
  clear T3 hown5 hgrow5 hB5 hm
  generalize w4.heap.size = fb at *
  go_loopw [12, 14] (fun st i wq => ∃ (j : Nat) (L : List Tm) (R : List Ky) (fs : List Int) (ps : Option Addr) (cs : Nat), st = .slice ps R.length cs ∧ i = .int .i64 j ∧ j ≤ n ∧ MOn w wq ab fb L R fs ps cs ∧ MOk L R fs ∧ L.length ≤ 3 + 4 * j ∧ R.length ≤ j) (fun _ i _ => n - (intOf i).toNat)
  case atStart => exact ⟨0, _, [], _, none, 0, rfl, rfl, by omega, M0.out, MOk.start, by simp, by simp⟩
  case round =>
    clear M0
    obtain ⟨j, L, R, fs, ps, cs, rfl, rfl, hj, M, K, hL, hR⟩ := hrel
    have HM := (show Hid (MOn w wr ab fb L R fs ps cs) from M)
    have HK := (show Hid (MOk L R fs) from K)
    clear M K
    by_cases hlt : j < n
    · obtain ⟨p', c', hpc, h0 | ⟨b, o, rfl, hb, hcell⟩⟩ := H1.out
      · omega
      obtain ⟨rfl, rfl⟩ : p = some ⟨b, o, none⟩ ∧ c = c' := by simpa using hpc
      obtain ⟨a0, a1, hc0, hc1⟩ := hcell j hlt
      have C1 := (show Hid (w.cell? ⟨b, o + j * 2 + 1, none⟩ = some (.int .i64 a1)) from hc1)
      have x0 := (HM.out.on.below.cell (p := ⟨b, o + j * 2, none⟩) hb).trans hc0
      have x1 := (HM.out.on.below.cell (p := ⟨b, o + j * 2 + 1, none⟩) hb).trans hc1
      have hjI : (j : Int) < n := by omega
      obtain ⟨k, hk5, hk⟩ := conv_u a0 5 (by omega) (by omega)
      obtain ⟨u, hu50, hu⟩ := conv_u a1 50 (by omega) (by omega)
      obtain ⟨r, L2, K1⟩ := mk_ex (L := L) (sh_atom (100 + (k : Int)) (by omega)) (fun z hz => by cases hz) (by omega)
      have b1 := K1.le1
      have b1' := K1.le
      obtain ⟨v, L3, K2⟩ := mk_ex (L := L2) (sh_atom (1000 + (u : Int)) (by omega)) (fun z hz => by cases hz) (by omega)
      have b2 := K2.le1
      have b2' := K2.le
      have hr2 := (List.getElem?_eq_some_iff.1 K1.at').1
      have hv3 := (List.getElem?_eq_some_iff.1 K2.at').1
      have hL0 := (List.getElem?_eq_some_iff.1 HK.out.w0).1
      obtain ⟨x, L4, K3⟩ := mk_ex (L := L3) (t := (9, 0, [0, (r : Int), (v : Int)])) (sh_list _ (by simp)) (fun z hz => by simp at hz; omega) (by omega)
      have b3 := K3.le1
      have b3' := K3.le
      have P1 := (show Hid _ from K1.put)
      have P2 := (show Hid _ from K2.put)
      have P3 := (show Hid _ from K3.put)
      have HU := (show Hid (wrap64 ((IntKind.u64.wrap a0).tmod 5) = (k : Int)) from hk)
      have HV := (show Hid (wrap64 ((IntKind.u64.wrap a1).tmod 50) = (u : Int)) from hu)
      have hw1 : wrap64 (100 + (k : Int)) = 100 + k := IntWalk.wrap64_in _ (by omega)
      have HW1 := (show Hid _ from hw1)
      clear hw1
      have hw2 : wrap64 (1000 + (u : Int)) = 1000 + u := IntWalk.wrap64_in _ (by omega)
      have HW2 := (show Hid _ from hw2)
      clear hw2
      clear hpc hc0 hc1 hk hu hcell
      obtain ⟨f, hf⟩ : ∃ f, f = fs.getD k 0 := ⟨_, rfl⟩
      have HF := (show Hid (fs.getD k 0 = f) from hf.symm)
      have HKM := (show Hid (MkT L (1, 100 + (k : Int), []) r L2) from K1)
      have hM4 : MOk L4 R fs := ((HK.out.keep K1.keep K1.le).keep K2.keep K2.le).keep K3.keep K3.le
      have HK4 := (show Hid (MOk L4 R fs) from hM4)
      have HR4 := (show Hid (L4[r]? = some (1, 100 + (k : Int), [])) from K3.keep _ _ (K2.keep _ _ K1.at'))
      have HV4 := (show Hid (L4[v]? = some (1, 1000 + (u : Int), [])) from K3.keep _ _ K2.at')
      have HX4 := (show Hid (L4[x]? = some (9, 0, [0, (r : Int), (v : Int)])) from K3.at')
      have hv0 : v ≠ 0 := fun e => by
        have h1 := HV4.out
        rw [e, hM4.w1] at h1
        simp at h1
      have hL4 : L4.length ≤ 3 + 4 * j + 3 := by omega
      have h3L : 2 < L4.length := (List.getElem?_eq_some_iff.1 hM4.w0).1
      have hr4 := (List.getElem?_eq_some_iff.1 HR4.out).1
      have hv4 := (List.getElem?_eq_some_iff.1 HV4.out).1
      have hR80 : R.length ≤ 80 := by omega
      clear K1 K2 K3 hM4 b1 b1' b2 b2' b3 b3' hL hL0 hr2 hv3 hf
      rcases (show ((a1.tmod 3 == 0) = true) ∨ ((a1.tmod 3 == 0) = false) by cases (a1.tmod 3 == 0) <;> simp) with e3 | e3
      · obtain ⟨x2, L5, K5⟩ := mk_ex (L := L4) (t := (9, 0, [1, (r : Int)])) (sh_list _ (by simp)) (fun z hz => by simp at hz; omega) (by omega)
        have b5 := K5.le1
        have P5 := (show Hid _ from K5.put)
        have HK5 := (show Hid (MOk L5 R fs) from HK4.out.keep K5.keep K5.le)
        have HR5 := (show Hid (L5[r]? = some (1, 100 + (k : Int), [])) from K5.keep _ _ HR4.out)
        have HASK := (show Hid (IsAsk L5 x2 (72, (r : Int), 0)) from .two 1 r K5.at' HK5.out.w2)
        clear K5
        go_wp2_with (first
          | (go_at_call 6; rw [HU.out, HW1.out]; refine (HM.out.calls (fun G' O => make_on O 1 (100 + (k : Int)) (v := .slice none 0 0) (xs := []) (.inl ⟨rfl, rfl⟩) (by omega) P1.out)).mono ?_; rintro ev w5 ⟨rfl, M2⟩; have y1 := (M2.on.below.cell (p := ⟨b, o + j * 2 + 1, none⟩) hb).trans C1.out; clear HW1)
          | (go_at_call 6; rw [HV.out, HW2.out]; refine (M2.calls (fun G' O => make_on O 1 (1000 + (u : Int)) (v := .slice none 0 0) (xs := []) (.inl ⟨rfl, rfl⟩) (by omega) P2.out)).mono ?_; rintro ev w6 ⟨rfl, M3⟩; clear M2 HW2)
          | (go_at_call 6; refine ((M3.step ((Below.refl _ w6).alloc (Nat.le_refl _) _)).calls (fun G' O => make_on O 9 0 (xs := [0, (r : Int), (v : Int)]) (reads_lit [0, (r : Int), (v : Int)] rfl rfl _) (by omega) P3.out)).mono ?_; rintro ev w7 ⟨rfl, M4⟩; have y3 := (M4.on.below.cell (p := ⟨b, o + j * 2 + 1, none⟩) hb).trans C1.out; have f3 := M4.cell hk5; rw [HF.out] at f3; have q3 := World.ownsRow.frozenAt M4.first k; have HM4 := (show Hid (MOn w w7 ab fb L4 R fs ps cs) from M4); clear M3 M4)
          | (go_at_call 6; refine ((HM4.out.step ((Below.refl _ w7).alloc (Nat.le_refl _) _)).calls (fun G' O => make_on O 9 0 (xs := [1, (r : Int)]) (reads_lit [1, (r : Int)] rfl rfl _) (by omega) P5.out)).mono ?_; rintro ev w8 ⟨rfl, M5⟩; have HM5 := (show Hid (MOn w w8 ab fb L5 R fs ps cs) from M5); clear M5 HM4 f3 q3)
          | (go_at_call 7; fail))
        by_cases hf0 : f = 0
        · subst hf0
          refine Calls.mono (do_once HM5 HK5 x2 72 (r : Int) 0 HASK (by omega)) ?_
          rintro ev w9 ⟨pn, cn, g, co, R', a, rfl, hd, x9, M9, hpre, l1, l2, l3, l4, hold⟩
          obtain ⟨rfl, ha⟩ := HK5.out.get HM5.out.on.wf hk5 HR5.out hd
          rw [HF.out, if_pos rfl] at ha
          subst ha
          have f9 := M9.cell hk5
          rw [HF.out] at f9
          have HPRE := (show Hid _ from hpre)
          have HOLD := (show Hid _ from hold)
          have HM9 := (show Hid (MOn w w9 ab fb L5 R' fs pn cn) from M9)
          have HKN := (show Hid (MOk L5 R' fs) from HK5.out)
          clear hd M9 hpre hold
          rcases l4 with ⟨rfl, h0, rfl⟩ | ⟨gn, rfl⟩
          · obtain rfl := List.eq_nil_of_length_eq_zero h0
            first | (obtain rfl : R = [] := List.eq_nil_of_length_eq_zero (by simpa using l1)) | skip
            clear h0
            simp only []
            go_at_K
            go_wp2_with (go_at_call 8; refine (keepRegs_ok _ _ _ _ _ _ _ rfl (by first | omega | simp) HPRE HOLD).mono ?_; rintro ev w10 ⟨rfl, B10⟩)
            exact ⟨⟨j + 1, _, _, _, _, _, rfl, by simp, by omega, HM9.out.step B10, HKN.out, by omega, by first | omega | simp⟩, by simp [intOf]; omega⟩
          · simp only []
            go_at_K
            go_wp2_with (go_at_call 8; refine (keepRegs_ok _ _ _ _ _ _ _ rfl (by first | omega | simp) HPRE HOLD).mono ?_; rintro ev w10 ⟨rfl, B10⟩)
            exact ⟨⟨j + 1, _, _, _, _, _, rfl, by simp, by omega, HM9.out.step B10, HKN.out, by omega, by first | omega | simp⟩, by simp [intOf]; omega⟩
        · refine Calls.mono (do_once HM5 HK5 x2 72 (r : Int) 0 HASK (by omega)) ?_
          rintro ev w9 ⟨pn, cn, g, co, R', a, rfl, hd, x9, M9, hpre, l1, l2, l3, l4, hold⟩
          obtain ⟨rfl, ha⟩ := HK5.out.get HM5.out.on.wf hk5 HR5.out hd
          rw [HF.out, if_neg hf0] at ha
          subst ha
          have f9 := M9.cell hk5
          rw [HF.out] at f9
          have HPRE := (show Hid _ from hpre)
          have HOLD := (show Hid _ from hold)
          have HM9 := (show Hid (MOn w w9 ab fb L5 R' fs pn cn) from M9)
          have HKN := (show Hid (MOk L5 R' fs) from HK5.out)
          clear hd M9 hpre hold
          rcases l4 with ⟨rfl, h0, rfl⟩ | ⟨gn, rfl⟩
          · obtain rfl := List.eq_nil_of_length_eq_zero h0
            first | (obtain rfl : R = [] := List.eq_nil_of_length_eq_zero (by simpa using l1)) | skip
            clear h0
            simp only []
            go_at_K
            go_wp2_with (go_at_call 8; refine (keepRegs_ok _ _ _ _ _ _ _ rfl (by first | omega | simp) HPRE HOLD).mono ?_; rintro ev w10 ⟨rfl, B10⟩)
            exact ⟨⟨j + 1, _, _, _, _, _, rfl, by simp, by omega, HM9.out.step B10, HKN.out, by omega, by first | omega | simp⟩, by simp [intOf]; omega⟩
          · simp only []
            go_at_K
            go_wp2_with (go_at_call 8; refine (keepRegs_ok _ _ _ _ _ _ _ rfl (by first | omega | simp) HPRE HOLD).mono ?_; rintro ev w10 ⟨rfl, B10⟩)
            exact ⟨⟨j + 1, _, _, _, _, _, rfl, by simp, by omega, HM9.out.step B10, HKN.out, by omega, by first | omega | simp⟩, by simp [intOf]; omega⟩
      · have HASK := (show Hid (IsAsk L4 x (71, (r : Int), (v : Int))) from .three 71 0 r v HX4.out HK4.out.w1 (.inl rfl))
        by_cases hf0 : f = 0
        · subst hf0
          go_wp2_with (first
            | (go_at_call 6; rw [HU.out, HW1.out]; refine (HM.out.calls (fun G' O => make_on O 1 (100 + (k : Int)) (v := .slice none 0 0) (xs := []) (.inl ⟨rfl, rfl⟩) (by omega) P1.out)).mono ?_; rintro ev w5 ⟨rfl, M2⟩; have y1 := (M2.on.below.cell (p := ⟨b, o + j * 2 + 1, none⟩) hb).trans C1.out; clear HW1)
            | (go_at_call 6; rw [HV.out, HW2.out]; refine (M2.calls (fun G' O => make_on O 1 (1000 + (u : Int)) (v := .slice none 0 0) (xs := []) (.inl ⟨rfl, rfl⟩) (by omega) P2.out)).mono ?_; rintro ev w6 ⟨rfl, M3⟩; clear M2 HW2)
            | (go_at_call 6; refine ((M3.step ((Below.refl _ w6).alloc (Nat.le_refl _) _)).calls (fun G' O => make_on O 9 0 (xs := [0, (r : Int), (v : Int)]) (reads_lit [0, (r : Int), (v : Int)] rfl rfl _) (by omega) P3.out)).mono ?_; rintro ev w7 ⟨rfl, M4⟩; have y3 := (M4.on.below.cell (p := ⟨b, o + j * 2 + 1, none⟩) hb).trans C1.out; have f3 := M4.cell hk5; rw [HF.out] at f3; have q3 := World.ownsRow.frozenAt M4.first k; have HM4 := (show Hid (MOn w w7 ab fb L4 R fs ps cs) from M4); clear M3 M4)
            | (go_at_call 7; fail))
          have HMS := (show Hid (MOn w (w7.setCell ⟨fb, k, none⟩ (.int .i64 (v : Int))) ab fb L4 R (fs.set k (v : Int)) ps cs) from HM4.out.set k _)
          have hvne : ((v : Int) == 0) = false := by simp; omega
          have hsz : w7.heap.size = (w7.setCell ⟨fb, k, none⟩ (.int .i64 (v : Int))).heap.size := by simp
          rw [hsz]
          clear hsz f3 q3 y3 HM4
          generalize w7.setCell ⟨fb, k, none⟩ (.int .i64 (v : Int)) = w8 at *
          refine Calls.mono (do_once HMS HK4 x 71 (r : Int) (v : Int) HASK (by omega)) ?_
          rintro ev w9 ⟨pn, cn, g, co, R', a, rfl, hd, x9, M9, hpre, l1, l2, l3, l4, hold⟩
          obtain ⟨hz0, hRR, rfl, hMN⟩ | ⟨h0, _⟩ := HK4.out.put HMS.out.on.wf hk5 HR4.out hv4 hv0 hd
          rotate_left
          · exact absurd HF.out h0
          clear hRR hz0
          have f9 := M9.cell hk5
          have hset : (fs.set k (v : Int)).getD k 0 = (v : Int) := by rw [List.getD_eq_getElem?_getD, List.getElem?_set_self (by rw [HK4.out.lf]; exact hk5)]; rfl
          rw [hset] at f9
          clear hset
          have HPRE := (show Hid _ from hpre)
          have HOLD := (show Hid _ from hold)
          have HM9 := (show Hid (MOn w w9 ab fb L4 R' (fs.set k (v : Int)) pn cn) from M9)
          have HKN := (show Hid (MOk L4 R' (fs.set k (v : Int))) from hMN)
          clear hd M9 hpre hold
          rcases l4 with ⟨rfl, h0, rfl⟩ | ⟨gn, rfl⟩
          · obtain rfl := List.eq_nil_of_length_eq_zero h0
            first | (obtain rfl : R = [] := List.eq_nil_of_length_eq_zero (by simpa using l1)) | skip
            clear h0
            simp only []
            go_at_K
            go_wp2_with (go_at_call 8; refine (keepRegs_ok _ _ _ _ _ _ _ rfl (by first | omega | simp) HPRE HOLD).mono ?_; rintro ev w10 ⟨rfl, B10⟩)
            exact ⟨⟨j + 1, _, _, _, _, _, rfl, by simp, by omega, HM9.out.step B10, HKN.out, by omega, by first | omega | simp⟩, by simp [intOf]; omega⟩
          · simp only []
            go_at_K
            go_wp2_with (go_at_call 8; refine (keepRegs_ok _ _ _ _ _ _ _ rfl (by first | omega | simp) HPRE HOLD).mono ?_; rintro ev w10 ⟨rfl, B10⟩)
            exact ⟨⟨j + 1, _, _, _, _, _, rfl, by simp, by omega, HM9.out.step B10, HKN.out, by omega, by first | omega | simp⟩, by simp [intOf]; omega⟩
        · have hfb : (f == 0) = false := by simp [hf0]
          go_wp2_with (first
            | (go_at_call 6; rw [HU.out, HW1.out]; refine (HM.out.calls (fun G' O => make_on O 1 (100 + (k : Int)) (v := .slice none 0 0) (xs := []) (.inl ⟨rfl, rfl⟩) (by omega) P1.out)).mono ?_; rintro ev w5 ⟨rfl, M2⟩; have y1 := (M2.on.below.cell (p := ⟨b, o + j * 2 + 1, none⟩) hb).trans C1.out; clear HW1)
            | (go_at_call 6; rw [HV.out, HW2.out]; refine (M2.calls (fun G' O => make_on O 1 (1000 + (u : Int)) (v := .slice none 0 0) (xs := []) (.inl ⟨rfl, rfl⟩) (by omega) P2.out)).mono ?_; rintro ev w6 ⟨rfl, M3⟩; clear M2 HW2)
            | (go_at_call 6; refine ((M3.step ((Below.refl _ w6).alloc (Nat.le_refl _) _)).calls (fun G' O => make_on O 9 0 (xs := [0, (r : Int), (v : Int)]) (reads_lit [0, (r : Int), (v : Int)] rfl rfl _) (by omega) P3.out)).mono ?_; rintro ev w7 ⟨rfl, M4⟩; have y3 := (M4.on.below.cell (p := ⟨b, o + j * 2 + 1, none⟩) hb).trans C1.out; have f3 := M4.cell hk5; rw [HF.out] at f3; have q3 := World.ownsRow.frozenAt M4.first k; have HM4 := (show Hid (MOn w w7 ab fb L4 R fs ps cs) from M4); clear M3 M4)
            | (go_at_call 7; fail))
          refine Calls.mono (do_once HM4 HK4 x 71 (r : Int) (v : Int) HASK (by omega)) ?_
          rintro ev w9 ⟨pn, cn, g, co, R', a, rfl, hd, x9, M9, hpre, l1, l2, l3, l4, hold⟩
          obtain ⟨h0, _⟩ | ⟨_, rfl, ha⟩ := HK4.out.put HM4.out.on.wf hk5 HR4.out hv4 hv0 hd
          · exact absurd (HF.out.symm.trans h0) hf0
          rw [HF.out] at ha
          subst ha
          have f9 := M9.cell hk5
          rw [HF.out] at f9
          have HPRE := (show Hid _ from hpre)
          have HOLD := (show Hid _ from hold)
          have HM9 := (show Hid (MOn w w9 ab fb L4 R' fs pn cn) from M9)
          have HKN := (show Hid (MOk L4 R' fs) from HK4.out)
          clear hd M9 hpre hold
          rcases l4 with ⟨rfl, h0, rfl⟩ | ⟨gn, rfl⟩
          · obtain rfl := List.eq_nil_of_length_eq_zero h0
            first | (obtain rfl : R = [] := List.eq_nil_of_length_eq_zero (by simpa using l1)) | skip
            clear h0
            simp only []
            go_at_K
            go_wp2_with (go_at_call 8; refine (keepRegs_ok _ _ _ _ _ _ _ rfl (by first | omega | simp) HPRE HOLD).mono ?_; rintro ev w10 ⟨rfl, B10⟩)
            exact ⟨⟨j + 1, _, _, _, _, _, rfl, by simp, by omega, HM9.out.step B10, HKN.out, by omega, by first | omega | simp⟩, by simp [intOf]; omega⟩
          · simp only []
            go_at_K
            go_wp2_with (go_at_call 8; refine (keepRegs_ok _ _ _ _ _ _ _ rfl (by first | omega | simp) HPRE HOLD).mono ?_; rintro ev w10 ⟨rfl, B10⟩)
            exact ⟨⟨j + 1, _, _, _, _, _, rfl, by simp, by omega, HM9.out.step B10, HKN.out, by omega, by first | omega | simp⟩, by simp [intOf]; omega⟩
    · have ejn : (j : Int) = n := by omega
      rw [ejn]
      clear ejn
      have hB2 := HM.out.on.below
      obtain rfl : j = n := by omega
      go_wp2_with (go_at_call 9; refine (wakes24_ok _).mono ?_; rintro ev w9 ⟨rfl, B9⟩)
      go_ret
      exact ⟨rfl, hB2.trans (B9.mono hB2.size)⟩
end Go.Proofs.Ytenllpaochcjfaa
