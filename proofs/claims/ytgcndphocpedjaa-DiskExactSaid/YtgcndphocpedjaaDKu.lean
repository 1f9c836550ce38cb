/-
  THE PAGE's DISK: trips, Sync. Own work.
-/
import Derived.Test.YtgcndphocpedjaaDKt
namespace Go.Proofs.Ytgcndphocpedjaa
open Go.ChangeShapes Go.WideShapes Go.ChangeAt Go.RowKit Go.Maps Go.Deep
set_option maxRecDepth 100000
attribute [local go_sem ↓] Go.wp_at_zero Go.wp_at_succ
section
variable {w0 w w' : World} {pb n : Nat} {d : Dk} {A : PA} {Q Mb : List RowD}
theorem ptrips_zero (T : Pg w0 w pb n d A Q Mb) (hl : d.left = 0) : Calls Try.prog 36 #[.pointer (some ⟨pb, 0, none⟩)] w fun e w' => e = .returned (.bool false) ∧ w' = w := by
  have c4 := T.c4
  rw [hl] at c4
  go_enter Try.func36, Try.ntmps36
  go_wp2
  go_ret
  simp
theorem ptrips_no (T : Pg w0 w pb n d A Q Mb) (hl : 1 < d.left) (hm : d.left < 9223372036854775808) : Calls Try.prog 36 #[.pointer (some ⟨pb, 0, none⟩)] w fun e w' => e = .returned (.bool false) ∧ w' = w.setCell ⟨pb, 4, none⟩ (.int .i64 ((d.left - 1 : Nat) : Int)) := by
  have c4 := T.c4
  have z4 := T.z 4
  have e1 : ((d.left - 1 : Nat) : Int) = (d.left : Int) - 1 := by omega
  rw [e1]
  have hgt0 : 0 < (d.left : Int) := by omega
  have hne : ¬ (d.left : Int) - 1 = 0 := by omega
  have hb1 : 1 < (d.left : Int) := by omega
  have hb2 : (d.left : Int) < 9223372036854775808 := by omega
  clear e1
  generalize (d.left : Int) = l at *
  go_enter Try.func36, Try.ntmps36
  go_wp2
  go_ret
  simp
theorem ptrips_stay (T : Pg w0 w pb n d A Q Mb) (hl : d.left ≠ 1) (hm : d.left < 9223372036854775808) : Calls Try.prog 36 #[.pointer (some ⟨pb, 0, none⟩)] w fun e w' => e = .returned (.bool false) ∧ Pg w0 w' pb n { d with left := d.left - 1 } A Q Mb := by
  by_cases h0 : d.left = 0
  · refine (ptrips_zero T h0).mono ?_
    rintro e w' ⟨rfl, rfl⟩
    have e1 : { d with left := d.left - 1 } = d := by cases d; simp at h0; simp [h0]
    exact ⟨rfl, by rw [e1]; exact T⟩
  · refine (ptrips_no T (by omega) hm).mono ?_
    rintro e w' ⟨rfl, rfl⟩
    exact ⟨rfl, T.armed _⟩
set_option maxHeartbeats 4000000 in
theorem ptrips_yes (T : Pg w0 w pb n d A Q Mb) (hoff : d.off = false) (hl : d.left = 1) (hlen : d.wr.length ≤ 100000) : Calls Try.prog 36 #[.pointer (some ⟨pb, 0, none⟩)] w fun e w' => e = .returned (.bool true) ∧ ∃ sl, Pg w0 w' pb n { d with safe := crs A.pk A.pt d.wr d.safe d.wr.length, wr := [], off := true, left := 0 } { A with uw := .slice none 0 0, uk := .slice none 0 0, wl := [], pk := [], sl := sl } Q Mb := by
  have c4 := T.c4
  have z4 := T.z 4
  rw [hl] at c4
  have T1 := T.armed 0
  have T1d := T1.step (Below.refl _ _).drew
  have hk := rdv_row T1d.rk
  have hne : A.pk.map Value.bool ≠ [] → ∀ k, A.uk.ownBlock = some k → A.us.ownBlock ≠ some k ∧ A.ut.ownBlock ≠ some k := fun _ k h => ⟨T.fam.apart 4 1 _ _ rfl rfl (by omega) k h, T.fam.apart 4 2 _ _ rfl rfl (by omega) k h⟩
  have c5 := T.c5
  have c6 := T.c6
  go_enter Try.func36, Try.ntmps36
  go_wp2
  go_region_with (go_at_call 24; refine (pcrash_on T1d hoff hlen A.pt hk hne).mono ?_; rintro ev w3 ⟨rfl, sl, T3⟩)
  all_goals (simp only [Exit.then]; go_wp2; go_ret; exact ⟨by simp, sl, T3⟩)
set_option maxHeartbeats 4000000 in
theorem psync_ok (T : Pg w0 w pb n d A Q Mb) (hoff : d.off = false) (hl : d.left ≠ 1) (hm : d.left < 9223372036854775808) (hlen : d.wr.length ≤ 100000) : Calls Try.prog 22 #[.pointer (some ⟨pb, 0, none⟩)] w fun e w' => e = .returned (.int .i64 0) ∧ ∃ sl, Pg w0 w' pb n { d with safe := synP d.wr d.safe d.wr.length, wr := [], left := d.left - 1 } { A with uw := .slice none 0 0, wl := [], sl := sl } Q Mb := by
  have c3 := T.c3
  rw [hoff] at c3
  obtain ⟨gs, cs, e1, _⟩ := T.rs
  obtain ⟨gt, ct, e2, _⟩ := T.rt
  obtain ⟨n1, n2, n3⟩ := T.ust e1 e2
  obtain ⟨pw, cw, e3⟩ := row_slice T.rw
  go_enter Try.func22, Try.ntmps22
  go_wp2_with (go_at_call 36; refine (ptrips_stay T hl hm).mono ?_; rintro ev w5 ⟨rfl, T0⟩)
  go_loopw [3] (fun i wq => ∃ (j : Nat) (sl : List Value), i = .int .i64 j ∧ j ≤ d.wr.length ∧ Pg w0 wq pb n { d with safe := synP d.wr d.safe j, left := d.left - 1 } { A with sl := sl } Q Mb) (fun i _ => d.wr.length - (intOf i).toNat)
  case atStart => exact ⟨0, A.sl, rfl, by omega, T0⟩
  case round =>
    obtain ⟨j, sl, rfl, hj, T1⟩ := hrel
    by_cases hlt : j < d.wr.length
    · have hjI : (j : Int) < d.wr.length := by omega
      obtain ⟨x, hx⟩ : ∃ x, d.wr[j]? = some x := ⟨_, List.getElem?_eq_getElem hlt⟩
      have hxw := T.ok.w64 x (List.mem_of_getElem? hx)
      obtain ⟨g, c, v, e4, y1, y2, _, hq⟩ := T1.wcell (x := x) hx
      obtain ⟨m1, m2⟩ := T1.wne e4 e1 e2
      obtain ⟨pv, cv, ev⟩ : ∃ p c, v = .slice p x.2.length c := row_slice (T1.row (T1.sub _ hq))
      rw [hxw.2] at ev
      subst ev
      have hxI : (x.1 : Int) < n := by omega
      have T2 := T1.step (Below.refl _ wr).drew
      have k0 : wr.drew.cell? ⟨pb, 0, none⟩ = some (.slice (some ⟨gs, 0, none⟩) n cs) := by rw [← e1]; exact T2.c0
      have k1 : wr.drew.cell? ⟨pb, 1, none⟩ = some (.slice (some ⟨gt, 0, none⟩) n ct) := by rw [← e2]; exact T2.c1
      have k2 : wr.drew.cell? ⟨pb, 2, none⟩ = some (.slice (some ⟨g, 0, none⟩) d.wr.length c) := by have h := T2.c2; rw [e4] at h; exact h
      have k3 : wr.drew.cell? ⟨g, j * 2, none⟩ = some (.int .i64 (x.1 : Int)) := y1
      have k4 : wr.drew.cell? ⟨g, j * 2 + 1, none⟩ = some (.slice pv 64 cv) := y2
      have hst : synP d.wr d.safe (j + 1) = (synP d.wr d.safe j).set x.1 (x.2, false) := by rw [synP, hx]
      obtain ⟨gs', cs', e1', rs⟩ := T2.rs
      obtain ⟨gt', ct', e2', rt⟩ := T2.rt
      have e1'' := e1.symm.trans e1'
      have e2'' := e2.symm.trans e2'
      cases e1''
      cases e2''
      have hlen1 : sl.length = n := by have h1 := T1.ls; have h2 := T1.ok.ls; simp only at h1 h2; omega
      have s1 : (wr.drew.cell? ⟨gs, x.1, none⟩).isSome = true := by rw [World.ownsRow.cellAt rs x.1 (by omega), List.getElem?_eq_getElem (by rw [hlen1]; exact hxw.1)]; rfl
      obtain ⟨v0, s1⟩ := Option.isSome_iff_exists.1 s1
      have s2 := World.ownsRow.frozenAt rs x.1
      have hsl := T2.ok.ls
      obtain ⟨y0, hy0⟩ : ∃ y, (synP d.wr d.safe j)[x.1]? = some y := ⟨_, List.getElem?_eq_getElem (by simp only at hsl; omega)⟩
      have t1 : wr.drew.cell? ⟨gt, x.1, none⟩ = some (.bool y0.2) := by rw [World.ownsRow.cellAt rt x.1 (by omega), List.getElem?_map, List.getElem?_map, hy0]; rfl
      have t2 := World.ownsRow.frozenAt rt x.1
      have hTS := T2.h
      have hpbl : pb < wr.drew.heap.size := (row_base hTS rfl).2
      have hgl : g < wr.drew.heap.size := World.block_lt_of_cell? _ _ k3
      have hgtl : gt < wr.drew.heap.size := World.block_lt_of_cell? _ _ t1
      have K1 := setcell_keeps wr.drew gs x.1 (.slice pv 64 cv)
      have z0 := (K1.cell (p := ⟨pb, 0, none⟩) hpbl (Ne.symm n2)).trans k0
      have z1 := (K1.cell (p := ⟨pb, 1, none⟩) hpbl (Ne.symm n2)).trans k1
      have z2 := (K1.cell (p := ⟨pb, 2, none⟩) hpbl (Ne.symm n2)).trans k2
      have z3 := (K1.cell (p := ⟨g, j * 2, none⟩) hgl (Ne.symm m1)).trans k3
      have z4 := (K1.cell (p := ⟨g, j * 2 + 1, none⟩) hgl (Ne.symm m1)).trans k4
      have t3 := (K1.cell (p := ⟨gt, x.1, none⟩) hgtl (Ne.symm n1)).trans t1
      have t4 := (K1.frozen (p := ⟨gt, x.1, none⟩) hgtl (Ne.symm n1)).trans t2
      have K2 := setcell_keeps (wr.drew.setCell ⟨gs, x.1, none⟩ (.slice pv 64 cv)) gt x.1 (.bool false)
      have u0 := (K2.cell (p := ⟨pb, 0, none⟩) (Nat.lt_of_lt_of_le hpbl K1.size) (Ne.symm n3)).trans z0
      have u1 := (K2.cell (p := ⟨pb, 1, none⟩) (Nat.lt_of_lt_of_le hpbl K1.size) (Ne.symm n3)).trans z1
      have u2 := (K2.cell (p := ⟨pb, 2, none⟩) (Nat.lt_of_lt_of_le hpbl K1.size) (Ne.symm n3)).trans z2
      have u3 := (K2.cell (p := ⟨g, j * 2, none⟩) (Nat.lt_of_lt_of_le hgl K1.size) (Ne.symm m2)).trans z3
      have u4 := (K2.cell (p := ⟨g, j * 2 + 1, none⟩) (Nat.lt_of_lt_of_le hgl K1.size) (Ne.symm m2)).trans z4
      have T3 := T2.lay (cs := cs) (ct := ct) e1 e2 x.1 hxw.1 (.slice pv 64 cv) x.2 hxw.2 hq
      have t1' : wr.cell? ⟨gt, x.1, none⟩ = some (.bool y0.2) := t1
      have t2' : wr.frozen? ⟨gt, x.1, none⟩ = false := t2
      have t3' : (wr.setCell ⟨gs, x.1, none⟩ (.slice pv 64 cv)).cell? ⟨gt, x.1, none⟩ = some (.bool y0.2) := t3
      have t4' : (wr.setCell ⟨gs, x.1, none⟩ (.slice pv 64 cv)).frozen? ⟨gt, x.1, none⟩ = false := t4
      have s1' : wr.cell? ⟨gs, x.1, none⟩ = some v0 := s1
      have s2' : wr.frozen? ⟨gs, x.1, none⟩ = false := s2
      clear rs rt hTS
      have c2w : wr.cell? ⟨pb, 2, none⟩ = some (.slice (some ⟨g, 0, none⟩) d.wr.length c) := k2
      clear K1 K2
      go_wp2
      go_region_held3 (fun w' => w'.cell? ⟨pb, 0, none⟩ = some (.slice (some ⟨gs, 0, none⟩) n cs) ∧ w'.cell? ⟨pb, 1, none⟩ = some (.slice (some ⟨gt, 0, none⟩) n ct) ∧ w'.cell? ⟨pb, 2, none⟩ = some (.slice (some ⟨g, 0, none⟩) d.wr.length c) ∧ w'.cell? ⟨g, j * 2, none⟩ = some (.int .i64 (x.1 : Int)) ∧ w'.cell? ⟨g, j * 2 + 1, none⟩ = some (.slice pv 64 cv))
        (first | exact ⟨k0, k1, k2, k3, k4⟩ | exact ⟨z0, z1, z2, z3, z4⟩ | exact ⟨u0, u1, u2, u3, u4⟩)
        (first | (go_at_call 0; skip))
      simp only [Exit.inBlock]
      go_wp2
      refine ⟨⟨j + 1, sl.set x.1 (.slice pv 64 cv), by simp, by omega, ?_⟩, by simp [intOf]; omega⟩
      rw [hst]
      exact (T1.lay e1 e2 x.1 hxw.1 (.slice pv 64 cv) x.2 hxw.2 hq).step (Below.refl _ _).drew
    · obtain rfl : j = d.wr.length := by omega
      have y2 := T1.c2
      rw [e3] at y2
      have z2 := T1.z 2
      have T9 := T1.noW
      go_wp2
      go_ret
      exact ⟨by simp, sl, by rw [← e1, ← e2]; rw [hoff] at T9; exact T9⟩
end
end Go.Proofs.Ytgcndphocpedjaa
