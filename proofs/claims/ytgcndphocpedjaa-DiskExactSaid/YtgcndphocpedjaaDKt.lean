/-
  THE PAGE's DISK: Crash. Own work.
-/
import Derived.Test.YtgcndphocpedjaaDKs
namespace Go.Proofs.Ytgcndphocpedjaa
open Go.ChangeShapes Go.WideShapes Go.ChangeAt Go.RowKit Go.Maps Go.Deep
set_option maxRecDepth 100000
attribute [local go_sem ↓] Go.wp_at_zero Go.wp_at_succ
section
variable {w0 w w' : World} {pb n : Nat} {d : Dk} {A : PA} {Q Mb : List RowD}
set_option maxHeartbeats 4000000 in
theorem pcrash_on (T : Pg w0 w pb n d A Q Mb) (hoff : d.off = false) (hlen : d.wr.length ≤ 100000) (t : Int) {vk : Value} {ks : List Bool} (hv : RdV w vk (ks.map Value.bool)) (hna : ks.map Value.bool ≠ [] → ∀ k, vk.ownBlock = some k → A.us.ownBlock ≠ some k ∧ A.ut.ownBlock ≠ some k) : Calls Try.prog 24 #[.pointer (some ⟨pb, 0, none⟩), vk, .int .i64 t] w fun e w' => e = .returned (.tuple #[]) ∧ ∃ sl, Pg w0 w' pb n { d with safe := crs ks t d.wr d.safe d.wr.length, wr := [], off := true, left := 0 } { A with uw := .slice none 0 0, uk := .slice none 0 0, wl := [], pk := [], sl := sl } Q Mb := by
  have c3 := T.c3
  rw [hoff] at c3
  obtain ⟨gs, cs, e1, _⟩ := T.rs
  obtain ⟨gt, ct, e2, _⟩ := T.rt
  obtain ⟨n1, n2, n3⟩ := T.ust e1 e2
  obtain ⟨pw, cw, e3⟩ := row_slice T.rw
  obtain ⟨pk, ck, rfl⟩ := rdv_shape hv
  simp only [List.length_map] at hv hna ⊢
  go_enter Try.func24, Try.ntmps24
  go_wp2
  go_loopw [6] (fun i wq => ∃ (j : Nat) (sl : List Value), i = .int .i64 j ∧ j ≤ d.wr.length ∧ Pg w0 wq pb n { d with safe := crs ks t d.wr d.safe j } { A with sl := sl } Q Mb ∧ RdV wq (.slice pk ks.length ck) (ks.map Value.bool)) (fun i _ => d.wr.length - (intOf i).toNat)
  case atStart => exact ⟨0, A.sl, rfl, by omega, T, hv⟩
  case round =>
    obtain ⟨j, sl, rfl, hj, T1, hv1⟩ := hrel
    by_cases hlt : j < d.wr.length
    · have hjI : (j : Int) < d.wr.length := by omega
      obtain ⟨x, hx⟩ : ∃ x, d.wr[j]? = some x := ⟨_, List.getElem?_eq_getElem hlt⟩
      have hxw := T.ok.w64 x (List.mem_of_getElem? hx)
      obtain ⟨g, c, v, e4, y1, y2, _, hq⟩ := T1.wcell (x := x) hx
      obtain ⟨m1, m2⟩ := T1.wne e4 e1 e2
      obtain ⟨pv, cv, ev⟩ : ∃ p c, v = .slice p x.2.length c := row_slice (T1.row (T1.sub _ hq))
      rw [hxw.2] at ev
      subst ev
      have hxI : (x.1 : Int) < n := by omega
      have T2 := T1.step (Below.refl _ wr).drew
      have k0 : wr.drew.cell? ⟨pb, 0, none⟩ = some (.slice (some ⟨gs, 0, none⟩) n cs) := by rw [← e1]; exact T2.c0
      have k1 : wr.drew.cell? ⟨pb, 1, none⟩ = some (.slice (some ⟨gt, 0, none⟩) n ct) := by rw [← e2]; exact T2.c1
      have k2 : wr.drew.cell? ⟨pb, 2, none⟩ = some (.slice (some ⟨g, 0, none⟩) d.wr.length c) := by have h := T2.c2; rw [e4] at h; exact h
      have k3 : wr.drew.cell? ⟨g, j * 2, none⟩ = some (.int .i64 (x.1 : Int)) := y1
      have k4 : wr.drew.cell? ⟨g, j * 2 + 1, none⟩ = some (.slice pv 64 cv) := y2
      obtain ⟨gs', cs', e1', rs⟩ := T2.rs
      obtain ⟨gt', ct', e2', rt⟩ := T2.rt
      have e1'' := e1.symm.trans e1'
      have e2'' := e2.symm.trans e2'
      cases e1''
      cases e2''
      have hlen1 : sl.length = n := by have h1 := T1.ls; have h2 := T1.ok.ls; simp only at h1 h2; omega
      have s1 : (wr.drew.cell? ⟨gs, x.1, none⟩).isSome = true := by rw [World.ownsRow.cellAt rs x.1 (by omega), List.getElem?_eq_getElem (by rw [hlen1]; exact hxw.1)]; rfl
      obtain ⟨v0, s1⟩ := Option.isSome_iff_exists.1 s1
      have s2 := World.ownsRow.frozenAt rs x.1
      have hsl := T2.ok.ls
      obtain ⟨y0, hy0⟩ : ∃ y, (crs ks t d.wr d.safe j)[x.1]? = some y := ⟨_, List.getElem?_eq_getElem (by simp only at hsl; omega)⟩
      have t1 : wr.drew.cell? ⟨gt, x.1, none⟩ = some (.bool y0.2) := by rw [World.ownsRow.cellAt rt x.1 (by omega), List.getElem?_map, List.getElem?_map, hy0]; rfl
      have t2 := World.ownsRow.frozenAt rt x.1
      have hTS := T2.h
      have hpbl : pb < wr.drew.heap.size := (row_base hTS rfl).2
      have hgl : g < wr.drew.heap.size := World.block_lt_of_cell? _ _ k3
      have hgtl : gt < wr.drew.heap.size := World.block_lt_of_cell? _ _ t1
      have K1 := setcell_keeps wr.drew gs x.1 (.slice pv 64 cv)
      have z0 := (K1.cell (p := ⟨pb, 0, none⟩) hpbl (Ne.symm n2)).trans k0
      have z1 := (K1.cell (p := ⟨pb, 1, none⟩) hpbl (Ne.symm n2)).trans k1
      have z2 := (K1.cell (p := ⟨pb, 2, none⟩) hpbl (Ne.symm n2)).trans k2
      have z3 := (K1.cell (p := ⟨g, j * 2, none⟩) hgl (Ne.symm m1)).trans k3
      have z4 := (K1.cell (p := ⟨g, j * 2 + 1, none⟩) hgl (Ne.symm m1)).trans k4
      have t3 := (K1.cell (p := ⟨gt, x.1, none⟩) hgtl (Ne.symm n1)).trans t1
      have t4 := (K1.frozen (p := ⟨gt, x.1, none⟩) hgtl (Ne.symm n1)).trans t2
      have K2 := setcell_keeps (wr.drew.setCell ⟨gs, x.1, none⟩ (.slice pv 64 cv)) gt x.1 (.bool false)
      have u0 := (K2.cell (p := ⟨pb, 0, none⟩) (Nat.lt_of_lt_of_le hpbl K1.size) (Ne.symm n3)).trans z0
      have u1 := (K2.cell (p := ⟨pb, 1, none⟩) (Nat.lt_of_lt_of_le hpbl K1.size) (Ne.symm n3)).trans z1
      have u2 := (K2.cell (p := ⟨pb, 2, none⟩) (Nat.lt_of_lt_of_le hpbl K1.size) (Ne.symm n3)).trans z2
      have u3 := (K2.cell (p := ⟨g, j * 2, none⟩) (Nat.lt_of_lt_of_le hgl K1.size) (Ne.symm m2)).trans z3
      have u4 := (K2.cell (p := ⟨g, j * 2 + 1, none⟩) (Nat.lt_of_lt_of_le hgl K1.size) (Ne.symm m2)).trans z4
      have T3 := T2.lay (cs := cs) (ct := ct) e1 e2 x.1 hxw.1 (.slice pv 64 cv) x.2 hxw.2 hq
      have t1' : wr.cell? ⟨gt, x.1, none⟩ = some (.bool y0.2) := t1
      have t2' : wr.frozen? ⟨gt, x.1, none⟩ = false := t2
      have t3' : (wr.setCell ⟨gs, x.1, none⟩ (.slice pv 64 cv)).cell? ⟨gt, x.1, none⟩ = some (.bool y0.2) := t3
      have t4' : (wr.setCell ⟨gs, x.1, none⟩ (.slice pv 64 cv)).frozen? ⟨gt, x.1, none⟩ = false := t4
      have s1' : wr.cell? ⟨gs, x.1, none⟩ = some v0 := s1
      have s2' : wr.frozen? ⟨gs, x.1, none⟩ = false := s2
      clear rs rt hTS
      have c2w : wr.cell? ⟨pb, 2, none⟩ = some (.slice (some ⟨g, 0, none⟩) d.wr.length c) := k2
      clear K1 K2
      have hcr : crs ks t d.wr d.safe (j + 1) = stepC ks t j x (crs ks t d.wr d.safe j) := by rw [crs, hx]
      by_cases hjt : (j : Int) = t
      · subst hjt
        have hst : crs ks (j : Int) d.wr d.safe (j + 1) = (crs ks (j : Int) d.wr d.safe j).set x.1 (y0.1, true) := by rw [hcr, stepC, if_pos rfl, hy0]
        have T4 := T1.setT e2 x.1 y0 hy0 true
        have hv4 := hv1.keeps (setcell_keeps wr gt x.1 (.bool true)) (fun h0 k hk he => (hna h0 k hk).2 (by have he' : k = gt := he; rw [he', e2]; rfl))
        have c1w : wr.cell? ⟨pb, 1, none⟩ = some (.slice (some ⟨gt, 0, none⟩) n ct) := k1
        clear hcr
        go_wp2
        go_region
        all_goals simp only [Exit.inBlock]
        all_goals go_wp2
        all_goals (refine ⟨⟨j + 1, sl, by simp, by omega, ?_, ?_⟩, by simp [intOf]; omega⟩)
        all_goals first
          | (rw [hst]; exact T4.step (Below.refl _ _).drew)
          | (exact hv4.below (Below.refl _ _).drew)
      · have hskip : ks.getD j false = false → crs ks t d.wr d.safe (j + 1) = crs ks t d.wr d.safe j := fun h => by rw [hcr, stepC, if_neg hjt, h]; simp
        by_cases hjk : j < ks.length
        · have hjkI : (j : Int) < ks.length := by omega
          obtain ⟨b, o, rfl, _, hbc⟩ := rdv_nth hv1 (t := j) (by simpa using hjk)
          rw [List.getElem?_map, List.getElem?_eq_getElem hjk, Option.map_some] at hbc
          have hgd : ks.getD j false = ks[j] := by rw [List.getD_eq_getElem?_getD, List.getElem?_eq_getElem hjk]; rfl
          generalize ks[j] = kb at hbc hgd
          cases kb with
          | false =>
            go_wp2
            refine ⟨⟨j + 1, sl, by simp, by omega, ?_, hv1⟩, by simp [intOf]; omega⟩
            rw [hskip hgd]
            exact T1
          | true =>
            have hst : crs ks t d.wr d.safe (j + 1) = (crs ks t d.wr d.safe j).set x.1 (x.2, false) := by rw [hcr, stepC, if_neg hjt, hgd]; simp
            have hv4 := (hv1.keeps (setcell_keeps wr gs x.1 (.slice pv 64 cv)) (fun h0 k hk he => (hna h0 k hk).1 (by have he' : k = gs := he; rw [he', e1]; rfl))).keeps (setcell_keeps (wr.setCell ⟨gs, x.1, none⟩ (.slice pv 64 cv)) gt x.1 (.bool false)) (fun h0 k hk he => (hna h0 k hk).2 (by have he' : k = gt := he; rw [he', e2]; rfl))
            clear hcr hskip
            go_wp2
            go_region_held3 (fun w' => w'.cell? ⟨pb, 0, none⟩ = some (.slice (some ⟨gs, 0, none⟩) n cs) ∧ w'.cell? ⟨pb, 1, none⟩ = some (.slice (some ⟨gt, 0, none⟩) n ct) ∧ w'.cell? ⟨pb, 2, none⟩ = some (.slice (some ⟨g, 0, none⟩) d.wr.length c) ∧ w'.cell? ⟨g, j * 2, none⟩ = some (.int .i64 (x.1 : Int)) ∧ w'.cell? ⟨g, j * 2 + 1, none⟩ = some (.slice pv 64 cv))
              (first | exact ⟨k0, k1, k2, k3, k4⟩ | exact ⟨z0, z1, z2, z3, z4⟩ | exact ⟨u0, u1, u2, u3, u4⟩)
              (first | (go_at_call 0; skip))

            simp only [Exit.inBlock]
            go_wp2
            refine ⟨⟨j + 1, sl.set x.1 (.slice pv 64 cv), by simp, by omega, ?_, hv4.below (Below.refl _ _).drew⟩, by simp [intOf]; omega⟩
            rw [hst]
            exact (T1.lay e1 e2 x.1 hxw.1 (.slice pv 64 cv) x.2 hxw.2 hq).step (Below.refl _ _).drew
        · have hjkI : ¬ (j : Int) < ks.length := by omega
          go_wp2
          refine ⟨⟨j + 1, sl, by simp, by omega, ?_, hv1⟩, by simp [intOf]; omega⟩
          rw [hskip (by rw [List.getD_eq_getElem?_getD, List.getElem?_eq_none (by omega)]; rfl)]
          exact T1
    · obtain rfl : j = d.wr.length := by omega
      have y2 := T1.c2
      rw [e3] at y2
      have y3 := T1.c3
      have y4 := T1.c4
      have y5 := T1.c5
      have z2 := T1.z 2
      have z3 := T1.z 3
      have z4 := T1.z 4
      have z5 := T1.z 5
      have T9 := T1.crashed
      go_wp2
      go_end0
      exact ⟨rfl, sl, by rw [← e1, ← e2]; exact T9⟩
theorem pcrash_off (T : Pg w0 w pb n d A Q Mb) (hoff : d.off = true) (t : Int) (v : Value) : Calls Try.prog 24 #[.pointer (some ⟨pb, 0, none⟩), v, .int .i64 t] w fun e w' => e = .returned (.tuple #[]) ∧ w' = w := by
  have c3 := T.c3
  rw [hoff] at c3
  go_enter Try.func24, Try.ntmps24
  go_wp2
  refine bodyPost_ret (v := .tuple #[]) (by simp [results, Try.results24, go_sem]) rfl ?_
  exact ⟨rfl, rfl⟩
end
end Go.Proofs.Ytgcndphocpedjaa
