/-
  LAYER 25: LogsGrow, its walk. Own work.
-/
import Derived.Test.YtcpcnjblojoppaaLXw
namespace Go.Proofs.Ytcpcnjblojoppaa
open Go.ChangeShapes Go.WideShapes Go.ChangeAt Go.RowKit Go.Maps
set_option maxRecDepth 100000
attribute [local go_sem ↓] Go.wp_at_zero Go.wp_at_succ
/-- Have, as a row of one's own. -/
theorem have_row {v : Value} {S : List Lg} {ws : World} (h : Logs ws v S) (h4 : S.length ≤ 1000) (hR : Right S) : Calls Try.prog 14 #[v] ws fun e w' => ∃ g c zs, e = .returned (.slice (some ⟨g, 0, none⟩) 8 c) ∧ HaveR S S.length zs ∧ w'.ownsRow ws.heap.size 3 1 (.slice (some ⟨g, 0, none⟩) 8 c) 8 (zs.map (Value.int .i64)) ∧ Below ws.heap.size ws w' := by
  have h' := h
  obtain ⟨p, c, rfl, _⟩ := h
  refine (have_low p _ c S rfl h4 ws hR h').mono ?_
  rintro e w' ⟨g, c', rfl, zs, hz, hown, hB⟩
  exact ⟨g, c', zs, rfl, hz, hown, hB⟩
theorem row_cell {w : World} {base g c k : Nat} {zs : List Int} (h : w.ownsRow base 3 1 (.slice (some ⟨g, 0, none⟩) 8 c) 8 (zs.map (Value.int .i64))) (hk : k < 8) : w.cell? ⟨g, k, none⟩ = some (.int .i64 (zs.getD k 0)) := by
  have h2 := World.ownsRow.cellAt h k (by omega)
  have hl : zs.length = 8 := by have := h.1; simpa using this
  rw [h2, List.getElem?_map, List.getElem?_eq_getElem (by omega), List.getD_eq_getElem?_getD, List.getElem?_eq_getElem (by omega)]
  rfl
theorem Alike.right {S T : List Lg} (h : Alike S T) (hR : Right S) : Right T := by
  obtain ⟨hl, hh⟩ := h
  refine ⟨fun k hk => ?_, fun i j hij hj => ?_⟩
  · obtain ⟨e0, e1, e2⟩ := hh k (by omega) hk
    unfold okLg
    rw [e0, e1, e2]
    exact hR.1 k (by omega)
  · rw [(hh i (by omega) (by omega)).1, (hh j (by omega) hj).1]
    exact hR.2 i j hij (by omega)
theorem Alike.symm {S T : List Lg} (h : Alike S T) : Alike T S := ⟨h.1.symm, fun i hi hi' => by
  obtain ⟨e0, e1, e2⟩ := h.2 i hi' hi
  exact ⟨e0.symm, e1.symm, e2.symm⟩⟩
theorem Right.len {S : List Lg} (hR : Right S) : S.length ≤ 8 := by
  have key : ∀ i (h : i < S.length), (i : Int) ≤ S[i].c := by
    intro i
    induction i with
    | zero => intro h; exact (hR.1 0 h).1
    | succ i ih =>
      intro h
      have h1 := ih (by omega)
      have h2 := hR.2 i (i + 1) (by omega) h
      omega
  rcases Nat.lt_or_ge 8 S.length with h | h
  · have h1 := key 8 h
    have h2 := (hR.1 8 h).2.1
    omega
  · exact h
theorem HadOf.alike {S T : List Lg} {c h : Int} (hh : HadOf S c h) (hA : Alike S T) : HadOf T c h := by
  obtain ⟨hl, hx⟩ := hA
  rcases hh with ⟨g, hg, e, rfl⟩ | ⟨hn, rfl⟩
  · obtain ⟨i, hi, rfl⟩ := List.getElem_of_mem hg
    obtain ⟨e0, e1, e2⟩ := hx i hi (by omega)
    exact .inl ⟨T[i], List.getElem_mem _, e0.trans e, by rw [e1, e2]⟩
  · refine .inr ⟨fun g hg e => ?_, rfl⟩
    obtain ⟨i, hi, rfl⟩ := List.getElem_of_mem hg
    exact hn _ (List.getElem_mem (show i < S.length by omega)) ((hx i (by omega) hi).1.symm.trans e)
theorem ints_same' {w : World} {v u : Value} {xs : List Int} {n : Nat} (_ : xs.length = n) (hn : n ≤ 1000) (hx : RdW w v xs) (hy : RdW w u xs) : Calls Try.prog 13 #[v, u] w fun e w' => e = .returned (.bool true) ∧ Below w.heap.size w w' := ints_same (by omega) hx hy
theorem rdw_pre {w : World} {p : Option Addr} {c : Nat} {xs r : List Int} (h : RdW w (.slice p (xs ++ r).length c) (xs ++ r)) : RdW w (.slice p xs.length c) xs := by
  obtain ⟨p', c', e, h | ⟨b, o, rfl, hb, hc⟩⟩ := h
  · cases e
    have hx : xs = [] := by simp at h; exact h.1
    exact ⟨p, c, rfl, .inl hx⟩
  · cases e
    refine ⟨_, c, rfl, .inr ⟨b, o, rfl, hb, fun t ht => ?_⟩⟩
    rw [hc t (by simp; omega), List.getD_eq_getElem?_getD, List.getD_eq_getElem?_getD, List.getElem?_append_left ht]
set_option maxHeartbeats 16000000 in
theorem lgrow_put (p : Option Addr) (n cc : Nat) (S : List Lg) (hn : S.length = n) (c seq body : Int) (ws : World) (HS : Hid (Logs ws (.slice p n cc) S)) : Calls Try.prog 5 #[.slice p n cc, .agg #[.int .i64 c, .int .i64 seq, .int .i64 body], .bool false] ws fun e w' => e = .returned (.bool true) ∧ Below ws.heap.size ws w' := by
  have BA : Below ws.heap.size ws (ws.alloc (.cells #[.int .i64 c, .int .i64 seq, .int .i64 body] 24)) := (Below.refl _ ws).alloc (Nat.le_refl _) _
  by_cases hR : Right S
  rotate_left
  · have HNR := (show Hid (¬ Right S) from hR)
    clear hR
    go_enter Try.func5, Try.ntmps5
    go_wp2_with (first
      | (go_at_call 8; refine (heavy_ok (w := ws.alloc (.cells #[.int .i64 c, .int .i64 seq, .int .i64 body] 24)) (Logs.below HS.out BA)).mono ?_; rintro ev w1 ⟨rfl, r, rfl, hr⟩)
      | (go_at_call 11; refine (check_not (Logs.below HS.out BA) (by have : S.length ≤ 50 := (by first | exact hr rfl | exact hr (by assumption) | exact hr (Bool.eq_false_iff.2 (by assumption))); omega) HNR.out).mono ?_; rintro ev w1 ⟨rfl, B1⟩))
    · go_ret
      exact ⟨rfl, BA⟩
    · go_ret
      exact ⟨rfl, BA.trans (B1.mono BA.size)⟩
  have HR := (show Hid (Right S) from hR)
  clear hR
  go_enter Try.func5, Try.ntmps5
  go_wp2_with (first
    | (go_at_call 8; refine (heavy_ok (w := ws.alloc (.cells #[.int .i64 c, .int .i64 seq, .int .i64 body] 24)) (Logs.below HS.out BA)).mono ?_; rintro ev w1 ⟨rfl, r, rfl, hr⟩)
    | (go_at_call 11; refine (check_yes (Logs.below HS.out BA) (by have : S.length ≤ 50 := (by first | exact hr rfl | exact hr (by assumption) | exact hr (Bool.eq_false_iff.2 (by assumption))); omega) HR.out).mono ?_; rintro ev w1 ⟨rfl, B1⟩
       have hn50 : n ≤ 50 := by have : S.length ≤ 50 := (by first | exact hr rfl | exact hr (by assumption) | exact hr (Bool.eq_false_iff.2 (by assumption))); omega
       have B0 : Below ws.heap.size ws w1 := BA.trans (B1.mono BA.size)
       have hsz := B1.size
       simp only [World.size_alloc] at hsz
       have y0 : w1.cell? ⟨ws.heap.size, 0, none⟩ = some (.int .i64 c) := (B1.cell (p := ⟨ws.heap.size, 0, none⟩) (by simp)).trans (by simp [go_sem])
       have y1 : w1.cell? ⟨ws.heap.size, 1, none⟩ = some (.int .i64 seq) := (B1.cell (p := ⟨ws.heap.size, 1, none⟩) (by simp)).trans (by simp [go_sem])
       have y2 : w1.cell? ⟨ws.heap.size, 2, none⟩ = some (.int .i64 body) := (B1.cell (p := ⟨ws.heap.size, 2, none⟩) (by simp)).trans (by simp [go_sem]))
    | (go_at_call 20; fail))
  · go_ret
    exact ⟨rfl, BA⟩
  refine Calls.mono (putm_all (Logs.below HS.out B0) (by omega) HR.out c seq body) ?_
  rintro ev w2 ⟨⟨v', f, er, rfl, hk⟩, B2⟩
  have z0 := (B2.cell (p := ⟨ws.heap.size, 0, none⟩) (show ws.heap.size < w1.heap.size by omega)).trans y0
  have z1 := (B2.cell (p := ⟨ws.heap.size, 1, none⟩) (show ws.heap.size < w1.heap.size by omega)).trans y1
  have z2 := (B2.cell (p := ⟨ws.heap.size, 2, none⟩) (show ws.heap.size < w1.heap.size by omega)).trans y2
  have B02 : Below ws.heap.size ws w2 := B0.trans (B2.mono B0.size)
  have hsz2 := B2.size
  clear y0 y1 y2 B1 B2
  rcases hk with ⟨rfl, rfl, he⟩ | ⟨rfl, rfl, T, hA, hl⟩ | ⟨rfl, rfl, hm, hh, T, hF, hl⟩
  · simp only []
    go_at_K
    rcases he with rfl | rfl | rfl
    all_goals
      go_wp2_with (go_at_call 27; refine (wakes25_ok _).mono ?_; rintro ev w3 ⟨rfl, B3⟩)
      go_ret
      exact ⟨rfl, B02.trans (B3.mono B02.size)⟩
  · have HA := (show Hid (Alike S T) from hA)
    have HT := (show Hid (Logs w2 v' T) from hl)
    have hRT : Right T := HA.out.right HR.out
    have HRT := (show Hid (Right T) from hRT)
    have hTl : T.length = n := HA.out.1.trans hn
    clear hA hl hRT
    simp only []
    go_at_K
    go_wp2_with (first
      | (go_at_call 11; refine (check_yes HT.out (by omega) HRT.out).mono ?_; rintro ev w3 ⟨rfl, B3⟩
         have B03 : Below ws.heap.size ws w3 := B02.trans (B3.mono B02.size))
      | (go_at_call 14; fail))
    refine Calls.mono (have_row (Logs.below HS.out B03) (by omega) HR.out) ?_
    rintro ev w4 ⟨g1, c1, zs1, rfl, hz1, R1, B4⟩
    have Z1 := (show Hid (HaveR S S.length zs1) from hz1)
    have O1 := (show Hid (w4.ownsRow w3.heap.size 3 1 (.slice (some ⟨g1, 0, none⟩) 8 c1) 8 (zs1.map (Value.int .i64))) from R1)
    have B04 : Below ws.heap.size ws w4 := B03.trans (B4.mono B03.size)
    clear hz1 R1
    simp only []
    go_at_K
    go_wp2_with (first | (go_at_call 14; fail))
    refine Calls.mono (have_row (Logs.below (Logs.below HT.out B3) B4) (by omega) HRT.out) ?_
    rintro ev w5 ⟨g2, c2, zs2, rfl, hz2, R2, B5⟩
    have Z2 := (show Hid (HaveR T T.length zs2) from hz2)
    have O2 := (show Hid (w5.ownsRow w4.heap.size 3 1 (.slice (some ⟨g2, 0, none⟩) 8 c2) 8 (zs2.map (Value.int .i64))) from R2)
    have B05 : Below ws.heap.size ws w5 := B04.trans (B5.mono B04.size)
    have O1' := (show Hid (w5.ownsRow w3.heap.size 3 1 (.slice (some ⟨g1, 0, none⟩) 8 c1) 8 (zs1.map (Value.int .i64))) from own_same O1.out B5)
    clear hz2 R2 O1
    simp only []
    go_at_K
    go_wp2
    have hsame : Hid (∀ k, k < 8 → zs2.getD k 0 = zs1.getD k 0) := fun k hk => (Z2.out.of hk).same HRT.out ((Z1.out.of hk).alike HA.out)
    go_loopw [13] (fun i wr => ∃ j : Nat, i = .int .i64 j ∧ j ≤ 8 ∧ Below w5.heap.size w5 wr) (fun i _ => 8 - (intOf i).toNat)
    case atStart => exact ⟨0, rfl, by omega, Below.refl _ _⟩
    case round =>
      obtain ⟨j, rfl, hj, hB⟩ := hrel
      by_cases hlt : j < 8
      · have x1 := row_cell (own_same O1'.out hB) hlt
        have x2 := row_cell (own_same O2.out hB) hlt
        rw [hsame.out j hlt] at x2
        generalize zs1.getD j 0 = q at x1 x2
        have hjI : (j : Int) < 8 := by omega
        go_wp2
        exact ⟨⟨j + 1, by simp, by omega, hB⟩, by simp [intOf]; omega⟩
      · obtain rfl : j = 8 := by omega
        have B06 : Below ws.heap.size ws wr := B05.trans (hB.mono B05.size)
        go_wp2_with (first
          | (go_at_call 18; refine (klogs_ok (Logs.below (Logs.below (Logs.below (Logs.below HT.out B3) B4) B5) hB) (Logs.below HS.out B06) (Alike.symm HA.out) (by omega) (fun i h => by have := (HRT.out.1 i h).2.2.2.2.1; omega)).mono ?_; rintro ev w7 ⟨rfl, B7⟩)
          | (go_at_call 27; refine (wakes25_ok _).mono ?_; rintro ev w8 ⟨rfl, B8⟩))
        go_ret
        exact ⟨rfl, (B06.trans (B7.mono B06.size)).trans (B8.mono (Nat.le_trans B06.size B7.size))⟩
  · have HF := (show Hid (FreshL S c body T) from hF)
    have HT := (show Hid (Logs w2 v' T) from hl)
    have HRT := (show Hid (Right T) from hF.right)
    have HHD := (show Hid (HadOf S c (seq - 1)) from hh)
    have hTl : T.length ≤ 8 := hF.right.len
    obtain ⟨hc0, hc8, hb0, hb1⟩ := hm
    obtain ⟨cl, rfl⟩ : ∃ k : Nat, c = k := ⟨c.toNat, by omega⟩
    have hbd := hh.bounds HR.out
    have hcl : cl < 8 := by omega
    clear hF hl hh
    simp only []
    go_at_K
    go_wp2_with (first
      | (go_at_call 11; refine (check_yes HT.out (by omega) HRT.out).mono ?_; rintro ev w3 ⟨rfl, B3⟩
         have B03 : Below ws.heap.size ws w3 := B02.trans (B3.mono B02.size))
      | (go_at_call 14; fail))
    refine Calls.mono (have_row (Logs.below HS.out B03) (by omega) HR.out) ?_
    rintro ev w4 ⟨g1, c1, zs1, rfl, hz1, R1, B4⟩
    have Z1 := (show Hid (HaveR S S.length zs1) from hz1)
    have O1 := (show Hid (w4.ownsRow w3.heap.size 3 1 (.slice (some ⟨g1, 0, none⟩) 8 c1) 8 (zs1.map (Value.int .i64))) from R1)
    have B04 : Below ws.heap.size ws w4 := B03.trans (B4.mono B03.size)
    clear hz1 R1
    simp only []
    go_at_K
    go_wp2_with (first | (go_at_call 14; fail))
    refine Calls.mono (have_row (Logs.below (Logs.below HT.out B3) B4) (by omega) HRT.out) ?_
    rintro ev w5 ⟨g2, c2, zs2, rfl, hz2, R2, B5⟩
    have Z2 := (show Hid (HaveR T T.length zs2) from hz2)
    have O2 := (show Hid (w5.ownsRow w4.heap.size 3 1 (.slice (some ⟨g2, 0, none⟩) 8 c2) 8 (zs2.map (Value.int .i64))) from R2)
    have B05 : Below ws.heap.size ws w5 := B04.trans (B5.mono B04.size)
    have O1' := (show Hid (w5.ownsRow w3.heap.size 3 1 (.slice (some ⟨g1, 0, none⟩) 8 c1) 8 (zs1.map (Value.int .i64))) from own_same O1.out B5)
    clear hz2 R2 O1
    simp only []
    go_at_K
    go_wp2
    have hsame : Hid (∀ k : Nat, k < 8 → zs2.getD k 0 = zs1.getD k 0 + if (k : Int) = cl then 1 else 0) := fun k hk => (Z2.out.of hk).same HRT.out (HF.out.had _ _ (Z1.out.of hk))
    have hb : Hid (∀ k : Nat, k < 8 → 0 ≤ zs1.getD k 0 ∧ zs1.getD k 0 ≤ 2000000000) := fun k hk => (Z1.out.of hk).bounds HR.out
    have Z05 : w5.cell? ⟨ws.heap.size, 0, none⟩ = some (.int .i64 cl) := (B5.cell (p := ⟨ws.heap.size, 0, none⟩) (show ws.heap.size < w4.heap.size by have := B3.size; have := B4.size; omega)).trans ((B4.cell (p := ⟨ws.heap.size, 0, none⟩) (show ws.heap.size < w3.heap.size by have := B3.size; omega)).trans ((B3.cell (p := ⟨ws.heap.size, 0, none⟩) (show ws.heap.size < w2.heap.size by omega)).trans z0))
    have hlt5 : ws.heap.size < w5.heap.size := by have := B3.size; have := B4.size; have := B5.size; omega
    go_loopw [13] (fun i wr => ∃ j : Nat, i = .int .i64 j ∧ j ≤ 8 ∧ Below w5.heap.size w5 wr) (fun i _ => 8 - (intOf i).toNat)
    case atStart => exact ⟨0, rfl, by omega, Below.refl _ _⟩
    case round =>
      obtain ⟨j, rfl, hj, hB⟩ := hrel
      have x0 := (hB.cell (p := ⟨ws.heap.size, 0, none⟩) hlt5).trans Z05
      by_cases hlt : j < 8
      · have x1 := row_cell (own_same O1'.out hB) hlt
        have x2 := row_cell (own_same O2.out hB) hlt
        rw [hsame.out j hlt] at x2
        obtain ⟨hq0, hq1⟩ := hb.out j hlt
        generalize zs1.getD j 0 = q at x1 x2 hq0 hq1
        have hjI : (j : Int) < 8 := by omega
        by_cases he : j = cl
        · subst he
          rw [if_pos rfl] at x2
          go_wp2
          exact ⟨⟨j + 1, by simp, by omega, hB⟩, by simp [intOf]; omega⟩
        · have he' : ¬ ((j : Int) = cl) := by omega
          rw [if_neg he', Int.add_zero] at x2
          go_wp2
          exact ⟨⟨j + 1, by simp, by omega, hB⟩, by simp [intOf]; omega⟩
      · have e8 : (j : Int) = 8 := by omega
        rw [e8]
        have B06 : Below ws.heap.size ws wr := B05.trans (hB.mono B05.size)
        have hw : IntKind.i64.wrap (seq - 1) = seq - 1 := IntWalk.i64_in _ (by omega)
        have R2 := own_same O2.out hB
        have q2 := row_cell R2 hcl
        have q3 := World.ownsRow.frozenAt R2 cl
        have hclI : (cl : Int) < 8 := by omega
        obtain ⟨hg2, hg2'⟩ := own_block R2 (k := g2) rfl
        have R2' := (show Hid _ from (World.ownsRow.stored R2 cl (.int .i64 (seq - 1))).1)
        rw [int_set] at R2'
        have L7 := (show Hid (Logs (wr.setCell ⟨g2, cl, none⟩ (.int .i64 (seq - 1))) v' T) from Logs.below (Logs.below (Logs.below HT.out B3) B4) ((B5.trans (hB.mono B5.size)).setCell hg2 _))
        have L8 := (show Hid (Logs (wr.setCell ⟨g2, cl, none⟩ (.int .i64 (seq - 1))) (.slice p n cc) S) from Logs.below (Logs.below HS.out B04) ((B5.trans (hB.mono B5.size)).setCell hg2 _))
        have B07 := (B04.trans ((B5.trans (hB.mono B5.size)).mono B04.size)).setCell (p := ⟨g2, cl, none⟩) (Nat.le_trans B04.size hg2) (.int .i64 (seq - 1))
        clear R2
        go_wp2_with (first | (go_at_call 22; fail))
        refine Calls.mono (want_fresh HF.out HHD.out hcl (by omega) Z2.out L7.out ((irow_of R2'.out).reads.rdw)) ?_
        rintro ev w7 ⟨rfl, B7⟩
        simp only []
        go_at_K
        go_wp2
        generalize hw8 : w7.alloc (.cells #[.int .i64 cl, .int .i64 seq, .int .i64 body] 24) = w8
        have B78 : Below ws.heap.size ws w8 := by rw [← hw8]; exact (B07.trans (B7.mono B07.size)).alloc (Nat.le_trans B07.size B7.size) _
        have LT8 := (show Hid (Logs w8 v' T) from by rw [← hw8]; exact (L7.out.below B7).below ((Below.refl _ w7).alloc (Nat.le_refl _) _))
        have LS8 := (show Hid (Logs w8 (.slice p n cc) S) from by rw [← hw8]; exact (L8.out.below B7).below ((Below.refl _ w7).alloc (Nat.le_refl _) _))
        have m0 : w8.cell? ⟨w7.heap.size, 0, none⟩ = some (.int .i64 cl) := by rw [← hw8]; simp [go_sem]
        have m1 : w8.cell? ⟨w7.heap.size, 1, none⟩ = some (.int .i64 seq) := by rw [← hw8]; simp [go_sem]
        have m2 : w8.cell? ⟨w7.heap.size, 2, none⟩ = some (.int .i64 body) := by rw [← hw8]; simp [go_sem]
        have m3 : w7.heap.size < w8.heap.size := by rw [← hw8]; simp
        have B28 : Below w2.heap.size w2 w8 := by
          rw [← hw8]
          have b4 : Below w2.heap.size w2 w4 := B3.trans (B4.mono B3.size)
          have b5 : Below w2.heap.size w2 (wr.setCell ⟨g2, cl, none⟩ (.int .i64 (seq - 1))) := (b4.trans ((B5.trans (hB.mono B5.size)).mono b4.size)).setCell (p := ⟨g2, cl, none⟩) (Nat.le_trans b4.size hg2) _
          exact (b5.trans (B7.mono b5.size)).alloc (Nat.le_trans b5.size B7.size) _
        have hlt0 : ws.heap.size < w2.heap.size := by omega
        have Z08 := (B28.cell (p := ⟨ws.heap.size, 0, none⟩) hlt0).trans z0
        have Z28 := (B28.cell (p := ⟨ws.heap.size, 2, none⟩) hlt0).trans z2
        have hlt8 : ws.heap.size < w8.heap.size := Nat.lt_of_lt_of_le hlt0 B28.size
        clear hw8 B7 L7 L8 R2' B06 x0 B28
        obtain ⟨pt, ct, rfl, _⟩ := (show ∃ pt ct, v' = .slice pt T.length ct ∧ True from by obtain ⟨pt, ct, h, _⟩ := LT8.out; exact ⟨pt, ct, h, trivial⟩)
        go_loopw [18] (fun i wx => ∃ a : Nat, i = .int .i64 a ∧ a ≤ n ∧ Below w8.heap.size w8 wx) (fun i _ => n - (intOf i).toNat)
        case atStart => exact ⟨0, rfl, by omega, Below.refl _ _⟩
        case round =>
          obtain ⟨a, rfl, ha, hBx⟩ := hrel
          by_cases hlt2 : a < n
          · have haI : (a : Int) < n := by omega
            go_wp2
            go_loopw [19] (fun i wy => ∃ e : Nat, i = .int .i64 e ∧ e ≤ T.length ∧ Below w8.heap.size w8 wy) (fun i _ => T.length - (intOf i).toNat)
            case atStart => exact ⟨0, rfl, by omega, hBx⟩
            case round =>
              obtain ⟨e, rfl, he, hBy⟩ := hrel
              by_cases hlt3 : e < T.length
              · obtain ⟨b, o, k, m, q, c4, xs, rfl, hb0, hsj, hst0⟩ := logs_at LS8.out (j := a) (by omega)
                obtain ⟨b', o', k', m', q', c4', ys, rfl, hb0', hsj', hst0'⟩ := logs_at LT8.out (j := e) hlt3
                have hkeep := HF.out.keep a e _ _ hsj hsj'
                have hnc := hst0'.nilc.2 _ _ _ rfl
                have hxl := right_ok' HR.out hsj
                have hyl := right_ok' HRT.out hsj'
                have hst := hst0.below hb0 hBy
                have hst' := hst0'.below hb0' hBy
                have hb := Nat.lt_of_lt_of_le hb0 hBy.size
                have hb' := Nat.lt_of_lt_of_le hb0' hBy.size
                have x0 := hst.c
                have x1 := hst.b
                have x2 := hst.v
                have y0 := hst'.c
                have y1 := hst'.b
                have y2 := hst'.v
                simp only at x0 x1 x2 y0 y1 y2 hkeep hnc hxl hyl
                have hxl2 := hxl.2.2.2.2.1
                have hyl2 := hyl.2.2.2.2.1
                have hr := (show Hid (RdW wr (.slice q xs.length c4) xs) from hst.args)
                have hr' := (show Hid (RdW wr (.slice q' ys.length c4') ys) from hst'.args)
                have haI : (a : Int) < n := by omega
                have heI : (e : Int) < T.length := by omega
                clear hst hst' hst0 hst0' hsj hsj' hxl hyl
                by_cases hk : k = k'
                · obtain ⟨rfl, r, rfl⟩ := hkeep hk
                  subst hk
                  have hpre := (show Hid (RdW wr (.slice q' xs.length c4') xs) from rdw_pre hr'.out)
                  clear hkeep hr'
                  rw [List.length_append] at hnc hyl2 y2
                  generalize hnx : xs.length = nx at *
                  generalize hny : nx + r.length = ny at *
                  have hnn : nx ≤ ny := by omega
                  have hnnI : (nx : Int) ≤ ny := by omega
                  have hncI : (nx : Int) ≤ c4' := by omega
                  have hd : decide (ny < nx) = false := by simp; omega
                  clear HF HHD HR HRT z0 z1 z2 B0 B02 BA B3 B03 B4 Z1 B04 B5 Z2 O2 B05 O1' hsame Z05 hlt5 hw q2 q3 hg2 hg2' B07 B78 m0 m1 m2 m3 hlt0 Z08 Z28 hlt8 hBx HS HT LS8 LT8
                  go_wp2
                  go_region_held3 (fun w' => w'.cell? ⟨b, o + a * 3, none⟩ = some (.int .i64 k) ∧ w'.cell? ⟨b, o + a * 3 + 1, none⟩ = some (.int .i64 m) ∧ w'.cell? ⟨b, o + a * 3 + 2, none⟩ = some (.slice q nx c4) ∧ w'.cell? ⟨b', o' + e * 3, none⟩ = some (.int .i64 k) ∧ w'.cell? ⟨b', o' + e * 3 + 1, none⟩ = some (.int .i64 m) ∧ w'.cell? ⟨b', o' + e * 3 + 2, none⟩ = some (.slice q' ny c4'))
                    (first | exact ⟨x0, x1, x2, y0, y1, y2⟩ | exact ⟨v0, v1, v2, u0, u1, u2⟩)
                    (first | (go_at_call 13; refine (ints_same' (w := wr.drew) hnx (by omega) hpre.out hr.out).mono ?_; rintro ev w9 ⟨rfl, B9⟩; have v0 := (B9.cell (p := ⟨b, o + a * 3, none⟩) hb).trans x0; have v1 := (B9.cell (p := ⟨b, o + a * 3 + 1, none⟩) hb).trans x1; have v2 := (B9.cell (p := ⟨b, o + a * 3 + 2, none⟩) hb).trans x2; have u0 := (B9.cell (p := ⟨b', o' + e * 3, none⟩) hb').trans y0; have u1 := (B9.cell (p := ⟨b', o' + e * 3 + 1, none⟩) hb').trans y1; have u2 := (B9.cell (p := ⟨b', o' + e * 3 + 2, none⟩) hb').trans y2))
                  simp only [Exit.then]
                  go_at_K
                  go_wp2
                  exact ⟨⟨e + 1, by simp, by omega, hBy.drew.trans (B9.mono hBy.size)⟩, by simp [intOf]; omega⟩
                · clear hkeep
                  have hd1 : decide (k = k') = false := by simp [hk]
                  have hd2 : (k == k') = false := by simp [hk]
                  clear HF HHD HR HRT z0 z1 z2 B0 B02 BA B3 B03 B4 Z1 B04 B5 Z2 O2 B05 O1' hsame Z05 hlt5 hw q2 q3 hg2 hg2' B07 B78 m0 m1 m2 m3 hlt0 Z08 Z28 hlt8 hBx HS HT LS8 LT8
                  go_wp2
                  go_quiet (fail)
                  simp only [Exit.then]
                  go_at_K
                  go_wp2
                  exact ⟨⟨e + 1, by simp, by omega, below_drewN hBy _⟩, by simp [intOf]; omega⟩
              · obtain rfl : e = T.length := by omega
                go_wp2
                exact ⟨⟨a + 1, by simp, by omega, hBy⟩, by simp [intOf]; omega⟩
          · obtain rfl : a = n := by omega
            have v0 := (hBx.cell (p := ⟨ws.heap.size, 0, none⟩) hlt8).trans Z08
            have v2 := (hBx.cell (p := ⟨ws.heap.size, 2, none⟩) hlt8).trans Z28
            have u0 := (hBx.cell (p := ⟨w7.heap.size, 0, none⟩) m3).trans m0
            have u1 := (hBx.cell (p := ⟨w7.heap.size, 1, none⟩) m3).trans m1
            have u2 := (hBx.cell (p := ⟨w7.heap.size, 2, none⟩) m3).trans m2
            have B89 := B78.trans (hBx.mono B78.size)
            go_wp2_with (first | (go_at_call 27; refine (wakes25_ok _).mono ?_; rintro ev w9 ⟨rfl, B9⟩))
            go_ret
            exact ⟨rfl, B89.trans (B9.mono B89.size)⟩
end Go.Proofs.Ytcpcnjblojoppaa
