/-
  TERMBENEATH: the walk. Own work.
-/
import Derived.Test.YtehkfgjnapjefaaSPs
namespace Go.Proofs.Ytehkfgjnapjefaa
open Go.RowKit Go.Maps
set_option maxRecDepth 100000
theorem ben_one {w wr : World} {aa : Nat} {L : List Tm} (T : One w wr aa L) {i : Nat} (hi : i < L.length) : Calls Try.prog 26 #[.pointer (some ⟨aa, 0, none⟩), .int .i64 i] wr fun e w' => ∃ p c, e = .returned (.tuple #[.slice p (benOf L i).length c, .int .i64 0]) ∧ w'.ownsRow wr.heap.size 3 1 (.slice p (benOf L i).length c) (benOf L i).length ((benOf L i).map (Value.int .i64)) ∧ Below wr.heap.size wr w' ∧ One w w' aa L := by
  obtain ⟨Fa, A, r⟩ := T.ex
  refine (beneath_in A A.wf.len i hi).mono ?_
  rintro e w' ⟨p, c, rfl, hown, hB⟩
  exact ⟨p, c, rfl, hown, hB, T.step hB⟩
theorem emod_nat {L : List Tm} {i : Int} (hne : L ≠ []) : ∃ k1 : Nat, i % (L.length : Int) = k1 ∧ k1 < L.length := by
  have hpos := List.length_pos_iff.2 hne
  have h1 := Int.emod_nonneg i (b := (L.length : Int)) (by omega)
  have h2 := Int.emod_lt_of_pos i (b := (L.length : Int)) (by omega)
  exact ⟨(i % (L.length : Int)).toNat, by omega, by omega⟩
theorem rdw_at {w : World} {p : Option Addr} {n c t : Nat} {xs : List Int} (h : RdW w (.slice p n c) xs) (ht : t < xs.length) : ∃ b o, p = some ⟨b, o, none⟩ ∧ b < w.heap.size ∧ w.cell? ⟨b, o + t, none⟩ = some (.int .i64 (xs.getD t 0)) := by
  obtain ⟨p', c', e, h⟩ := h
  cases e
  rcases h with rfl | ⟨b, o, rfl, hb, hc⟩
  · cases ht
  · exact ⟨b, o, rfl, hb, hc t ht⟩
theorem own_below {w w' : World} {base e size n : Nat} {v : Value} {ys : List Value} {B : Nat} (h : w.ownsRow base e size v n ys) (hB : Below B w w') (hk : ∀ k, v.ownBlock = some k → k < B) : w'.ownsRow base e size v n ys := row_keeps (F := fun k => B ≤ k) h ⟨hB.os, hB.tape, hB.output, hB.size, fun k h1 h2 => hB.block k (by omega)⟩ (fun k h1 h2 => by have := hk k h1; omega)
attribute [local go_sem ↓] Go.wp_at_zero Go.wp_at_succ
set_option maxHeartbeats 8000000 in
theorem beneath_low (v : Value) (i : Int) (S : List St) (w : World) (H1 : Hid (Steps w v S)) : Calls Try.prog 7 #[v, .int .i64 i] w fun e w' => e = .returned (.bool true) ∧ Below w.heap.size w w' := by
  obtain ⟨b0, hb, hb0, hb1, hb2⟩ := info_parts (P := Try.prog) (e := 4) (z := .bool false) (size := 1) (bytes := 1) (by kernel_rfl)
  obtain ⟨i0, hi', hz0, hz1, hz2⟩ := info_parts (P := Try.prog) (e := 3) (z := .int .i64 0) (size := 1) (bytes := 8) (by kernel_rfl)
  go_enter Try.func7, Try.ntmps7
  go_wp2_with (first
    | (go_at_call 11; refine (heavy_ok H1.out).mono ?_; rintro ev w ⟨rfl, r1, rfl, hr⟩; have R1 := (show Hid _ from hr); clear hr)
    | (go_at_call 12; refine (build_ok H1.out (R1.out (by first | assumption | simpa using ‹¬ r1 = true›)).2).mono ?_; rintro ev w1 ⟨aa, bb, L, rfl, T, hL⟩; have O := T.one; clear T R1)
    | (go_at_call 28; refine (len_one O).mono ?_; rintro ev w' ⟨rfl, rfl⟩)
    | (go_at_call 17; refine (wakes_ok _).mono ?_; rintro ev w6 ⟨rfl, B6⟩)
    | (go_at_call 13; obtain ⟨k1, hk1, hk2⟩ := emod_nat (L := L) (i := i) (by assumption); simp only [hk1]; obtain ⟨⟨k, m, xs⟩, hat⟩ : ∃ t, L[k1]? = some t := ⟨_, List.getElem?_eq_getElem hk2⟩; refine (node_one O hat).mono ?_; rintro ev w2 ⟨p, c, rfl, hown, B2, O2⟩; have HAT := (show Hid _ from hat); have HOW := (show Hid _ from hown); clear hat hown O B2)
    | (go_at_call 26; refine (ben_one (O2.alloc _) hk2).mono ?_; rintro ev w3 ⟨px, cx, rfl, ox, B3, O3⟩; have OX := (show Hid _ from ox); clear ox O2)
    | (go_at_call 28; refine (len_one O3).mono ?_; rintro ev w3 ⟨rfl, rfl⟩)
    | (at_make; refine wpList_make_full _ rfl _ _ 53 rfl w3.heap.size 4 b0 (.bool false) 1 Try.underlying53 hb hb0 hb1 .i64 .i64 _ _ L.length rfl rfl rfl rfl (by rw [hb2]; omega) (by unfold maxLen; omega) (Nat.le_refl _) ?_; intro w4 hown4 hgrow4
       have hm : (madeCells (Value.bool false).cells (L.length * 1)).toList = (List.replicate L.length false).map Value.bool := by
         rw [Nat.mul_one]
         exact (toList_madeCells_one (.bool false) L.length).trans (by simp)
       rw [hm] at hown4
       have c4 : w4.cell? ⟨w3.heap.size, k1, none⟩ = some (.bool false) := (World.ownsRow.cellAt hown4 k1 (by omega)).trans (by simp [hk2])
       have f4 := World.ownsRow.frozenAt hown4 k1
       have hk3 : (k1 : Int) < (L.length : Int) := by omega
       clear hm))
  · go_ret
    exact ⟨rfl, Below.refl _ _⟩
  · go_ret
    exact ⟨rfl, Below.refl _ _⟩
  · go_ret
    exact ⟨rfl, O.below.trans (B6.mono O.below.size)⟩
  · exfalso
    simp_all
  have hB1 : Below w3.heap.size w3 (w4.setCell ⟨w3.heap.size, k1, none⟩ (.bool true)) := ((Below.refl _ w3).grown hgrow4 (Nat.le_refl _) (fun _ h => by cases h)).setCell (p := ⟨w3.heap.size, k1, none⟩) (Nat.le_refl _) _
  have s1 := (World.ownsRow.stored hown4 k1 (.bool true)).1
  rw [← List.map_set] at s1
  have HS1 := (show Hid ((w4.setCell ⟨w3.heap.size, k1, none⟩ (.bool true)).ownsRow w3.heap.size 4 1 (.slice (some ⟨w3.heap.size, 0, none⟩) L.length L.length) L.length ((wantFrom L ((List.replicate L.length false).set k1 true) (xs.take 0)).map Value.bool)) from s1)
  have y8 : w3.cell? ⟨w2.heap.size, 2, none⟩ = some (.slice p xs.length c) := (B3.cell (p := ⟨w2.heap.size, 2, none⟩) (by simp)).trans (by simp [go_sem])
  have hz8 : w2.heap.size < w3.heap.size := by have := B3.size; simp at this; omega
  have hrd : RdW w3 (.slice p xs.length c) xs := ((irow_of HOW.out).reads.rdw.alloc _).below B3
  have HRD := (show Hid _ from hrd)
  have hin : RdW w3 (.slice px (benOf L k1).length cx) (benOf L k1) := (irow_of OX.out).reads.rdw
  have HIN := (show Hid _ from hin)
  have HWF := (show Hid _ from O3.wf)
  have hx4 : xs.length ≤ 400 := by
    obtain ⟨hlt, hge⟩ := List.getElem?_eq_some_iff.1 HAT.out
    have := (shape_k (O3.wf.good k1 hlt).1).2.2.2
    rw [hge] at this
    exact this
  clear hown4 c4 f4 s1 hgrow4 B3 HOW OX hin hrd
  generalize w4.setCell ⟨w3.heap.size, k1, none⟩ (.bool true) = w5 at *
  generalize w2.heap.size = h8 at *
  have hl0 : ((List.replicate L.length false).set k1 true).length = L.length := by simp
  have hfold : ∀ q, (wantFrom L ((List.replicate L.length false).set k1 true) (xs.take q)).length = L.length := fun q => (wantFrom_len _ _ _).trans hl0
  have HFO := (show Hid _ from hfold)
  clear hfold hl0
  go_loopw [13] (fun v wr => ∃ t : Nat, v = .int .i64 t ∧ t ≤ xs.length ∧ wr.ownsRow w3.heap.size 4 1 (.slice (some ⟨w3.heap.size, 0, none⟩) L.length L.length) L.length ((wantFrom L ((List.replicate L.length false).set k1 true) (xs.take t)).map Value.bool) ∧ Below w3.heap.size w3 wr) (fun v _ => xs.length - (intOf v).toNat)
  case atStart => exact ⟨0, rfl, by omega, HS1.out, hB1⟩
  case round =>
    obtain ⟨t, rfl, ht, hrow, hB⟩ := hrel
    have HR := (show Hid _ from hrow)
    clear hrow
    have y9 := (hB.cell (p := ⟨h8, 2, none⟩) hz8).trans y8
    by_cases htl : t < xs.length
    · obtain ⟨bq, oq, rfl, hbq, hcq⟩ := rdw_at HRD.out htl
      have hcell := (hB.cell (p := ⟨bq, oq + t, none⟩) hbq).trans hcq
      obtain ⟨hx0, hx1⟩ := arg_in HWF.out HAT.out htl
      obtain ⟨xn, hxn⟩ : ∃ xn : Nat, xs.getD t 0 = xn := ⟨(xs.getD t 0).toNat, by omega⟩
      rw [hxn] at hcell hx1
      have hxL : xn < L.length := by omega
      have HXN := (show Hid _ from hxn)
      clear hcq hxn hx0 hx1
      go_wp2_with (first
        | (go_at_call 26; refine (ben_one (O3.step hB) hxL).mono ?_; rintro ev w6 ⟨py, cy, rfl, oy, B6, O6⟩; have OY := (show Hid _ from oy); clear oy O6))
      have hszr := (row_base HR.out (k := w3.heap.size) rfl).2
      have hB6 : Below w3.heap.size w3 w6 := hB.trans (B6.mono (by omega))
      have hr6 := own_step HR.out B6
      have hyl := ben_len L xn
      have hyb : ∀ q, q < (benOf L xn).length → ∃ yn : Nat, (benOf L xn).getD q 0 = yn ∧ yn < L.length := by
        intro q hq
        have hmem : (benOf L xn).getD q 0 ∈ benOf L xn := by
          rw [List.getD_eq_getElem?_getD, List.getElem?_eq_getElem hq]
          exact List.getElem_mem hq
        obtain ⟨z, e, hr⟩ := (mem_ben HWF.out hxL).1 hmem
        have := hr.le HWF.out hxL
        exact ⟨z, e, by omega⟩
      have hsl : (wantFrom L ((List.replicate L.length false).set k1 true) (xs.take t)).length = L.length := HFO.out t
      have HSN : Hid (wantFrom L ((List.replicate L.length false).set k1 true) (xs.take (t + 1)) = mark (wantFrom L ((List.replicate L.length false).set k1 true) (xs.take t)) (benOf L xn)) := by
        show _ = _
        rw [wantFrom_snoc htl, HXN.out, Int.toNat_natCast]
      have HR6 := (show Hid _ from hr6)
      have HYB := (show Hid _ from hyb)
      clear hyb hr6 HR y9 hcell B6
      generalize wantFrom L ((List.replicate L.length false).set k1 true) (xs.take t) = s at *
      generalize hYS : benOf L xn = ys at *
      clear hYS
      go_loopw [16] (fun v wq => ∃ q : Nat, v = .int .i64 q ∧ q ≤ ys.length ∧ wq.ownsRow w3.heap.size 4 1 (.slice (some ⟨w3.heap.size, 0, none⟩) L.length L.length) L.length ((mark s (ys.take q)).map Value.bool) ∧ wq.ownsRow wr.heap.size 3 1 (.slice py ys.length cy) ys.length (ys.map (Value.int .i64)) ∧ Below w3.heap.size w3 wq) (fun v _ => ys.length - (intOf v).toNat)
      case atStart => exact ⟨0, rfl, by omega, HR6.out, OY.out, hB6⟩
      case round =>
        obtain ⟨q, rfl, hq, hrq, hoq, hBq⟩ := hrel
        have H6 := (show Hid _ from hrq)
        have H7 := (show Hid _ from hoq)
        clear hrq hoq
        by_cases hql : q < ys.length
        · obtain ⟨by', oy', rfl, hby, hcy⟩ := rdw_at (irow_of H7.out).reads.rdw hql
          obtain ⟨yn, hyn, hynL⟩ := HYB.out q hql
          rw [hyn] at hcy
          have hc5 := World.ownsRow.cellAt H6.out yn (by omega)
          obtain ⟨bx, hbx⟩ : ∃ x, (mark s (ys.take q))[yn]? = some x := ⟨_, List.getElem?_eq_getElem (by rw [mark_len]; omega)⟩
          rw [List.getElem?_map, hbx] at hc5
          simp only [Option.map_some] at hc5
          have hf5 := World.ownsRow.frozenAt H6.out yn
          have HYN := (show Hid _ from hyn)
          clear hbx hyn
          have hyii : (yn : Int) < (L.length : Int) := by omega
          go_wp2
          have s5 := World.ownsRow.stored H6.out yn (.bool true)
          rw [← List.map_set] at s5
          refine ⟨⟨q + 1, by simp, by omega, ?_, World.ownsRow.kept H7.out s5.2 ?_, hBq.setCell (p := ⟨w3.heap.size, yn, none⟩) (Nat.le_refl _) _⟩, by simp [intOf]; omega⟩
          · rw [mark_snoc hql, HYN.out, Int.toNat_natCast]
            exact s5.1
          · exact .inr (fun e => by have := (row_base H7.out e).1; omega)
        · go_wp2
          have h6 := H6.out
          rw [List.take_of_length_le (by omega)] at h6
          refine ⟨⟨t + 1, by simp, by omega, ?_, hBq⟩, by simp [intOf]; omega⟩
          rw [HSN.out]
          exact h6
    · go_wp2
      have hfin := HR.out
      rw [List.take_of_length_le (by omega)] at hfin
      have HF := (show Hid _ from hfin)
      have hsl : (wantFrom L ((List.replicate L.length false).set k1 true) xs).length = L.length := by
        have := HFO.out xs.length
        rwa [List.take_of_length_le (by omega)] at this
      have hwb : (((List.range L.length).filter fun q => (wantFrom L ((List.replicate L.length false).set k1 true) xs).getD q false).map fun (q : Nat) => (q : Int)) = benOf L k1 := want_ben HWF.out hk2 (by rw [tmAt_nat hk2, (List.getElem?_eq_some_iff.1 HAT.out).2])
      have HWB := (show Hid _ from hwb)
      clear hfin HR y9 hwb HS1 y8 HRD
      generalize wantFrom L ((List.replicate L.length false).set k1 true) xs = s at *
      have hszr := (row_base HF.out (k := w3.heap.size) rfl).2
      clear hB1
      go_loopw [17, 18] (fun v u wq => ∃ (q : Nat) (outs : List Int) (p : Option Addr) (c : Nat), u = .int .i64 q ∧ q ≤ L.length ∧ v = .slice p outs.length c ∧ outs.length ≤ q ∧ outs = ((List.range q).filter fun z => s.getD z false).map (fun (z : Nat) => (z : Int)) ∧ wq.ownsRow w3.heap.size 4 1 (.slice (some ⟨w3.heap.size, 0, none⟩) L.length L.length) L.length (s.map Value.bool) ∧ wq.ownsRow (w3.heap.size + 1) 3 1 (.slice p outs.length c) outs.length (outs.map (Value.int .i64)) ∧ Below w3.heap.size w3 wq) (fun _ u _ => L.length - (intOf u).toNat)
      case atStart => exact ⟨0, [], none, 0, rfl, by omega, rfl, by simp, rfl, HF.out, World.ownsRow_nil _ _ _ _, hB⟩
      case round =>
        obtain ⟨q, outs, p', c', rfl, hq, rfl, hol, hout, hrq, hoq, hBq⟩ := hrel
        have H6 := (show Hid _ from hrq)
        have H7 := (show Hid _ from hoq)
        have H8 := (show Hid _ from hout)
        clear hrq hoq hout
        by_cases hql : q < L.length
        · have hc := World.ownsRow.cellAt H6.out q (by omega)
          obtain ⟨bx, hbx⟩ : ∃ x, s[q]? = some x := ⟨_, List.getElem?_eq_getElem (by omega)⟩
          rw [List.getElem?_map, hbx] at hc
          simp only [Option.map_some] at hc
          have hg : s.getD q false = bx := by rw [List.getD_eq_getElem?_getD, hbx]; rfl
          have HG := (show Hid _ from hg)
          clear hbx hg
          cases bx with
          | false =>
            go_wp2
            refine ⟨⟨q + 1, outs, p', c', by simp, by omega, rfl, by omega, ?_, H6.out, H7.out, hBq⟩, by simp [intOf]; omega⟩
            rw [List.range_succ, List.filter_append, List.map_append, ← H8.out]
            have hgg := HG.out
            rw [List.getD_eq_getElem?_getD] at hgg
            simp [hgg]
          | true =>
            go_wp2_with (at_builtin; refine wpList_append_own _ rfl (.tmp 106) (.tmp 108) 31 rfl (w3.heap.size + 1) 3 i0 (.int .i64 0) 1 8 Try.underlying31 hi' hz0 hz1 hz2 rfl (by decide) (.slice p' outs.length c') outs.length _ rfl (World.ownsRow.alloc H7.out _) ⟨wr.heap.size, 0, none⟩ 1 1 [.int .i64 q] rfl rfl (news1 _ _ _) (fun u hu => by simp at hu; subst hu; rfl) (by unfold maxLen; omega) (by omega) (by have := (row_base H6.out (k := w3.heap.size) rfl).2; simp; omega) ?_; intro v7 w7 hown7 hgrow7 _)
            obtain ⟨p8, c8, rfl⟩ := row_slice hown7
            have hBr := (row_base H6.out (k := w3.heap.size) rfl).2
            have hB7 : Below w3.heap.size w3 w7 := (hBq.alloc hBq.size _).grown hgrow7 (by simp; omega) (fun k hk => by have := (row_base H7.out hk).1; omega)
            have hrow7 : w7.ownsRow w3.heap.size 4 1 (.slice (some ⟨w3.heap.size, 0, none⟩) L.length L.length) L.length (s.map Value.bool) := World.ownsRow.kept (World.ownsRow.alloc H6.out _) hgrow7 (.inr (fun e => by have := (row_base H7.out (k := w3.heap.size) e.symm).1; omega))
            have hlen1 : (outs ++ [(q : Int)]).length = outs.length + 1 := by simp
            have hgg := HG.out
            rw [List.getD_eq_getElem?_getD] at hgg
            refine ⟨⟨q + 1, outs ++ [(q : Int)], p8, c8, by simp, by omega, by rw [hlen1], by rw [hlen1]; omega, ?_, hrow7, ?_, hB7⟩, by simp [intOf]; omega⟩
            · rw [List.range_succ, List.filter_append, List.map_append, ← H8.out]
              simp [hgg]
            · rw [List.map_append, hlen1]
              exact hown7
        · obtain rfl : q = L.length := by omega
          have houts : outs = benOf L k1 := H8.out.trans HWB.out
          subst houts
          have hbl := ben_len L k1
          go_wp2_with (first
            | (go_at_call 21; refine (ints_ok (by omega) (RdW.below HIN.out hBq) (irow_of H7.out).reads.rdw).mono ?_; rintro ev w8 ⟨rfl, B8⟩; rw [show decide (benOf L k1 = benOf L k1) = true from decide_eq_true rfl]; clear H7)
            | (go_at_call 17; refine (wakes_ok _).mono ?_; rintro ev w9 ⟨rfl, B9⟩))
          go_ret
          refine ⟨rfl, ?_⟩
          have hs0 := O3.below.size
          have hs1 := hBq.size
          have hs2 := B8.size
          exact O3.below.trans ((hBq.mono hs0).trans ((B8.mono (by omega)).trans (B9.mono (by omega))))
end Go.Proofs.Ytehkfgjnapjefaa
