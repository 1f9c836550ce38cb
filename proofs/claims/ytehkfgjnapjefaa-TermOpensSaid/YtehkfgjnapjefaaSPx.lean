/-
  THE PAGE's ARENA: Beneath. Own work.
-/
import Derived.Test.YtehkfgjnapjefaaSPw
import Derived.Test.YtehkfgjnapjefaaSPs
namespace Go.Proofs.Ytehkfgjnapjefaa
open Go.RowKit Go.Maps
set_option maxRecDepth 100000
def pdown (L : List Tm) : Nat → List Bool → List Bool
  | 0, s => s
  | j + 1, s => if s.getD j false = true then pdown L j (mark s (tmAt L j).2.2) else pdown L j s
theorem pdown_len (L : List Tm) : ∀ (n : Nat) (s : List Bool), (pdown L n s).length = s.length
  | 0, _ => rfl
  | n + 1, s => by
    rw [pdown]
    split
    · rw [pdown_len L n, mark_len]
    · exact pdown_len L n s
theorem mark_keeps {s : List Bool} {xs : List Int} {q : Nat} (h : s.getD q false = true) : (mark s xs).getD q false = true := by
  have hq : q < s.length := by
    rw [List.getD_eq_getElem?_getD] at h
    rcases Nat.lt_or_ge q s.length with h1 | h1
    · exact h1
    · rw [List.getElem?_eq_none h1] at h
      cases h
  exact (mark_at xs s q hq).2 (.inl h)
theorem pdown_at {L : List Tm} (h : Wf L) : ∀ (n : Nat) (s : List Bool) (q : Nat), n ≤ L.length → s.length = L.length → q < L.length → ((pdown L n s).getD q false = true ↔ s.getD q false = true ∨ ∃ p, p < n ∧ s.getD p false = true ∧ Reach L p q)
  | 0, s, q, _, _, _ => by simp [pdown]
  | n + 1, s, q, hn, hs, hq => by
    rw [pdown]
    by_cases hc : s.getD n false = true
    · rw [if_pos hc, pdown_at h n _ q (by omega) (by rw [mark_len, hs]) hq]
      constructor
      · rintro (hm | ⟨p, hp, hm, hr⟩)
        · rcases (mark_at _ s q (by omega)).1 hm with hm | ⟨x, hx, hxq⟩
          · exact .inl hm
          · have hx0 := (args_lt h (by omega) hx).1
            refine .inr ⟨n, by omega, hc, .step (x := q) ?_ (.refl _)⟩
            rw [← hxq, Int.toNat_of_nonneg hx0]
            exact hx
        · rcases (mark_at _ s p (by omega)).1 hm with hm | ⟨x, hx, hxp⟩
          · exact .inr ⟨p, by omega, hm, hr⟩
          · have hx0 := (args_lt h (by omega) hx).1
            refine .inr ⟨n, by omega, hc, .step (x := p) ?_ hr⟩
            rw [← hxp, Int.toNat_of_nonneg hx0]
            exact hx
      · rintro (hm | ⟨p, hp, hm, hr⟩)
        · exact .inl ((mark_at _ s q (by omega)).2 (.inl hm))
        · by_cases hpn : p < n
          · exact .inr ⟨p, hpn, (mark_at _ s p (by omega)).2 (.inl hm), hr⟩
          · obtain rfl : p = n := by omega
            cases hr with
            | refl => exact .inl ((mark_at _ s _ (by omega)).2 (.inl hc))
            | step hx hr =>
              rename_i x
              have hxl := (args_lt h (by omega) hx).2
              exact .inr ⟨x, by omega, (mark_at _ s x (by omega)).2 (.inr ⟨_, hx, by simp⟩), hr⟩
    · rw [if_neg hc, pdown_at h n s q (by omega) hs hq]
      constructor
      · rintro (hm | ⟨p, hp, hm, hr⟩)
        · exact .inl hm
        · exact .inr ⟨p, by omega, hm, hr⟩
      · rintro (hm | ⟨p, hp, hm, hr⟩)
        · exact .inl hm
        · by_cases hpn : p < n
          · exact .inr ⟨p, hpn, hm, hr⟩
          · obtain rfl : p = n := by omega
            exact absurd hm hc
def pbelow0 (L : List Tm) (i : Nat) : List Bool := (List.replicate L.length false).set i true
theorem pdown_ben {L : List Tm} (h : Wf L) {i : Nat} (hi : i < L.length) {s : List Bool} (hs : s = pdown L (i + 1) (pbelow0 L i)) : ((List.range L.length).filter fun z => s.getD z false).map (fun (z : Nat) => (z : Int)) = benOf L i := by
  subst hs
  rw [ben_reach h hi]
  have hf : ∀ q, i < q → reachB L i q = false := by
    intro q hq
    rw [Bool.eq_false_iff]
    intro hh
    have := (reachB_iff.1 hh).le h hi
    omega
  rw [← filter_more hf L.length (by omega)]
  congr 1
  apply List.filter_congr
  intro q hq
  have hqL := List.mem_range.1 hq
  have e0 : ∀ p, p < L.length → ((pbelow0 L i).getD p false = true ↔ p = i) := by
    intro p hp
    unfold pbelow0
    rw [List.getD_eq_getElem?_getD, List.getElem?_set]
    by_cases hpi : i = p
    · simp [hpi, hp]
    · rw [if_neg hpi, List.getElem?_replicate, if_pos hp]
      simp
      omega
  rw [Bool.eq_iff_iff, pdown_at h (i + 1) _ q (by omega) (by simp [pbelow0]) hqL, reachB_iff, e0 q hqL]
  constructor
  · rintro (rfl | ⟨p, hp, hm, hr⟩)
    · exact .refl _
    · rwa [(e0 p (by omega)).1 hm] at hr
  · intro hr
    exact .inr ⟨i, by omega, (e0 i hi).2 rfl, hr⟩
attribute [local go_sem ↓] Go.wp_at_zero Go.wp_at_succ
set_option maxHeartbeats 8000000 in
theorem pbeneath_low {F : Nat → Prop} {w : World} {bb : Nat} {L : List Tm} (A : Hid (PAr w bb L F)) (hmax : L.length ≤ 1000) (i : Nat) (hi : i < L.length) : Calls Try.prog 27 #[.pointer (some ⟨bb, 0, none⟩), .int .i64 i] w fun e w' => ∃ p c, e = .returned (.slice p (benOf L i).length c) ∧ w'.ownsRow w.heap.size 3 1 (.slice p (benOf L i).length c) (benOf L i).length ((benOf L i).map (Value.int .i64)) ∧ Below w.heap.size w w' := by
  obtain ⟨b0, hb, hb0, hb1, hb2⟩ := info_parts (P := Try.prog) (e := 4) (z := .bool false) (size := 1) (bytes := 1) (by kernel_rfl)
  obtain ⟨i0, hi', hz0, hz1, hz2⟩ := info_parts (P := Try.prog) (e := 3) (z := .int .i64 0) (size := 1) (bytes := 8) (by kernel_rfl)
  obtain ⟨np, cp, c0, hbb⟩ := A.out.head
  have hil : (i : Int) < L.length := by omega
  go_enter Try.func27, Try.ntmps27
  go_wp2_with (first
    | (at_make; refine wpList_make_full _ rfl _ _ 53 rfl w.heap.size 4 b0 (.bool false) 1 Try.underlying53 hb hb0 hb1 .i64 .i64 _ _ L.length rfl rfl (by omega) (by omega) (by rw [hb2]; omega) (by unfold maxLen; omega) (Nat.le_refl _) ?_; intro w1 hown1 hgrow1
       have hm : (madeCells (Value.bool false).cells (L.length * 1)).toList = (List.replicate L.length false).map Value.bool := by
         rw [Nat.mul_one]
         exact (toList_madeCells_one (.bool false) L.length).trans (by simp)
       rw [hm] at hown1
       have c1 : w1.cell? ⟨w.heap.size, i, none⟩ = some (.bool false) := (World.ownsRow.cellAt hown1 i (by omega)).trans (by simp [hi])
       have f1 := World.ownsRow.frozenAt hown1 i
       clear hm))
  have hB1 : Below w.heap.size w (w1.setCell ⟨w.heap.size, i, none⟩ (.bool true)) := ((Below.refl _ w).grown hgrow1 (Nat.le_refl _) (fun _ h => by cases h)).setCell (p := ⟨w.heap.size, i, none⟩) (Nat.le_refl _) _
  have s1 := (World.ownsRow.stored hown1 i (.bool true)).1
  rw [← List.map_set] at s1
  have hsz : w.heap.size < (w1.setCell ⟨w.heap.size, i, none⟩ (.bool true)).heap.size := (row_base s1 (k := w.heap.size) rfl).2
  have HS1 := (show Hid ((w1.setCell ⟨w.heap.size, i, none⟩ (.bool true)).ownsRow w.heap.size 4 1 (.slice (some ⟨w.heap.size, 0, none⟩) L.length L.length) L.length ((pbelow0 L i).map Value.bool)) from s1)
  clear hown1 c1 f1 s1 hgrow1
  generalize w1.setCell ⟨w.heap.size, i, none⟩ (.bool true) = w2 at *
  go_loopw [6] (fun j wr => ∃ (jj : Nat) (s : List Bool), jj ≤ i + 1 ∧ j = .int .i64 ((jj : Int) - 1) ∧ s.length = L.length ∧ wr.ownsRow w.heap.size 4 1 (.slice (some ⟨w.heap.size, 0, none⟩) L.length L.length) L.length (s.map Value.bool) ∧ Below w.heap.size w wr ∧ pdown L jj s = pdown L (i + 1) (pbelow0 L i)) (fun j _ => (intOf j + 1).toNat)
  case atStart => exact ⟨i + 1, pbelow0 L i, by omega, by simp, by simp [pbelow0], HS1.out, hB1, rfl⟩
  case round =>
    obtain ⟨jj, s, hjj, rfl, hs, hrow, hB, hinv⟩ := hrel
    have HR := (show Hid (wr.ownsRow w.heap.size 4 1 (.slice (some ⟨w.heap.size, 0, none⟩) L.length L.length) L.length (s.map Value.bool)) from hrow)
    have HI := (show Hid _ from hinv)
    clear hrow hinv
    cases jj with
    | zero =>
      have e0 : ((0 : Nat) : Int) - 1 = -1 := rfl
      rw [e0]
      go_wp2
      have hd := HI.out
      rw [pdown] at hd
      have hfin := pdown_ben A.out.wf hi hd
      have HF := (show Hid _ from hfin)
      clear hfin hd HI
      go_loopw [8, 9] (fun v u wq => ∃ (q : Nat) (outs : List Int) (p : Option Addr) (c : Nat), u = .int .i64 q ∧ q ≤ L.length ∧ v = .slice p outs.length c ∧ outs.length ≤ q ∧ outs = ((List.range q).filter fun z => s.getD z false).map (fun (z : Nat) => (z : Int)) ∧ wq.ownsRow w.heap.size 4 1 (.slice (some ⟨w.heap.size, 0, none⟩) L.length L.length) L.length (s.map Value.bool) ∧ wq.ownsRow (w.heap.size + 1) 3 1 (.slice p outs.length c) outs.length (outs.map (Value.int .i64)) ∧ Below w.heap.size w wq) (fun _ u _ => L.length - (intOf u).toNat)
      case atStart => exact ⟨0, [], none, 0, rfl, by omega, rfl, by simp, rfl, HR.out, World.ownsRow_nil _ _ _ _, hB⟩
      case round =>
        obtain ⟨q, outs, p', c', rfl, hq, rfl, hol, hout, hrq, hoq, hBq⟩ := hrel
        have H6 := (show Hid _ from hrq)
        have H7 := (show Hid _ from hoq)
        have H8 := (show Hid _ from hout)
        clear hrq hoq hout
        by_cases hql : q < L.length
        · have hc := World.ownsRow.cellAt H6.out q (by omega)
          obtain ⟨bx, hbx⟩ : ∃ x, s[q]? = some x := ⟨_, List.getElem?_eq_getElem (by omega)⟩
          rw [List.getElem?_map, hbx] at hc
          simp only [Option.map_some] at hc
          have hg : s.getD q false = bx := by rw [List.getD_eq_getElem?_getD, hbx]; rfl
          have HG := (show Hid _ from hg)
          clear hbx hg
          cases bx with
          | false =>
            go_wp2
            refine ⟨⟨q + 1, outs, p', c', by simp, by omega, rfl, by omega, ?_, H6.out, H7.out, hBq⟩, by simp [intOf]; omega⟩
            rw [List.range_succ, List.filter_append, List.map_append, ← H8.out]
            have hgg := HG.out
            rw [List.getD_eq_getElem?_getD] at hgg
            simp [hgg]
          | true =>
            go_wp2_with (at_builtin; refine wpList_append_own _ rfl (.tmp 66) (.tmp 68) 31 rfl (w.heap.size + 1) 3 i0 (.int .i64 0) 1 8 Try.underlying31 hi' hz0 hz1 hz2 rfl (by decide) (.slice p' outs.length c') outs.length _ rfl (World.ownsRow.alloc H7.out _) ⟨wr.heap.size, 0, none⟩ 1 1 [.int .i64 q] rfl rfl (news1 _ _ _) (fun u hu => by simp at hu; subst hu; rfl) (by unfold maxLen; omega) (by omega) (by have := (row_base H6.out (k := w.heap.size) rfl).2; simp; omega) ?_; intro v7 w7 hown7 hgrow7 _)
            obtain ⟨p8, c8, rfl⟩ := row_slice hown7
            have hBr := (row_base H6.out (k := w.heap.size) rfl).2
            have hB7 : Below w.heap.size w w7 := (hBq.alloc hBq.size _).grown hgrow7 (by simp; omega) (fun k hk => by have := (row_base H7.out hk).1; omega)
            have hrow7 : w7.ownsRow w.heap.size 4 1 (.slice (some ⟨w.heap.size, 0, none⟩) L.length L.length) L.length (s.map Value.bool) := World.ownsRow.kept (World.ownsRow.alloc H6.out _) hgrow7 (.inr (fun e => by have := (row_base H7.out (k := w.heap.size) e.symm).1; omega))
            have hlen1 : (outs ++ [(q : Int)]).length = outs.length + 1 := by simp
            have hgg := HG.out
            rw [List.getD_eq_getElem?_getD] at hgg
            refine ⟨⟨q + 1, outs ++ [(q : Int)], p8, c8, by simp, by omega, by rw [hlen1], by rw [hlen1]; omega, ?_, hrow7, ?_, hB7⟩, by simp [intOf]; omega⟩
            · rw [List.range_succ, List.filter_append, List.map_append, ← H8.out]
              simp [hgg]
            · rw [List.map_append, hlen1]
              exact hown7
        · obtain rfl : q = L.length := by omega
          have houts : outs = benOf L i := H8.out.trans HF.out
          subst houts
          go_wp2
          go_ret
          exact ⟨p', c', rfl, row_lower H7.out (by omega), hBq⟩
    | succ j =>
      have e1 : ((j + 1 : Nat) : Int) - 1 = (j : Int) := by omega
      rw [e1]
      have hc := World.ownsRow.cellAt HR.out j (by omega)
      obtain ⟨bj, hbj⟩ : ∃ x, s[j]? = some x := ⟨_, List.getElem?_eq_getElem (by omega)⟩
      rw [List.getElem?_map, hbj] at hc
      simp only [Option.map_some] at hc
      have HBJ := (show Hid (s[j]? = some bj) from hbj)
      clear hbj
      have hjL : j < L.length := by omega
      have hji : (j : Int) < L.length := by omega
      cases bj with
      | false =>
        go_wp2
        clear hc
        go_loopw [7] (fun q wq => q = .int .i64 0 ∧ wq = wr) (fun _ _ => 0)
        case atStart => exact ⟨rfl, rfl⟩
        case round =>
          obtain ⟨rfl, rfl⟩ := hrel
          have hc := World.ownsRow.cellAt HR.out j (by omega)
          rw [List.getElem?_map, HBJ.out] at hc
          simp only [Option.map_some] at hc
          go_wp2
          refine ⟨⟨j, s, by omega, rfl, hs, HR.out, hB, ?_⟩, by simp [intOf]⟩
          rw [← HI.out]
          have hg : s.getD j false = false := by rw [List.getD_eq_getElem?_getD, HBJ.out]; rfl
          rw [pdown, if_neg (by rw [hg]; decide)]
      | true =>
        obtain ⟨g, cp, p4, c4, x0, hab, hg, _, _, _, x2, hRd, hal⟩ := A.out.node j hjL
        have hfit := (A.out.wf.good j hjL).2.2
        have htm := tmAt_nat hjL
        generalize L[j] = tm at x2 hRd hal hfit htm
        obtain ⟨k0, n0, args⟩ := tm
        simp only at x2 hRd hal
        have HRD := (show Hid (Reads w (.slice p4 args.length c4) args) from hRd)
        have HFT := (show Hid (fitsIn j (k0, n0, args)) from hfit)
        have HTM := (show Hid (tmAt L (j : Int) = (k0, n0, args)) from htm)
        clear hRd hfit htm c0
        go_wp2
        clear hc
        go_loopw [7] (fun q wq => ∃ t : Nat, q = .int .i64 t ∧ t ≤ args.length ∧ wq.ownsRow w.heap.size 4 1 (.slice (some ⟨w.heap.size, 0, none⟩) L.length L.length) L.length ((mark s (args.take t)).map Value.bool) ∧ Below w.heap.size w wq) (fun q _ => args.length - (intOf q).toNat)
        case atStart => exact ⟨0, rfl, by omega, HR.out, hB⟩
        case round =>
          obtain ⟨t, rfl, ht, hr5, hB5⟩ := hrel
          have H6 := (show Hid _ from hr5)
          clear hr5
          have y0 := (hB5.cell (p := ⟨bb, 0, none⟩) hab).trans x0
          have y2 := (hB5.cell (p := ⟨g, j * 3 + 2, none⟩) hg).trans x2
          have hcj := World.ownsRow.cellAt H6.out j (by omega)
          have hgj : (mark s (args.take t)).getD j false = true := mark_keeps (by rw [List.getD_eq_getElem?_getD, HBJ.out]; rfl)
          have hgj2 : (mark s (args.take t))[j]? = some true := by
            rw [List.getD_eq_getElem?_getD] at hgj
            rw [List.getElem?_eq_getElem (by rw [mark_len]; omega)] at hgj ⊢
            simpa using hgj
          rw [List.getElem?_map, hgj2] at hcj
          simp only [Option.map_some] at hcj
          clear hgj hgj2
          by_cases htl : t < args.length
          · rcases HRD.out with ⟨_, h0⟩ | ⟨b, o, cc, heq, hbb', hcs⟩
            · rw [h0] at htl
              simp at htl
            · have hp4 : p4 = some ⟨b, o, none⟩ := by
                simp only [Value.slice.injEq] at heq
                exact heq.1
              subst hp4
              have hx : 0 ≤ args.getD t 0 ∧ args.getD t 0 < (j : Int) := fits_getD (xs := args) HFT.out t htl
              obtain ⟨xn, hxn⟩ : ∃ xn : Nat, args.getD t 0 = xn := ⟨(args.getD t 0).toNat, by omega⟩
              have hcell := (hB5.cell (p := ⟨b, o + t, none⟩) hbb').trans (hcs t htl)
              rw [hxn] at hcell hx
              have hxL : (xn : Int) < L.length := by omega
              have hc5 := World.ownsRow.cellAt H6.out xn (by omega)
              obtain ⟨bx, hbx⟩ : ∃ x, (mark s (args.take t))[xn]? = some x := ⟨_, List.getElem?_eq_getElem (by rw [mark_len]; omega)⟩
              rw [List.getElem?_map, hbx] at hc5
              simp only [Option.map_some] at hc5
              have hf5 := World.ownsRow.frozenAt H6.out xn
              have HXN := (show Hid _ from hxn)
              clear hcs heq hbx hxn hx
              go_wp2
              have s5 := World.ownsRow.stored H6.out xn (.bool true)
              rw [← List.map_set] at s5
              refine ⟨⟨t + 1, by simp, by omega, ?_, hB5.setCell (p := ⟨w.heap.size, xn, none⟩) (Nat.le_refl _) _⟩, by simp [intOf]; omega⟩
              rw [mark_snoc htl, HXN.out, Int.toNat_natCast]
              exact s5.1
          · go_wp2
            have h6 := H6.out
            rw [List.take_of_length_le (by omega)] at h6
            refine ⟨⟨j, mark s args, by omega, rfl, by rw [mark_len, hs], h6, hB5, ?_⟩, by simp [intOf]⟩
            rw [← HI.out]
            have hg : s.getD j false = true := by rw [List.getD_eq_getElem?_getD, HBJ.out]; rfl
            conv => rhs; rw [pdown, if_pos hg, HTM.out]
end Go.Proofs.Ytehkfgjnapjefaa
