/-
  TERMS: Beneath. Own work.
-/
import Derived.Test.YtehkfgjnapjefaaSPo
namespace Go.Proofs.Ytehkfgjnapjefaa
open Go.RowKit Go.Maps
set_option maxRecDepth 100000
attribute [local go_sem ↓] Go.wp_at_zero Go.wp_at_succ
def mark (s : List Bool) (xs : List Int) : List Bool := xs.foldl (fun s x => s.set x.toNat true) s
def down (L : List Tm) : Nat → List Bool → List Int
  | 0, _ => []
  | j + 1, s => if s.getD j false = true then (j : Int) :: down L j (mark s (tmAt L j).2.2) else down L j s
theorem mark_len (xs : List Int) : ∀ s : List Bool, (mark s xs).length = s.length := by
  induction xs with
  | nil => intro s; rfl
  | cons x xs ih => intro s; exact (ih _).trans (by simp)
theorem mark_snoc {s : List Bool} {xs : List Int} {t : Nat} (h : t < xs.length) : mark s (xs.take (t + 1)) = (mark s (xs.take t)).set (xs.getD t 0).toNat true := by
  unfold mark
  rw [List.take_add_one, List.getElem?_eq_getElem h, List.foldl_append, List.getD_eq_getElem?_getD, List.getElem?_eq_getElem h]
  rfl
def below0 (i : Nat) : List Bool := (List.replicate (i + 1) false).set i true
/-- WHAT BENEATH ANSWERS. -/
def benOf (L : List Tm) (i : Nat) : List Int := (down L (i + 1) (below0 i)).reverse
set_option maxHeartbeats 1000000 in
theorem reverse_nil (w : World) : Calls Try.prog 35 #[.slice none 0 0] w fun e w' => (∃ v, e = .returned v) ∧ w' = w := by
  go_enter Try.func35, Try.ntmps35
  go_wp2
  go_loopw [2, 3] (fun i j wr => i = .int .i64 0 ∧ j = .int .i64 (-1) ∧ wr = w) (fun _ _ _ => 0)
  case atStart => exact ⟨rfl, rfl, rfl⟩
  case round =>
    obtain ⟨rfl, rfl, rfl⟩ := hrel
    go_wp2
    go_end0
    exact ⟨⟨_, rfl⟩, rfl⟩
theorem row_raise {ws : World} {base e size n c g : Nat} {ys : List Value} (h : ws.ownsRow 0 e size (.slice (some ⟨g, 0, none⟩) n c) n ys) (hb : base ≤ g) : ws.ownsRow base e size (.slice (some ⟨g, 0, none⟩) n c) n ys := by
  refine ⟨h.1, ?_⟩
  rcases h.2 with ⟨h1, _⟩ | ⟨g', cap, cur, h1, _, r⟩
  · cases h1
  · cases h1
    exact .inr ⟨g, c, cur, rfl, hb, r⟩
theorem reverse_ok {ws : World} {base n c : Nat} {p : Option Addr} {xs : List Int} (hn : xs.length = n) (h4 : n ≤ 2147483648) (h : ws.ownsRow base 3 1 (.slice p n c) n (xs.map (Value.int .i64))) : Calls Try.prog 35 #[.slice p n c] ws fun e w' => (∃ v, e = .returned v) ∧ Keeps (fun k => base ≤ k) ws w' ∧ w'.ownsRow base 3 1 (.slice p n c) n (xs.reverse.map (Value.int .i64)) := by
  rcases h.2 with ⟨h1, h2⟩ | ⟨g, cap, cur, h1, hb, _⟩
  · cases h1
    obtain rfl : xs = [] := List.eq_nil_of_length_eq_zero hn
    refine (reverse_nil ws).mono ?_
    rintro e w' ⟨he, rfl⟩
    exact ⟨he, Keeps.refl _ _, h⟩
  · cases h1
    refine (reverse_some g c n h4 xs hn ws (row_lower h (Nat.zero_le _))).mono ?_
    rintro e w' ⟨he, hK, hr⟩
    exact ⟨he, hK.mono (fun k _ hk => by subst hk; exact hb), row_raise hr hb⟩
set_option maxHeartbeats 8000000 in
theorem beneath_in {F : Nat → Prop} {w : World} {ab : Nat} {L : List Tm} (A : Hid (Ar w ab L F)) (hmax : L.length ≤ 1048576) (i : Nat) (hi : i < L.length) : Calls Try.prog 26 #[.pointer (some ⟨ab, 0, none⟩), .int .i64 i] w fun e w' => ∃ p c, e = .returned (.tuple #[.slice p (benOf L i).length c, .int .i64 0]) ∧ w'.ownsRow w.heap.size 3 1 (.slice p (benOf L i).length c) (benOf L i).length ((benOf L i).map (Value.int .i64)) ∧ Below w.heap.size w w' := by
  obtain ⟨b0, hb, hb0, hb1, hb2⟩ := info_parts (P := Try.prog) (e := 4) (z := .bool false) (size := 1) (bytes := 1) (by kernel_rfl)
  obtain ⟨i0, hi', hz0, hz1, hz2⟩ := info_parts (P := Try.prog) (e := 3) (z := .int .i64 0) (size := 1) (bytes := 8) (by kernel_rfl)
  have hin : decide (inL L i) = true := decide_eq_true (by unfold inL; omega)
  go_enter Try.func26, Try.ntmps26
  go_wp2_with (first
    | (go_at_call 33; refine (has_ar A.out i).mono ?_; rintro ev w ⟨rfl, rfl⟩; rw [hin])
    | (at_make; refine wpList_make_full _ rfl _ _ 53 rfl w.heap.size 4 b0 (.bool false) 1 Try.underlying53 hb hb0 hb1 .i64 .i64 _ _ (i + 1) rfl rfl (by omega) (by omega) (by rw [hb2]; omega) (by unfold maxLen; omega) (Nat.le_refl _) ?_; intro w1 hown1 hgrow1
       have hm : (madeCells (Value.bool false).cells ((i + 1) * 1)).toList = (List.replicate (i + 1) false).map Value.bool := by
         rw [Nat.mul_one]
         exact (toList_madeCells_one (.bool false) (i + 1)).trans (by simp)
       rw [hm] at hown1
       have c1 : w1.cell? ⟨w.heap.size, i, none⟩ = some (.bool false) := (World.ownsRow.cellAt hown1 i (by omega)).trans (by simp)
       have f1 := World.ownsRow.frozenAt hown1 i
       clear hm))
  have hB1 : Below w.heap.size w (w1.setCell ⟨w.heap.size, i, none⟩ (.bool true)) := ((Below.refl _ w).grown hgrow1 (Nat.le_refl _) (fun _ h => by cases h)).setCell (p := ⟨w.heap.size, i, none⟩) (Nat.le_refl _) _
  have s1 := (World.ownsRow.stored hown1 i (.bool true)).1
  rw [← List.map_set] at s1
  have hsz : w.heap.size < (w1.setCell ⟨w.heap.size, i, none⟩ (.bool true)).heap.size := (row_base s1 (k := w.heap.size) rfl).2
  have HS1 := (show Hid ((w1.setCell ⟨w.heap.size, i, none⟩ (.bool true)).ownsRow w.heap.size 4 1 (.slice (some ⟨w.heap.size, 0, none⟩) (i + 1) (i + 1)) (i + 1) ((below0 i).map Value.bool)) from s1)
  clear hown1 c1 f1 s1 hgrow1
  generalize w1.setCell ⟨w.heap.size, i, none⟩ (.bool true) = w2 at *
  have hh : ∃ h, h = w.heap.size := ⟨_, rfl⟩
  obtain ⟨h, hh⟩ := hh
  go_loopw [7, 8] (fun v j wr => ∃ (jj : Nat) (s : List Bool) (outs : List Int) (p : Option Addr) (c : Nat), jj ≤ i + 1 ∧ j = .int .i64 ((jj : Int) - 1) ∧ v = .slice p outs.length c ∧ s.length = i + 1 ∧ outs.length + jj ≤ i + 1 ∧ wr.ownsRow w.heap.size 4 1 (.slice (some ⟨w.heap.size, 0, none⟩) (i + 1) (i + 1)) (i + 1) (s.map Value.bool) ∧ wr.ownsRow (w.heap.size + 1) 3 1 (.slice p outs.length c) outs.length (outs.map (Value.int .i64)) ∧ Below w.heap.size w wr ∧ outs ++ down L jj s = down L (i + 1) (below0 i)) (fun _ j _ => (intOf j + 1).toNat)
  case atStart => exact ⟨i + 1, below0 i, [], none, 0, by omega, by simp, rfl, by simp [below0], by simp, HS1.out, World.ownsRow_nil _ _ _ _, hB1, rfl⟩
  case round =>
    obtain ⟨jj, s, outs, p, c, hjj, rfl, rfl, hs, hol, hrow, hout, hB, hinv⟩ := hrel
    have HR := (show Hid (wr.ownsRow w.heap.size 4 1 (.slice (some ⟨w.heap.size, 0, none⟩) (i + 1) (i + 1)) (i + 1) (s.map Value.bool)) from hrow)
    have HO := (show Hid (wr.ownsRow (w.heap.size + 1) 3 1 (.slice p outs.length c) outs.length (outs.map (Value.int .i64))) from hout)
    have HI := (show Hid _ from hinv)
    clear hrow hout hinv
    cases jj with
    | zero =>
      go_wp2_with (go_at_call 35; refine (reverse_ok rfl (by omega) HO.out).mono ?_; rintro ev w5 ⟨⟨r5, rfl⟩, K5, hr5⟩)
      go_ret2
      have hd := HI.out
      rw [down, List.append_nil] at hd
      have hb : benOf L i = outs.reverse := by unfold benOf; rw [← hd]
      rw [hb, List.length_reverse]
      exact ⟨p, c, rfl, row_lower hr5 (by omega), hB.trans (K5.below hB.size (fun k hk => by omega))⟩
    | succ j =>
      have e1 : ((j + 1 : Nat) : Int) - 1 = (j : Int) := by omega
      rw [e1]
      have hc := World.ownsRow.cellAt HR.out j (by omega)
      obtain ⟨bj, hbj⟩ : ∃ x, s[j]? = some x := ⟨_, List.getElem?_eq_getElem (by omega)⟩
      rw [List.getElem?_map, hbj] at hc
      simp only [Option.map_some] at hc
      have HBJ := (show Hid (s[j]? = some bj) from hbj)
      clear hbj
      cases bj with
      | false =>
        go_wp2
        refine ⟨⟨j, s, outs, p, c, by omega, rfl, rfl, hs, by omega, HR.out, HO.out, hB, ?_⟩, by simp [intOf]⟩
        rw [← HI.out]
        have hg : s.getD j false = false := by rw [List.getD_eq_getElem?_getD, HBJ.out]; rfl
        rw [down, if_neg (by rw [hg]; decide)]
      | true =>
        have hjL : j < L.length := by omega
        obtain ⟨g, cp, p4, c4, x0, hab, hg, _, _, _, x2, hRd, hal, _⟩ := A.out.node j hjL
        have hfit := (A.out.wf.good j hjL).2.2
        have htm := tmAt_nat hjL
        generalize L[j] = tm at x2 hRd hal hfit htm
        obtain ⟨k0, n0, args⟩ := tm
        simp only at x2 hRd hal
        have HRD := (show Hid (Reads w (.slice p4 args.length c4) args) from hRd)
        have HFT := (show Hid (fitsIn j (k0, n0, args)) from hfit)
        have HTM := (show Hid (tmAt L (j : Int) = (k0, n0, args)) from htm)
        clear hRd hfit htm
        have hji : (j : Int) < L.length := by omega
        go_wp2_with (at_builtin; refine wpList_append_own _ rfl (.tmp 31) (.tmp 33) 31 rfl (w.heap.size + 1) 3 i0 (.int .i64 0) 1 8 Try.underlying31 hi' hz0 hz1 hz2 rfl (by decide) (.slice p outs.length c) outs.length _ rfl (HO.out.alloc _) ⟨wr.heap.size, 0, none⟩ 1 1 [.int .i64 j] rfl rfl (news1 _ _ _) (fun u hu => by simp at hu; subst hu; rfl) (by unfold maxLen; omega) (by omega) (by have := hB.size; have := (row_base HR.out (k := w.heap.size) rfl).2; simp; omega) ?_; intro v3 w3 hown3 hgrow3 _
                     have hB3 : Below w.heap.size w w3 := (hB.alloc hB.size _).grown hgrow3 (by have := hB.size; simp; omega) (fun k hk => by have := (row_base HO.out hk).1; omega)
                     have y0 := (hB3.cell (p := ⟨ab, 0, none⟩) hab).trans x0
                     have y2 := (hB3.cell (p := ⟨g, j * 3 + 2, none⟩) hg).trans x2)
        obtain ⟨p', c', rfl⟩ := row_slice hown3
        have hlen1 : (outs ++ [(j : Int)]).length = outs.length + 1 := by simp
        have hown4 : w3.ownsRow (w.heap.size + 1) 3 1 (.slice p' (outs.length + 1) c') (outs.length + 1) ((outs ++ [(j : Int)]).map (Value.int .i64)) := by
          rw [List.map_append]
          exact hown3
        have hrow4 : w3.ownsRow w.heap.size 4 1 (.slice (some ⟨w.heap.size, 0, none⟩) (i + 1) (i + 1)) (i + 1) (s.map Value.bool) := (HR.out.alloc _).kept hgrow3 (.inr (fun e => by have := (row_base HO.out (k := w.heap.size) e.symm).1; omega))
        have H4 := (show Hid _ from hown4)
        have H5 := (show Hid _ from hrow4)
        clear hown3 hgrow3 hown4 hrow4 y0 y2
        go_loopw [44] (fun q wq => ∃ t : Nat, q = .int .i64 t ∧ t ≤ args.length ∧ wq.ownsRow w.heap.size 4 1 (.slice (some ⟨w.heap.size, 0, none⟩) (i + 1) (i + 1)) (i + 1) ((mark s (args.take t)).map Value.bool) ∧ wq.ownsRow (w.heap.size + 1) 3 1 (.slice p' (outs.length + 1) c') (outs.length + 1) ((outs ++ [(j : Int)]).map (Value.int .i64)) ∧ Below w.heap.size w wq) (fun q _ => args.length - (intOf q).toNat)
        case atStart => exact ⟨0, rfl, by omega, H5.out, H4.out, hB3⟩
        case round =>
          obtain ⟨t, rfl, ht, hr5, ho5, hB5⟩ := hrel
          have H6 := (show Hid _ from hr5)
          have H7 := (show Hid _ from ho5)
          clear hr5 ho5
          by_cases htl : t < args.length
          · rcases HRD.out with ⟨_, h0⟩ | ⟨b, o, cc, heq, hbb, hcs⟩
            · rw [h0] at htl
              simp at htl
            · have hp4 : p4 = some ⟨b, o, none⟩ := by
                simp only [Value.slice.injEq] at heq
                exact heq.1
              subst hp4
              have hx : 0 ≤ args.getD t 0 ∧ args.getD t 0 < (j : Int) := fits_getD (xs := args) HFT.out t htl
              obtain ⟨xn, hxn⟩ : ∃ xn : Nat, args.getD t 0 = xn := ⟨(args.getD t 0).toNat, by omega⟩
              have hcell := (hB5.cell (p := ⟨b, o + t, none⟩) hbb).trans (hcs t htl)
              rw [hxn] at hcell hx
              have hxi : xn < i + 1 := by omega
              have hc5 := World.ownsRow.cellAt H6.out xn (by omega)
              obtain ⟨bx, hbx⟩ : ∃ x, (mark s (args.take t))[xn]? = some x := ⟨_, List.getElem?_eq_getElem (by rw [mark_len]; omega)⟩
              rw [List.getElem?_map, hbx] at hc5
              simp only [Option.map_some] at hc5
              have hf5 := World.ownsRow.frozenAt H6.out xn
              have HXN := (show Hid _ from hxn)
              clear hcs heq hbx hxn hx
              have hxii : (xn : Int) < (i : Int) + 1 := by omega
              go_wp2
              have s5 := World.ownsRow.stored H6.out xn (.bool true)
              rw [← List.map_set] at s5
              refine ⟨⟨t + 1, by simp, by omega, ?_, World.ownsRow.kept H7.out s5.2 ?_, hB5.setCell (p := ⟨w.heap.size, xn, none⟩) (Nat.le_refl _) _⟩, by simp [intOf]; omega⟩
              · rw [mark_snoc htl, HXN.out, Int.toNat_natCast]
                exact s5.1
              · by_cases hnb : (Value.slice p' (outs.length + 1) c').ownBlock = none
                · exact .inl hnb
                · exact .inr (fun e => by have := (row_base H7.out e).1; omega)
          · go_wp2
            have h6 := H6.out
            rw [List.take_of_length_le (by omega)] at h6
            refine ⟨⟨j, mark s args, outs ++ [(j : Int)], p', c', by omega, rfl, by rw [hlen1], by rw [mark_len, hs], by rw [hlen1]; omega, h6, by rw [hlen1]; exact H7.out, hB5, ?_⟩, by simp [intOf]⟩
            rw [← HI.out]
            have hg : s.getD j false = true := by rw [List.getD_eq_getElem?_getD, HBJ.out]; rfl
            rw [List.append_assoc]
            conv => rhs; rw [down, if_pos hg, HTM.out]
            rfl
end Go.Proofs.Ytehkfgjnapjefaa
