/-
  STORETWICE: the walk. Own work.
-/
import Derived.Test.YtafpfiadapabaaaDoorSTv
namespace Go.Proofs.YtafpfiadapabaaaDoor
open Go.ChangeShapes Go.WideShapes Go.ChangeAt Go.RowKit Go.Maps Go.Deep
set_option maxRecDepth 100000
attribute [local go_sem ↓] Go.wp_at_zero Go.wp_at_succ
/-- Two stores on two disks, and what each should hold. -/
def Tw (w0 w : World) (cb db sb tb : Nat) (Sc Sd : List Int) (x : Value) (Sx : List Int) (y : Value) (Sy : List Int) (m : Nat) : Prop := ∃ M vc vd, Two w0 w cb db Sc Sd m M ∧ stRow sb cb vc ∈ M ∧ byteRow vc Sc ∈ M ∧ stRow tb db vd ∈ M ∧ byteRow vd Sd ∈ M ∧ byteRow x Sx ∈ M ∧ byteRow y Sy ∈ M
section
variable {w0 w w' : World} {cb db sb tb m : Nat} {Sc Sd Sx Sy : List Int} {x y : Value}
theorem Two.ne {M : List RowD} (T : Two w0 w cb db Sc Sd m M) : cb ≠ db := by
  obtain ⟨c, d, cs, cn, cw, ck, ds, dn, dw, dk, F, l1, l2⟩ := T
  intro e
  exact F.apart 0 5 (c.hdr cb cs cn cw ck) (d.hdr db ds dn dw dk) rfl rfl (by omega) cb rfl (by rw [e]; rfl)
theorem st_ne {u v : Value} (h : cb ≠ db) : stRow tb db v ≠ stRow sb cb u := fun e => by
  have e1 : ([.pointer (some ⟨db, 0, none⟩), v] : List Value) = [.pointer (some ⟨cb, 0, none⟩), u] := congrArg RowD.xs e
  injection e1 with e2 _
  injection e2 with e3
  injection e3 with e4
  injection e4 with e5 _ _
  exact h e5.symm
theorem Tw.swap (T : Tw w0 w cb db sb tb Sc Sd x Sx y Sy m) : Tw w0 w db cb tb sb Sd Sc y Sy x Sx m := by
  obtain ⟨M, vc, vd, T, h1, h2, h3, h4, h5, h6⟩ := T
  exact ⟨M, vd, vc, T.swap, h3, h4, h1, h2, h6, h5⟩
theorem Tw.step (T : Tw w0 w cb db sb tb Sc Sd x Sx y Sy m) (hB : Below w.heap.size w w') : Tw w0 w' cb db sb tb Sc Sd x Sx y Sy m := by
  obtain ⟨M, vc, vd, T, h⟩ := T
  exact ⟨M, vc, vd, T.step hB, h⟩
theorem Tw.more (T : Tw w0 w cb db sb tb Sc Sd x Sx y Sy m) {m' : Nat} (h : m ≤ m') : Tw w0 w cb db sb tb Sc Sd x Sx y Sy m' := by
  obtain ⟨M, vc, vd, T, r⟩ := T
  exact ⟨M, vc, vd, T.more h, r⟩
theorem Tw.below (T : Tw w0 w cb db sb tb Sc Sd x Sx y Sy m) : Below w0.heap.size w0 w := by
  obtain ⟨M, vc, vd, T, _⟩ := T
  exact T.below
theorem Tw.rdx (T : Tw w0 w cb db sb tb Sc Sd x Sx y Sy m) : RdV w x (Sx.map (Value.int .u8)) := by
  obtain ⟨M, vc, vd, T, h1, h2, h3, h4, h5, h6⟩ := T
  exact T.rdv h5
theorem Tw.newx (T : Tw w0 w cb db sb tb Sc Sd x Sx y Sy m) {x' : Value} {X : List Int} (hB : Below w.heap.size w w') (hr : w'.ownsRow w.heap.size 5 1 x' X.length (X.map (Value.int .u8))) : Tw w0 w' cb db sb tb Sc Sd x' X y Sy m := by
  obtain ⟨M, vc, vd, T, h1, h2, h3, h4, h5, h6⟩ := T
  have T' := T.add (r := byteRow x' X) hB hr
  exact ⟨_, vc, vd, T', List.mem_append.2 (.inl h1), List.mem_append.2 (.inl h2), List.mem_append.2 (.inl h3), List.mem_append.2 (.inl h4), List.mem_append.2 (.inr (List.mem_singleton.2 rfl)), List.mem_append.2 (.inl h6)⟩
theorem Tw.save (T : Tw w0 w cb db sb tb Sc Sd x Sx y Sy m) (hg : w0.cell? ⟨0, 0, none⟩ = some eTy) {S' : List Int} (hS : S'.length ≤ 8000) (hm : m < 50000) {v : Value} (hv : RdV w0 v (S'.map (Value.int .u8))) (hcap : ∀ p n c, v = .slice p n c → n ≤ c) : Calls Tryd.prog 14 #[.pointer (some ⟨sb, 0, none⟩), v] w fun e w' => e = .returned (.int .i64 0) ∧ Tw w0 w' cb db sb tb S' Sd x Sx y Sy (m + 1) := by
  obtain ⟨M, vc, vd, T, h1, h2, h3, h4, h5, h6⟩ := T
  have hne := T.ne
  refine (save_two T hg hS hm hv hcap h1).mono ?_
  rintro e w' ⟨rfl, M', v', T', g1, g2, g3⟩
  exact ⟨rfl, M', v', vd, T', g1, g2, g3 _ h3 (st_ne hne), g3 _ h4 ne_st, g3 _ h5 ne_st, g3 _ h6 ne_st⟩
theorem Tw.state (T : Tw w0 w cb db sb tb Sc Sd x Sx y Sy m) (hS : Sc.length ≤ 8000) : Calls Tryd.prog 17 #[.pointer (some ⟨sb, 0, none⟩)] w fun e w' => ∃ u, e = .returned u ∧ Below w.heap.size w w' ∧ w'.ownsRow w.heap.size 5 1 u Sc.length (Sc.map (Value.int .u8)) := by
  obtain ⟨M, vc, vd, T, h1, h2, h3, h4, h5, h6⟩ := T
  exact state_two T h1 h2 hS
end
set_option maxHeartbeats 4000000 in
theorem twice_far {w : World} {v1 v2 : Value} {A B : List Rb} (HA : Rbs w v1 A) (HB : Rbs w v2 B) (h : 10 < A.length ∨ 10 < B.length) : Calls Tryd.prog 5 #[v1, v2] w fun e w' => e = .returned (.bool true) ∧ Below w.heap.size w w' := by
  obtain ⟨p1, c1, rfl, _⟩ := HA
  obtain ⟨p2, c2, rfl, _⟩ := HB
  by_cases h1 : 10 < A.length
  · have h1I : (10 : Int) < A.length := by omega
    go_enter Tryd.func5, Tryd.ntmps5
    go_wp2
    go_ret
    exact ⟨by simp, Below.refl _ _⟩
  · have h1I : ¬ (10 : Int) < A.length := by omega
    have h2I : (10 : Int) < B.length := by omega
    go_enter Tryd.func5, Tryd.ntmps5
    go_wp2
    go_ret
    exact ⟨by simp, Below.refl _ _⟩
set_option maxHeartbeats 16000000 in
theorem twice_walk {w : World} {v1 v2 : Value} {A B : List Rb} (HA : Rbs w v1 A) (HB : Rbs w v2 B) (ha : A.length ≤ 10) (hb : B.length ≤ 10) (hg : w.cell? ⟨0, 0, none⟩ = some eTy) : Calls Tryd.prog 5 #[v1, v2] w fun e w' => e = .returned (.bool true) ∧ Below w.heap.size w w' := by
  have HG := (show Hid _ from hg)
  have HAA : Hid (Rbs w v1 A) := HA
  have HBB : Hid (Rbs w v2 B) := HB
  obtain ⟨p1, c1, rfl, _⟩ := HA
  obtain ⟨p2, c2, rfl, _⟩ := HB
  have h1I : ¬ (10 : Int) < A.length := by omega
  have h2I : ¬ (10 : Int) < B.length := by omega
  clear hg
  have F1 : Nat := 0
  go_enter Tryd.func5, Tryd.ntmps5
  go_wp2_with (first
    | (go_at_call 9; have t1 := F1; clear t1; refine (new_ok 512 (by omega) (by omega) w).mono ?_; rintro ev w1 ⟨cb, vs, vn, rfl, T0⟩; clear F1; have F2 : Nat := 0)
    | (go_at_call 9; have t1 := F2; clear t1; refine (new_ok 512 (by omega) (by omega) _).mono ?_; rintro ev w2 ⟨db, us, un, rfl, T0'⟩; have T1 := two_start T0 T0'; clear F2 T0 T0'; have F3 : Nat := 0)
    | (go_at_call 10; have t1 := F3; clear t1; refine (open_two T1).mono ?_; rintro ev w3 ⟨sb, v3, rfl, T3⟩; clear F3 T1; have F4 : Nat := 0)
    | (go_at_call 10; have t1 := F4; clear t1; refine (open_two T3.swap).mono ?_; rintro ev w4 ⟨tb, v4, rfl, T4⟩; clear F4 T3))
  have T5 : Tw w w4 cb db sb tb [] [] (.slice none 0 0) [] (.slice none 0 0) [] 0 := ⟨_, v3, v4, T4.swap.add (r := byteRow (.slice none 0 0) []) (Below.refl _ _) (World.ownsRow_nil _ _ _ _), by simp, by simp, by simp, by simp, by simp, by simp⟩
  clear T4
  go_loopw [11, 12, 13] (fun x y i wq => ∃ (j m : Nat) (Sc Sd : List Int), i = .int .i64 j ∧ j ≤ 10 ∧ m ≤ 2 * j ∧ Tw w wq cb db sb tb Sc Sd x Sc y Sd m ∧ Sc.length ≤ 500 ∧ Sd.length ≤ 500) (fun x y i _ => 20 - (intOf i).toNat)
  case atStart => exact ⟨0, 0, [], [], rfl, by omega, by omega, T5, by simp, by simp⟩
  case round =>
    obtain ⟨j, m, Sc, Sd, rfl, hj, hm, T6, hc5, hd5⟩ := hrel
    clear T5
    by_cases hA : j < A.length
    · obtain ⟨ba, oa, rfl, hba, hxa, hIa⟩ := rbs_nth HAA.out hA
      generalize hXv : A[j].v = xv at hxa hIa
      generalize hXb : A[j].bs = xa at hIa
      clear hXv hXb
      obtain ⟨pxa, cxa, rfl⟩ := rdv_shape hIa.rd
      have HIa : Hid (Ins w (.slice pxa xa.length cxa) xa) := by have h := hIa; rw [List.length_map] at h; exact h
      rw [List.length_map] at hxa
      have HXa := (show Hid _ from hxa)
      have ya6 := (T6.below.cell (p := ⟨ba, oa + j, none⟩) hba).trans hxa
      have hAI : (j : Int) < A.length := by omega
      clear hIa hxa
      by_cases h5a : 500 < xa.length
      · have h5aI : (500 : Int) < xa.length := by omega
        go_wp2
        go_ret
        exact ⟨by simp, T6.below⟩
      · have h5aI : ¬ (500 : Int) < xa.length := by omega
        have F5 : Nat := 0
        by_cases hB : j < B.length
        · obtain ⟨bb, ob, rfl, hbb, hxb, hIb⟩ := rbs_nth HBB.out hB
          generalize hXv : B[j].v = xv at hxb hIb
          generalize hXb : B[j].bs = xb at hIb
          clear hXv hXb
          obtain ⟨pxb, cxb, rfl⟩ := rdv_shape hIb.rd
          have HIb : Hid (Ins w (.slice pxb xb.length cxb) xb) := by have h := hIb; rw [List.length_map] at h; exact h
          rw [List.length_map] at hxb
          have HXb := (show Hid _ from hxb)
          have yb6 := (T6.below.cell (p := ⟨bb, ob + j, none⟩) hbb).trans hxb
          have hBI : (j : Int) < B.length := by omega
          clear hIb hxb
          by_cases h5b : 500 < xb.length
          · have h5bI : (500 : Int) < xb.length := by omega
            go_wp2_with (first
              | (go_at_call 13; have t1 := F5; clear t1; refine (twinB_ok (HIa.out.rd.below T6.below) (by simp; omega) (one_map _ (fun _ => rfl) _)).mono ?_; rintro ev wa1 ⟨xa1, rfl, hra, BA1⟩; rw [List.length_map] at hra; have TA1 := T6.newx BA1 hra; have yaAa := (TA1.below.cell (p := ⟨ba, oa + j, none⟩) hba).trans HXa.out; have ybAa := (TA1.below.cell (p := ⟨bb, ob + j, none⟩) hbb).trans HXb.out; clear F5 hra; have F5S : Nat := 0)
              | (go_at_call 14; have t1 := F5S; clear t1; refine (TA1.save HG.out (S' := xa) (by omega) (by omega) HIa.out.rd HIa.out.cap).mono ?_; rintro ev wa2 ⟨rfl, TA2⟩; have yaAb := (TA2.below.cell (p := ⟨ba, oa + j, none⟩) hba).trans HXa.out; have ybAb := (TA2.below.cell (p := ⟨bb, ob + j, none⟩) hbb).trans HXb.out; clear F5S TA1; have F6 : Nat := 0))
            go_ret
            exact ⟨by simp, TA2.below⟩
          · have h5bI : ¬ (500 : Int) < xb.length := by omega
            go_wp2_with (first
              | (go_at_call 13; have t1 := F5; clear t1; refine (twinB_ok (HIa.out.rd.below T6.below) (by simp; omega) (one_map _ (fun _ => rfl) _)).mono ?_; rintro ev wa1 ⟨xa1, rfl, hra, BA1⟩; rw [List.length_map] at hra; have TA1 := T6.newx BA1 hra; have yaAa := (TA1.below.cell (p := ⟨ba, oa + j, none⟩) hba).trans HXa.out; have ybAa := (TA1.below.cell (p := ⟨bb, ob + j, none⟩) hbb).trans HXb.out; clear F5 hra; have F5S : Nat := 0)
              | (go_at_call 14; have t1 := F5S; clear t1; refine (TA1.save HG.out (S' := xa) (by omega) (by omega) HIa.out.rd HIa.out.cap).mono ?_; rintro ev wa2 ⟨rfl, TA2⟩; have yaAb := (TA2.below.cell (p := ⟨ba, oa + j, none⟩) hba).trans HXa.out; have ybAb := (TA2.below.cell (p := ⟨bb, ob + j, none⟩) hbb).trans HXb.out; clear F5S TA1; have F6 : Nat := 0)
              | (go_at_call 13; have t1 := F6; clear t1; refine (twinB_ok (HIb.out.rd.below TA2.below) (by simp; omega) (one_map _ (fun _ => rfl) _)).mono ?_; rintro ev wb1 ⟨yb1, rfl, hrb, BB1⟩; rw [List.length_map] at hrb; have TB1 := TA2.swap.newx BB1 hrb; have yaBa := (TB1.below.cell (p := ⟨ba, oa + j, none⟩) hba).trans HXa.out; have ybBa := (TB1.below.cell (p := ⟨bb, ob + j, none⟩) hbb).trans HXb.out; clear F6 hrb; have F6S : Nat := 0)
              | (go_at_call 14; have t1 := F6S; clear t1; refine (TB1.save HG.out (S' := xb) (by omega) (by omega) HIb.out.rd HIb.out.cap).mono ?_; rintro ev wb2 ⟨rfl, TB2⟩; have yaBb := (TB2.below.cell (p := ⟨ba, oa + j, none⟩) hba).trans HXa.out; have ybBb := (TB2.below.cell (p := ⟨bb, ob + j, none⟩) hbb).trans HXb.out; clear F6S TB1; have G1 : Nat := 0)
              | (go_at_call 17; have t1 := G1; clear t1; refine (Tw.state (TB2.swap) (by omega)).mono ?_; rintro ev wc1 ⟨uc1, rfl, BC1, hrc1⟩; clear G1; have G2 : Nat := 0)
              | (go_at_call 16; refine (spoil_ok (row_lower hrc1 (Nat.zero_le _)) (by omega)).mono ?_; rintro ev wc2 ⟨rfl, KC2⟩; have BC2 := BC1.trans (KC2.below BC1.size (fun q hq => (row_base hrc1 hq).1)); have TC2 := Tw.step (TB2.swap) BC2; clear BC1 hrc1)
              | (go_at_call 17; have t1 := G2; clear t1; refine (TC2.state (by omega)).mono ?_; rintro ev wc3 ⟨uc3, rfl, BC3, hrc3⟩; obtain ⟨pc3, cc3, rfl⟩ := row_slice hrc3; have TC3 := TC2.step BC3; have HC3 := rdv_row hrc3; clear G2 TC2 hrc3; have G3 : Nat := 0)
              | (go_at_call 15; have t1 := G3; clear t1; refine (bytes_any HC3 TC3.rdx (by omega) (by omega)).mono ?_; rintro ev wc4 ⟨rfl, BC4⟩; have TC4 := TC3.step BC4; clear G3 TC3 HC3; have G4 : Nat := 0)
              | (go_at_call 17; have t1 := G4; clear t1; refine (TC4.swap.state (by omega)).mono ?_; rintro ev wc5 ⟨uc5, rfl, BC5, hrc5⟩; obtain ⟨pc5, cc5, rfl⟩ := row_slice hrc5; have TC5 := TC4.step BC5; have HC5 := rdv_row hrc5; clear G4 TC4 hrc5; have G5 : Nat := 0)
              | (go_at_call 15; have t1 := G5; clear t1; refine (bytes_any HC5 TC5.swap.rdx (by omega) (by omega)).mono ?_; rintro ev wc6 ⟨rfl, BC6⟩; have TC6 := TC5.step BC6; clear G5 TC5 HC5))
            exact ⟨⟨j + 1, m + 1 + 1, _, _, by simp, by omega, by omega, TC6, by omega, by omega⟩, by simp [intOf]; omega⟩
        · have hBI : ¬ (j : Int) < B.length := by omega
          go_wp2_with (first
            | (go_at_call 13; have t1 := F5; clear t1; refine (twinB_ok (HIa.out.rd.below T6.below) (by simp; omega) (one_map _ (fun _ => rfl) _)).mono ?_; rintro ev wa1 ⟨xa1, rfl, hra, BA1⟩; rw [List.length_map] at hra; have TA1 := T6.newx BA1 hra; have yaAa := (TA1.below.cell (p := ⟨ba, oa + j, none⟩) hba).trans HXa.out; clear F5 hra; have F5S : Nat := 0)
            | (go_at_call 14; have t1 := F5S; clear t1; refine (TA1.save HG.out (S' := xa) (by omega) (by omega) HIa.out.rd HIa.out.cap).mono ?_; rintro ev wa2 ⟨rfl, TA2⟩; have yaAb := (TA2.below.cell (p := ⟨ba, oa + j, none⟩) hba).trans HXa.out; clear F5S TA1; have G1 : Nat := 0)
            | (go_at_call 17; have t1 := G1; clear t1; refine (Tw.state (TA2) (by omega)).mono ?_; rintro ev wc1 ⟨uc1, rfl, BC1, hrc1⟩; clear G1; have G2 : Nat := 0)
            | (go_at_call 16; refine (spoil_ok (row_lower hrc1 (Nat.zero_le _)) (by omega)).mono ?_; rintro ev wc2 ⟨rfl, KC2⟩; have BC2 := BC1.trans (KC2.below BC1.size (fun q hq => (row_base hrc1 hq).1)); have TC2 := Tw.step (TA2) BC2; clear BC1 hrc1)
            | (go_at_call 17; have t1 := G2; clear t1; refine (TC2.state (by omega)).mono ?_; rintro ev wc3 ⟨uc3, rfl, BC3, hrc3⟩; obtain ⟨pc3, cc3, rfl⟩ := row_slice hrc3; have TC3 := TC2.step BC3; have HC3 := rdv_row hrc3; clear G2 TC2 hrc3; have G3 : Nat := 0)
            | (go_at_call 15; have t1 := G3; clear t1; refine (bytes_any HC3 TC3.rdx (by omega) (by omega)).mono ?_; rintro ev wc4 ⟨rfl, BC4⟩; have TC4 := TC3.step BC4; clear G3 TC3 HC3; have G4 : Nat := 0)
            | (go_at_call 17; have t1 := G4; clear t1; refine (TC4.swap.state (by omega)).mono ?_; rintro ev wc5 ⟨uc5, rfl, BC5, hrc5⟩; obtain ⟨pc5, cc5, rfl⟩ := row_slice hrc5; have TC5 := TC4.step BC5; have HC5 := rdv_row hrc5; clear G4 TC4 hrc5; have G5 : Nat := 0)
            | (go_at_call 15; have t1 := G5; clear t1; refine (bytes_any HC5 TC5.swap.rdx (by omega) (by omega)).mono ?_; rintro ev wc6 ⟨rfl, BC6⟩; have TC6 := TC5.step BC6; clear G5 TC5 HC5))
          exact ⟨⟨j + 1, m + 1, _, _, by simp, by omega, by omega, TC6, by omega, by omega⟩, by simp [intOf]; omega⟩
    · have hAI : ¬ (j : Int) < A.length := by omega
      have F5 : Nat := 0
      by_cases hB : j < B.length
      · obtain ⟨bb, ob, rfl, hbb, hxb, hIb⟩ := rbs_nth HBB.out hB
        generalize hXv : B[j].v = xv at hxb hIb
        generalize hXb : B[j].bs = xb at hIb
        clear hXv hXb
        obtain ⟨pxb, cxb, rfl⟩ := rdv_shape hIb.rd
        have HIb : Hid (Ins w (.slice pxb xb.length cxb) xb) := by have h := hIb; rw [List.length_map] at h; exact h
        rw [List.length_map] at hxb
        have HXb := (show Hid _ from hxb)
        have yb6 := (T6.below.cell (p := ⟨bb, ob + j, none⟩) hbb).trans hxb
        have hBI : (j : Int) < B.length := by omega
        clear hIb hxb
        by_cases h5b : 500 < xb.length
        · have h5bI : (500 : Int) < xb.length := by omega
          go_wp2
          go_ret
          exact ⟨by simp, T6.below⟩
        · have h5bI : ¬ (500 : Int) < xb.length := by omega
          go_wp2_with (first
            | (go_at_call 13; have t1 := F5; clear t1; refine (twinB_ok (HIb.out.rd.below T6.below) (by simp; omega) (one_map _ (fun _ => rfl) _)).mono ?_; rintro ev wb1 ⟨yb1, rfl, hrb, BB1⟩; rw [List.length_map] at hrb; have TB1 := T6.swap.newx BB1 hrb; have ybBa := (TB1.below.cell (p := ⟨bb, ob + j, none⟩) hbb).trans HXb.out; clear F5 hrb; have F5S : Nat := 0)
            | (go_at_call 14; have t1 := F5S; clear t1; refine (TB1.save HG.out (S' := xb) (by omega) (by omega) HIb.out.rd HIb.out.cap).mono ?_; rintro ev wb2 ⟨rfl, TB2⟩; have ybBb := (TB2.below.cell (p := ⟨bb, ob + j, none⟩) hbb).trans HXb.out; clear F5S TB1; have G1 : Nat := 0)
            | (go_at_call 17; have t1 := G1; clear t1; refine (Tw.state (TB2.swap) (by omega)).mono ?_; rintro ev wc1 ⟨uc1, rfl, BC1, hrc1⟩; clear G1; have G2 : Nat := 0)
            | (go_at_call 16; refine (spoil_ok (row_lower hrc1 (Nat.zero_le _)) (by omega)).mono ?_; rintro ev wc2 ⟨rfl, KC2⟩; have BC2 := BC1.trans (KC2.below BC1.size (fun q hq => (row_base hrc1 hq).1)); have TC2 := Tw.step (TB2.swap) BC2; clear BC1 hrc1)
            | (go_at_call 17; have t1 := G2; clear t1; refine (TC2.state (by omega)).mono ?_; rintro ev wc3 ⟨uc3, rfl, BC3, hrc3⟩; obtain ⟨pc3, cc3, rfl⟩ := row_slice hrc3; have TC3 := TC2.step BC3; have HC3 := rdv_row hrc3; clear G2 TC2 hrc3; have G3 : Nat := 0)
            | (go_at_call 15; have t1 := G3; clear t1; refine (bytes_any HC3 TC3.rdx (by omega) (by omega)).mono ?_; rintro ev wc4 ⟨rfl, BC4⟩; have TC4 := TC3.step BC4; clear G3 TC3 HC3; have G4 : Nat := 0)
            | (go_at_call 17; have t1 := G4; clear t1; refine (TC4.swap.state (by omega)).mono ?_; rintro ev wc5 ⟨uc5, rfl, BC5, hrc5⟩; obtain ⟨pc5, cc5, rfl⟩ := row_slice hrc5; have TC5 := TC4.step BC5; have HC5 := rdv_row hrc5; clear G4 TC4 hrc5; have G5 : Nat := 0)
            | (go_at_call 15; have t1 := G5; clear t1; refine (bytes_any HC5 TC5.swap.rdx (by omega) (by omega)).mono ?_; rintro ev wc6 ⟨rfl, BC6⟩; have TC6 := TC5.step BC6; clear G5 TC5 HC5))
          exact ⟨⟨j + 1, m + 1, _, _, by simp, by omega, by omega, TC6, by omega, by omega⟩, by simp [intOf]; omega⟩
      · have hBI : ¬ (j : Int) < B.length := by omega
        go_wp2_with (go_at_call 21; refine (wakes14_ok _ ((T6.below.cell (cell_lt HG.out)).trans HG.out)).mono ?_; rintro ev w18 ⟨rfl, B18⟩)
        go_ret
        exact ⟨by simp, T6.below.trans (B18.mono T6.below.size)⟩
end Go.Proofs.YtafpfiadapabaaaDoor
