/-
  TermTwo: two arenas to which the same is told are the same, whatever a third one is told. For all steps.
-/
import Derived.Test.YtehkfgjnapjefaaSPc
namespace Go.Proofs.Ytehkfgjnapjefaa
open Go.ChangeShapes Go.WideShapes Go.ChangeAt Go.RowKit Go.Maps
set_option maxRecDepth 100000
section
attribute [local go_sem ↓] Go.wp_at_zero Go.wp_at_succ
set_option maxHeartbeats 4000000 in
theorem two_law (p1 p2 : Option Addr) (n1 c1 n2 c2 : Nat) (S1 S2 : List St) (w : World) (hs1 : Steps w (.slice p1 n1 c1) S1) (hs2 : Steps w (.slice p2 n2 c2) S2) : Calls Try.prog 10 #[.slice p1 n1 c1, .slice p2 n2 c2] w fun e w' => e = .returned (.bool true) ∧ Below w.heap.size w w' := by
  have H1 := (show Hid _ from hs1)
  have H2 := (show Hid _ from hs2)
  clear hs1 hs2
  have t1 : Hid True := trivial
  have t2 : Hid True := trivial
  have t3 : Hid True := trivial
  have t4 : Hid True := trivial
  have t5 : Hid True := trivial
  have t6 : Hid True := trivial
  have t7 : Hid True := trivial
  go_enter Try.func10, Try.ntmps10
  go_wp2_with (first
    | (go_at_call 11; clear t1; refine (heavy_ok H1.out).mono ?_; rintro ev w ⟨rfl, r1, rfl, hr⟩; have R1 := (show Hid _ from hr); clear hr)
    | (go_at_call 11; clear t2; refine (heavy_ok H2.out).mono ?_; rintro ev w ⟨rfl, r2, rfl, hr⟩; have R2 := (show Hid _ from hr); clear hr)
    | (go_at_call 30; clear t3; refine (new_ar _).mono ?_; rintro ev w1 ⟨aa, Fa, rfl, A1, h1, B1⟩; have G1 := (show Hid _ from h1); clear h1)
    | (go_at_call 30; clear t4; refine (new_ar _).mono ?_; rintro ev w2 ⟨ab, Fb, rfl, A2, h2, B2⟩; have G2 := (show Hid _ from h2); clear h2)
    | (go_at_call 30; clear t5; refine (new_ar _).mono ?_; rintro ev w3 ⟨ac, Fc, rfl, A3, h3, B3⟩; have T := three_new A1 G1.out B1 A2 G2.out B2 A3 h3 B3; clear A1 G1 B1 A2 G2 B2 A3 h3 B3))
  · go_ret
    exact ⟨rfl, Below.refl _ _⟩
  · go_ret
    exact ⟨rfl, Below.refl _ _⟩
  · have q1 := R1.out (by simpa using ‹¬ r1 = true›)
    have q2 := R2.out (by assumption)
    have Q1 := (show Hid _ from q1)
    have Q2 := (show Hid _ from q2)
    clear q1 q2 R1 R2
    go_loopw [8] (fun i wr => ∃ (j : Nat) (L Lc : List Tm), i = .int .i64 j ∧ j ≤ 150 ∧ j ≤ n1 ∧ Three w wr aa ab ac L L Lc) (fun i _ => 150 - (intOf i).toNat)
    case atStart => exact ⟨0, [], [], rfl, by omega, by omega, T⟩
    case round =>
      obtain ⟨j, L, Lc, rfl, hj, hjn, T⟩ := hrel
      by_cases hlt : j < n1 ∧ j < 150
      · obtain ⟨h1, h2⟩ := hlt
        obtain ⟨b, o, k, m, q, c4, xs, raw, rfl, hb, hsj, hst⟩ := steps_at H1.out h1
        have hx : xs.length ≤ 420 := Q1.out.2 j _ hsj h2
        have hm : m < 9223372036854775808 := hst.inn.2
        have ha : RdW w (.slice q xs.length c4) xs := hst.args
        have HA := (show Hid _ from ha)
        have HST := (show Hid _ from hst)
        have HSJ := (show Hid _ from hsj)
        have HX := (show Hid _ from hx)
        have HM := (show Hid _ from hm)
        clear hst hsj hx hm ha
        go_wp2
        go_region_held3 (fun w' => w'.cell? ⟨b, o + j * 4, none⟩ = some (.int .i64 k) ∧ w'.cell? ⟨b, o + j * 4 + 1, none⟩ = some (.int .i64 m) ∧ w'.cell? ⟨b, o + j * 4 + 2, none⟩ = some (.slice q xs.length c4))
          (first | exact cells3 HST.out hb rfl T.below.drew | exact cells3 HST.out hb rfl T4.below | exact cells3 HST.out hb rfl T5.below)
          (first
          | (go_at_call 28; refine (len_a T.drew).mono ?_; rintro ev w' ⟨rfl, rfl⟩)
          | (go_at_call 18; refine (some_at T.drew HA.out L.length (by have := HX.out; omega)).mono ?_; rintro ev w4 ⟨p4, c5, rfl, hr4, T4⟩)
          | (go_at_call 29; refine (make_a T4 k m hr4 HM.out).mono ?_; rintro ev w5 ⟨rfl, T5⟩))
        try simp only [Exit.then]
        clear T T4 hr4
        by_cases hj2 : j < n2
        · obtain ⟨b2, o2, k2, m2, q2, c42, xs2, raw2, rfl, hb2, hsj2, hst2⟩ := steps_at H2.out hj2
          have hx2 : xs2.length ≤ 420 := Q2.out.2 j _ hsj2 h2
          have hm2 : m2 < 9223372036854775808 := hst2.inn.2
          have ha2 : RdW w (.slice q2 xs2.length c42) xs2 := hst2.args
          have HA2 := (show Hid _ from ha2)
          have HST2 := (show Hid _ from hst2)
          have HX2 := (show Hid _ from hx2)
          have HM2 := (show Hid _ from hm2)
          clear hst2 hsj2 hx2 hm2 ha2
          go_wp2
          go_region_held3 (fun w' => w'.cell? ⟨b2, o2 + j * 4, none⟩ = some (.int .i64 k2) ∧ w'.cell? ⟨b2, o2 + j * 4 + 1, none⟩ = some (.int .i64 m2) ∧ w'.cell? ⟨b2, o2 + j * 4 + 2, none⟩ = some (.slice q2 xs2.length c42))
            (first | exact cells3 HST2.out hb2 rfl T5.below.drew | exact cells3 HST2.out hb2 rfl T6.below | exact cells3 HST2.out hb2 rfl T7.below)
            (first
            | (go_at_call 28; refine (len_a T5.turn.drew).mono ?_; rintro ev w' ⟨rfl, rfl⟩)
            | (go_at_call 18; refine (some_at T5.drew HA2.out Lc.length (by have := HX2.out; omega)).mono ?_; rintro ev w6 ⟨p6, c6, rfl, hr6, T6⟩)
            | (go_at_call 29; refine (make_c T6 k2 m2 hr6 HM2.out).mono ?_; rintro ev w7 ⟨rfl, T7⟩))
          try simp only [Exit.then]
          clear T5 T6 hr6
          go_wp2
          go_region_held3 (fun w' => w'.cell? ⟨b, o + j * 4, none⟩ = some (.int .i64 k) ∧ w'.cell? ⟨b, o + j * 4 + 1, none⟩ = some (.int .i64 m) ∧ w'.cell? ⟨b, o + j * 4 + 2, none⟩ = some (.slice q xs.length c4))
            (first | exact cells3 HST.out hb rfl T7.below.drew | exact cells3 HST.out hb rfl T8.below | exact cells3 HST.out hb rfl T9.below)
            (first
            | (go_at_call 28; refine (len_a T7.swap.drew).mono ?_; rintro ev w' ⟨rfl, rfl⟩)
            | (go_at_call 18; refine (some_at T7.drew HA.out L.length (by have := HX.out; omega)).mono ?_; rintro ev w8 ⟨p8, c8, rfl, hr8, T8⟩)
            | (go_at_call 29; refine (make_b T8 k m hr8 HM.out).mono ?_; rintro ev w9 ⟨rfl, T9⟩))
          try simp only [Exit.then]
          go_wp2
          exact ⟨⟨j + 1, _, _, by simp, by omega, by omega, T9⟩, by simp [intOf]; omega⟩
        · go_wp2
          go_region_held3 (fun w' => w'.cell? ⟨b, o + j * 4, none⟩ = some (.int .i64 k) ∧ w'.cell? ⟨b, o + j * 4 + 1, none⟩ = some (.int .i64 m) ∧ w'.cell? ⟨b, o + j * 4 + 2, none⟩ = some (.slice q xs.length c4))
            (first | exact cells3 HST.out hb rfl T5.below.drew | exact cells3 HST.out hb rfl T8.below | exact cells3 HST.out hb rfl T9.below)
            (first
            | (go_at_call 28; refine (len_a T5.swap.drew).mono ?_; rintro ev w' ⟨rfl, rfl⟩)
            | (go_at_call 18; refine (some_at T5.drew HA.out L.length (by have := HX.out; omega)).mono ?_; rintro ev w8 ⟨p8, c8, rfl, hr8, T8⟩)
            | (go_at_call 29; refine (make_b T8 k m hr8 HM.out).mono ?_; rintro ev w9 ⟨rfl, T9⟩))
          try simp only [Exit.then]
          go_wp2
          exact ⟨⟨j + 1, _, _, by simp, by omega, by omega, T9⟩, by simp [intOf]; omega⟩
      · rcases (show ¬ j < n1 ∨ (j < n1 ∧ ¬ j < 150) by omega) with h1 | ⟨h1, h2⟩
        all_goals (
          clear hlt
          go_wp2_with (first
            | (go_at_call 28; clear t6; refine (len_a T).mono ?_; rintro ev w' ⟨rfl, rfl⟩)
            | (go_at_call 28; clear t7; refine (len_a T.swap).mono ?_; rintro ev w' ⟨rfl, rfl⟩)
            | (go_at_call 17; refine (wakes_ok _).mono ?_; rintro ev w6 ⟨rfl, B6⟩))
          go_ret
          exact ⟨rfl, T.below.trans (B6.mono T.below.size)⟩)
end
theorem termTwo_law {v0 v1 : Value} {S0 S1 : List St} {w : World} (h0 : Steps w v0 S0) (h1 : Steps w v1 S1) : Calls Try.prog 10 #[v0, v1] w fun e w' => e = .returned (.bool true) ∧ Below w.heap.size w w' := by
  have h0' := h0
  have h1' := h1
  obtain ⟨p, c, rfl, _⟩ := h0
  obtain ⟨q, d, rfl, _⟩ := h1
  exact two_law p q _ c _ d S0 S1 w h0' h1'
theorem termTwo_lifted (os : Os) (started : os.Started) (H : Type) (enc : TypeId × Value → H) :
    ReturnsInHanded {} Try.checked os 10 .any (Rows.termTwoSpec.pre6 enc Try.prog Try.f10 Rows.termTwoRow.domain false) (Rows.termTwoSpec.post enc Try.prog Try.f10 false true false false) := by
  refine returnsInHanded_of_change (C := Try.checked) own started (by kernel_rfl) Try.func10
    (ChangeSpec.witness6 (enc := enc) (C := Try.checked) false ⟨#[], #[.slice none 0 0, .slice none 0 0], []⟩ 8 (by kernel_rfl) (by kernel_rfl) (by kernel_rfl) (by kernel_rfl)) ?_
  intro W base args ds gs before hval0 hW hcnd _
  have hval : ∀ (j : Nat) t v, Try.f10.params[j]? = some t → args[j]? = some v → Value.okWide Try.prog W .any base t v := hval0
  have hW' := hW
  obtain ⟨p, q, hA0, hV, rfl, hfz, hnd⟩ := hW
  have hA : DataW.TrodAll enc Try.prog W 0 (fun _ => true) true Try.f10.params.toList args.toList ds p := hA0
  rw [Try.params10] at hA hval
  obtain ⟨v0, vs0, d0, ds0, p0, q0, hargs, rfl, rfl, h0, r0⟩ := trodAll_cons hA
  obtain ⟨v1, vs1, d1, ds1, p1, q1, rfl, rfl, rfl, h1, r1⟩ := trodAll_cons r0
  obtain ⟨rfl, rfl, rfl⟩ := trodAll_nil r1
  obtain rfl : args = #[v0, v1] := by cases args; simp_all
  obtain ⟨rfl, rfl⟩ := trodVars_none hV
  obtain ⟨z0, k0⟩ := open_steps (hval 0 _ v0 rfl rfl) h0
  obtain ⟨z1, k1⟩ := open_steps (hval 1 _ v1 rfl rfl) h1
  clear hA0 hval0
  simp only [List.append_nil, List.nil_append] at hW'
  have hlt : ∀ x ∈ p0 ++ p1, x.block < W.heap.size := fun x hx => hW'.lt x hx
  refine (termTwo_law k0 k1).mono fun e W' ⟨he, hg⟩ => ?_
  subst he
  exact ⟨_, rfl, post_below (pa := p0 ++ p1) (pv := []) hW' (fun _ _ _ => trodAll_cons_mk (shut_bool Try.underlying4 _) trodAll_mk0) (fun sp hsp => (by have hh := (trodAll_cons_mk (kept_arg laidOut (by kernel_rfl) (of_decide_eq_true (by kernel_rfl)) h0 hg (fun x hx => hlt x (by simp [hx])) (fun x hx => hsp x (by simp [hx]))) (trodAll_cons_mk (kept_arg laidOut (by kernel_rfl) (of_decide_eq_true (by kernel_rfl)) h1 hg (fun x hx => hlt x (by simp [hx])) (fun x hx => hsp x (by simp [hx]))) trodAll_mk0)); simp only [List.append_nil] at hh; exact hh)) (fun _ _ => rfl) (by simp)
    hg (ok_one (by kernel_rfl) rfl (okWide_bool_mk Try.underlying4 _))⟩

/-- THE STATEMENT. -/
theorem termTwo_holds : Rows.TermTwoSaid :=
  OpenClaim.holds_of_wide 10 Try.f10 rfl rfl rfl rfl rfl rfl rfl ⟨rfl, rfl, rfl, rfl, rfl⟩ rfl rfl rfl rfl rfl (by kernel_rfl) Try.func10 (by kernel_rfl)
    (of_decide_eq_true (by kernel_rfl)) (by unfold Func.isWrapper; first | (rw [if_pos (by decide +kernel)]; kernel_rfl) | (rw [if_neg (by decide +kernel)]; exact ⟨rfl, rfl⟩))
    (fun os started H enc _ => termTwo_lifted os started H enc)
#print axioms termTwo_holds

end Go.Proofs.Ytehkfgjnapjefaa
