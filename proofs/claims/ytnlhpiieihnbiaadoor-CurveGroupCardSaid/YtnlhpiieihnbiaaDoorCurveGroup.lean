/-
  CurveGroup: for all its arguments the law returns true, where the program's variables are laid as the program's text lays them. Conditions: none beside that one (the card ties it to the text).
-/
import Derived.Test.YtnlhpiieihnbiaaDoorJc
namespace Go.Proofs.YtnlhpiieihnbiaaDoor
open Go.Sh
open Go.ChangeShapes Go.WideShapes Go.ChangeAt Go.RowKit
set_option maxRecDepth 100000

def gpT : List Row := [⟨15, [rw8 0], rw8 3⟩, ⟨15, [rw8 1], rw8 4⟩, ⟨15, [rw8 2], rw8 5⟩, ⟨15, [kB 0], kB 1⟩,
  ⟨16, [rw8 3, rw8 4], .tp [rw8 6, eOKg]⟩, ⟨16, [rw8 4, rw8 3], .tp [rw8 6, eOKg]⟩, ⟨17, [rw8 6], eOKg⟩, ⟨16, [rw8 6, rw8 5], .tp [rw8 7, eOKg]⟩,
  ⟨16, [rw8 4, rw8 5], .tp [rw8 8, eOKg]⟩, ⟨16, [rw8 3, rw8 8], .tp [rw8 7, eOKg]⟩, ⟨16, [rw8 3, kB 1], .tp [rw8 3, eOKg]⟩, ⟨14, [], .b true⟩]
theorem gp_says : saysG noFacts tree [] glC gpT 400 8 4 [rw8 0, rw8 1, rw8 2] (.b true) = true := by kernel_rfl
theorem enc_zero' : enc .zero = 1 := by decide +kernel
theorem gp_core (a b c p q r s t u : Nat) (ha : a < B4) (hb : b < B4) (hc : c < B4) (P Q R : Pt) (hP : smul a pB0 = P) (hQ : smul b pB0 = Q) (hR : smul c pB0 = R) (h1 : enc P = p) (h2 : enc Q = q) (h3 : enc R = r) (h4 : enc (P.add Q) = s) (h5 : enc ((P.add Q).add R) = t) (h6 : enc (Q.add R) = u) :
    PureG Tryd.prog glC 4 [byt a, byt b, byt c] (.bool true) := by
  refine pureG_of (ν := nub [a, b, c, p, q, r, s, t, u]) (args := [rw8 0, rw8 1, rw8 2]) (noFacts_hold _) mixed tab_ok glC_ok (fun r hr => by cases hr) (fun r hr => ?_) gp_says (by simp [concT, nubR8]) rfl
  simp only [gpT, List.mem_cons, List.not_mem_nil, or_false] at hr
  rcases hr with rfl | rfl | rfl | rfl | rfl | rfl | rfl | rfl | rfl | rfl | rfl | rfl
  · exact OkG_up upC (rowBase ha (by rw [hP]; exact h1) (nubR8 _ 0) (nubR8c _ 3))
  · exact OkG_up upC (rowBase hb (by rw [hQ]; exact h2) (nubR8 _ 1) (nubR8c _ 4))
  · exact OkG_up upC (rowBase hc (by rw [hR]; exact h3) (nubR8 _ 2) (nubR8c _ 5))
  · exact OkG_up upC (rowBase (n := 0) (by decide) enc_zero (kB_val _ 0) (kB_valc _ 1))
  · exact rowAddPt h1 h2 h4 (nubR8 _ 3) (nubR8 _ 4) (nubR8 _ 6)
  · exact rowAddPt h2 h1 (by rw [add_comm']; exact h4) (nubR8 _ 4) (nubR8 _ 3) (nubR8 _ 6)
  · exact rowCheck h4 (nubR8 _ 6)
  · exact rowAddPt h4 h3 h5 (nubR8 _ 6) (nubR8 _ 5) (nubR8 _ 7)
  · exact rowAddPt h2 h3 h6 (nubR8 _ 4) (nubR8 _ 5) (nubR8 _ 8)
  · exact rowAddPt h1 h6 (by rw [← add_assoc']; exact h5) (nubR8 _ 3) (nubR8 _ 8) (nubR8 _ 7)
  · exact rowAddPt h1 enc_zero' (by rw [add_zero']; exact h1) (nubR8 _ 3) (kB_val _ 1) (nubR8 _ 3)
  · exact OkG_up upC rowWakesG
theorem curveGroup_law (a b c : Nat) (ha : a < B4) (hb : b < B4) (hc : c < B4) : PureG Tryd.prog glC 4 [byt a, byt b, byt c] (.bool true) := gp_core a b c _ _ _ _ _ _ ha hb hc _ _ _ rfl rfl rfl rfl rfl rfl rfl rfl rfl

abbrev curveGroupLaid : List (String × DataW Unit) := Rows.curveGroupRow.laid
theorem curveGroup_met (os : Os) (args : Array Value) : laidMetH Tryd.prog curveGroupLaid ((World.doorLaid Tryd.prog 400 os).forCall (fun _ _ => 0) ⟨#[], args, []⟩).memory :=
  laidMetH_of_parts3 (fuel := 8) (laidMet_of_run' 8 (by kernel_rfl) (by kernel_rfl)) (by kernel_rfl) (by kernel_rfl)

theorem curveGroup_lifted (os : Os) (started : os.Started) (H : Type) (enc : TypeId × Value → H) :
    ReturnsInHanded {} Tryd.checked os 4 .any (fun w args => (Rows.curveGroupSpec.pre enc Tryd.prog Tryd.f4 [] false w args ∧ laidMetH Tryd.prog curveGroupLaid w) ∧ sizedMet enc Tryd.prog Tryd.f4 (OpenSpec.ofChange Rows.curveGroupSpec) false w args)
      (Rows.curveGroupSpec.post enc Tryd.prog Tryd.f4 false true false false) := by
  refine returnsInHanded_of_change_and (C := Tryd.checked) (X := fun w _ => laidMetH Tryd.prog curveGroupLaid w) (fun _ _ _ hh h => h.of_heap hh) own started (by kernel_rfl) Tryd.func4
    (ChangeSpec.witness_shaped (enc := enc) (C := Tryd.checked) (os := os) (X := fun w _ => laidMetH Tryd.prog curveGroupLaid w) false (World.doorLaid Tryd.prog 400 os) #[byt 0, byt 0, byt 0] 8 rfl (World.shaped_of_RefB (by kernel_rfl) (by kernel_rfl)) (by kernel_rfl) (by kernel_rfl) (by kernel_rfl) (curveGroup_met os _)) ?_
  intro W base args ds gs before hval0 hW _ _ hL _
  have hval : ∀ (j : Nat) t v, Tryd.f4.params[j]? = some t → args[j]? = some v → Value.okWide Tryd.prog W .any base t v := hval0
  have hW' := hW
  obtain ⟨p, q, hA0, hV, rfl, hfz, hnd⟩ := hW
  have hA : DataW.TrodAll enc Tryd.prog W 0 (fun _ => true) true Tryd.f4.params.toList args.toList ds p := hA0
  rw [Tryd.params4] at hA hval
  obtain ⟨v0, vs0, d0, ds0, p0, q0, hargs, rfl, rfl, h0, r0⟩ := trodAll_cons hA
  obtain ⟨v1, vs1, d1, ds1, p1, q1, rfl, rfl, rfl, h1, r1⟩ := trodAll_cons r0
  obtain ⟨v2, vs2, d2, ds2, p2, q2, rfl, rfl, rfl, h2, r2⟩ := trodAll_cons r1
  obtain ⟨rfl, rfl, rfl⟩ := trodAll_nil r2
  obtain rfl : args = #[v0, v1, v2] := by cases args; simp_all
  obtain ⟨rfl, rfl⟩ := trodVars_none hV
  obtain ⟨a0, b0, rfl, rfl, s0⟩ := open_num (hval 0 _ v0 rfl rfl) h0
  obtain ⟨a1, b1, rfl, rfl, s1⟩ := open_num (hval 1 _ v1 rfl rfl) h1
  obtain ⟨a2, b2, rfl, rfl, s2⟩ := open_num (hval 2 _ v2 rfl rfl) h2
  clear hA0 hval0
  simp only [List.append_nil] at hW'
  refine ((curveGroup_law a0 a1 a2 b0 b1 b2).2 W (laidC hL)).mono fun e W' ⟨he, hg⟩ => ?_
  subst he
  exact ⟨_, rfl, post_below (pa := []) (pv := []) hW' (fun _ _ _ => trodAll_cons_mk (shut_bool Tryd.underlying4 _) trodAll_mk0) (fun sp _ => (trodAll_cons_mk (s0 _ _ _ _ _) (trodAll_cons_mk (s1 _ _ _ _ _) (trodAll_cons_mk (s2 _ _ _ _ _) trodAll_mk0)))) (fun _ _ => rfl) rfl
    hg (ok_one (by kernel_rfl) rfl (okWide_bool_mk Tryd.underlying4 _))⟩

theorem curveGroup_over : Rows.CurveGroupSaid :=
  OpenClaim.holds_of_wide 4 Tryd.f4 rfl rfl rfl rfl rfl rfl rfl ⟨rfl, rfl, rfl, rfl, rfl⟩ rfl rfl rfl rfl rfl (by kernel_rfl) Tryd.func4 (by kernel_rfl)
    (of_decide_eq_true (by kernel_rfl)) (by unfold Func.isWrapper; first | (rw [if_pos (by decide +kernel)]; kernel_rfl) | (rw [if_neg (by decide +kernel)]; exact ⟨rfl, rfl⟩))
    (fun os started H enc _ => curveGroup_lifted os started H enc)

/-- THE STATEMENT. -/
theorem curveGroup_holds : Rows.CurveGroupCardSaid :=
  Claim7.holds_tied_plain_at .later [] [.data, .data, .data, .data] true (true, "4fd09045e6821276d435d2d4998247e0789e5cdd2116a89db7f4265888bac662") false
    curveGroup_over (fun _ h => by cases h) (by kernel_rfl) (fun _ h => by cases h) curveGroup_row_tie rfl ⟨rfl, rfl⟩ (by kernel_rfl) rfl
    (fun f fn hf hfn => by
      obtain rfl : f = 4 := Option.some.inj ((show Tryd.prog.funcNamed "tryst/trystlaw08.CurveGroup" = some 4 by kernel_rfl).symm.trans hf) |>.symm
      obtain rfl : fn = Tryd.f4 := (Option.some.inj (Tryd.func4.symm.trans hfn)).symm
      exact ⟨by kernel_rfl, fun j t ht => by
        rw [Tryd.params4] at ht
        have hm : t ∈ [23, 23, 23] := by simpa using Array.mem_of_getElem? ht
        have hall : ([23, 23, 23].all fun u => !Tryd.prog.wantsStandIn u) = true := by kernel_rfl
        exact (show Tryd.prog.wantsStandIn t = false by simpa using List.all_eq_true.1 hall t hm)⟩)
    (by kernel_rfl)
#print axioms curveGroup_holds
end Go.Proofs.YtnlhpiieihnbiaaDoor
