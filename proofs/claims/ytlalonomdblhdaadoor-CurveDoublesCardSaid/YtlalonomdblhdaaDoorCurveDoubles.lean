/-
  CurveDoubles: for all its arguments the law returns true, where the curve's variables are laid as the program's text lays them. Conditions: none beside that one (the card ties it to the text).
-/
import Derived.Test.YtlalonomdblhdaaDoorJc
namespace Go.Proofs.YtlalonomdblhdaaDoor
open Go.Sh
open Go.ChangeShapes Go.WideShapes Go.ChangeAt Go.RowKit
set_option maxRecDepth 100000

def dbT : List Row := [⟨15, [rw8 0], rw8 2⟩, ⟨11, [rw8 2, rw8 2], .tp [rw8 3, eOKg]⟩, ⟨11, [rw8 3, rw8 2], .tp [rw8 4, eOKg]⟩, ⟨13, [kB 2, rw8 2], .tp [rw8 3, eOKg]⟩, ⟨13, [kB 3, rw8 2], .tp [rw8 4, eOKg]⟩,
  ⟨13, [kB 0, rw8 2], .tp [kB 1, eOKg]⟩, ⟨13, [rw8 1, kB 1], .tp [kB 1, eOKg]⟩, ⟨17, [], .b true⟩]
theorem db_says : saysG noFacts tree [] glC dbT 400 6 7 [rw8 0, rw8 1] (.b true) = true := by kernel_rfl
theorem enc_zero' : enc .zero = 1 := by decide +kernel
theorem db_core (n m p d t : Nat) (hn : n < B4) (hm : m < B4) (P : Pt) (hP : smul n pB0 = P) (h1 : enc P = p) (h2 : enc (P.add P) = d) (h3 : enc ((P.add P).add P) = t) : PureG Tryd.prog glC 7 [byt n, byt m] (.bool true) := by
  have e2 : enc (smul 2 P) = d := by rw [smul_two]; exact h2
  have e3 : enc (smul 3 P) = t := by rw [smul_succ, smul_two]; exact h3
  refine pureG_of (ν := nub [n, m, p, d, t]) (args := [rw8 0, rw8 1]) (noFacts_hold _) mixed tab_ok glC_ok (fun r hr => by cases hr) (fun r hr => ?_) db_says (by simp [concT, nubR8]) rfl
  simp only [dbT, List.mem_cons, List.not_mem_nil, or_false] at hr
  rcases hr with rfl | rfl | rfl | rfl | rfl | rfl | rfl | rfl
  · exact OkG_up upC (rowBase hn (by rw [hP]; exact h1) (nubR8 _ 0) (nubR8c _ 2))
  · exact rowAddPt h1 h1 h2 (nubR8 _ 2) (nubR8 _ 2) (nubR8 _ 3)
  · exact rowAddPt h2 h1 h3 (nubR8 _ 3) (nubR8 _ 2) (nubR8 _ 4)
  · exact rowTimesPt (by decide) h1 e2 (kB_val _ 2) (nubR8 _ 2) (nubR8 _ 3)
  · exact rowTimesPt (by decide) h1 e3 (kB_val _ 3) (nubR8 _ 2) (nubR8 _ 4)
  · exact rowTimesPt (n := 0) (by decide) h1 enc_zero' (kB_val _ 0) (nubR8 _ 2) (kB_val _ 1)
  · exact rowTimesPt (P := .zero) hm enc_zero' (by rw [smul_zero']; exact enc_zero') (nubR8 _ 1) (kB_val _ 1) (kB_val _ 1)
  · exact OkG_up upC rowWakesG
theorem curveDoubles_law (n m : Nat) (hn : n < B4) (hm : m < B4) : PureG Tryd.prog glC 7 [byt n, byt m] (.bool true) := db_core n m _ _ _ hn hm _ rfl rfl rfl rfl

abbrev curveDoublesLaid : List (String × DataW Unit) := Rows.curveDoublesRow.laid
theorem curveDoubles_met (os : Os) (args : Array Value) : laidMetH Tryd.prog curveDoublesLaid ((World.doorLaid Tryd.prog 400 os).forCall (fun _ _ => 0) ⟨#[], args, []⟩).memory :=
  laidMetH_of_parts3 (fuel := 8) (laidMet_of_run' 8 (by kernel_rfl) (by kernel_rfl)) (by kernel_rfl) (by kernel_rfl)

theorem curveDoubles_lifted (os : Os) (started : os.Started) (H : Type) (enc : TypeId × Value → H) :
    ReturnsInHanded {} Tryd.checked os 7 .any (fun w args => (Rows.curveDoublesSpec.pre enc Tryd.prog Tryd.f7 [] false w args ∧ laidMetH Tryd.prog curveDoublesLaid w) ∧ sizedMet enc Tryd.prog Tryd.f7 (OpenSpec.ofChange Rows.curveDoublesSpec) false w args)
      (Rows.curveDoublesSpec.post enc Tryd.prog Tryd.f7 false true false false) := by
  refine returnsInHanded_of_change_and (C := Tryd.checked) (X := fun w _ => laidMetH Tryd.prog curveDoublesLaid w) (fun _ _ _ hh h => h.of_heap hh) own started (by kernel_rfl) Tryd.func7
    (ChangeSpec.witness_shaped (enc := enc) (C := Tryd.checked) (os := os) (X := fun w _ => laidMetH Tryd.prog curveDoublesLaid w) false (World.doorLaid Tryd.prog 400 os) #[byt 0, byt 0] 8 rfl (World.shaped_of_RefB (by kernel_rfl) (by kernel_rfl)) (by kernel_rfl) (by kernel_rfl) (by kernel_rfl) (curveDoubles_met os _)) ?_
  intro W base args ds gs before hval0 hW _ _ hL _
  have hval : ∀ (j : Nat) t v, Tryd.f7.params[j]? = some t → args[j]? = some v → Value.okWide Tryd.prog W .any base t v := hval0
  have hW' := hW
  obtain ⟨p, q, hA0, hV, rfl, hfz, hnd⟩ := hW
  have hA : DataW.TrodAll enc Tryd.prog W 0 (fun _ => true) true Tryd.f7.params.toList args.toList ds p := hA0
  rw [Tryd.params7] at hA hval
  obtain ⟨v0, vs0, d0, ds0, p0, q0, hargs, rfl, rfl, h0, r0⟩ := trodAll_cons hA
  obtain ⟨v1, vs1, d1, ds1, p1, q1, rfl, rfl, rfl, h1, r1⟩ := trodAll_cons r0
  obtain ⟨rfl, rfl, rfl⟩ := trodAll_nil r1
  obtain rfl : args = #[v0, v1] := by cases args; simp_all
  obtain ⟨rfl, rfl⟩ := trodVars_none hV
  obtain ⟨a0, b0, rfl, rfl, s0⟩ := open_num (hval 0 _ v0 rfl rfl) h0
  obtain ⟨a1, b1, rfl, rfl, s1⟩ := open_num (hval 1 _ v1 rfl rfl) h1
  clear hA0 hval0
  simp only [List.append_nil] at hW'
  refine ((curveDoubles_law a0 a1 b0 b1).2 W (laidC hL)).mono fun e W' ⟨he, hg⟩ => ?_
  subst he
  exact ⟨_, rfl, post_below (pa := []) (pv := []) hW' (fun _ _ _ => trodAll_cons_mk (shut_bool Tryd.underlying4 _) trodAll_mk0) (fun sp _ => (trodAll_cons_mk (s0 _ _ _ _ _) (trodAll_cons_mk (s1 _ _ _ _ _) trodAll_mk0))) (fun _ _ => rfl) rfl
    hg (ok_one (by kernel_rfl) rfl (okWide_bool_mk Tryd.underlying4 _))⟩

theorem curveDoubles_over : Rows.CurveDoublesSaid :=
  OpenClaim.holds_of_wide 7 Tryd.f7 rfl rfl rfl rfl rfl rfl rfl ⟨rfl, rfl, rfl, rfl, rfl⟩ rfl rfl rfl rfl rfl (by kernel_rfl) Tryd.func7 (by kernel_rfl)
    (of_decide_eq_true (by kernel_rfl)) (by unfold Func.isWrapper; first | (rw [if_pos (by decide +kernel)]; kernel_rfl) | (rw [if_neg (by decide +kernel)]; exact ⟨rfl, rfl⟩))
    (fun os started H enc _ => curveDoubles_lifted os started H enc)

/-- THE STATEMENT. -/
theorem curveDoubles_holds : Rows.CurveDoublesCardSaid :=
  Claim7.holds_tied_plain_at .later [] [.data, .data, .data, .data] true (true, "f058b10e4c3dc150723787051f4944b128d27700496289b34a03bfc7ec75b735") false
    curveDoubles_over (fun _ h => by cases h) (by kernel_rfl) (fun _ h => by cases h) curveDoubles_row_tie rfl ⟨rfl, rfl⟩ (by kernel_rfl) rfl
    (fun f fn hf hfn => by
      obtain rfl : f = 7 := Option.some.inj ((show Tryd.prog.funcNamed "tryst/trystlaw08.CurveDoubles" = some 7 by kernel_rfl).symm.trans hf) |>.symm
      obtain rfl : fn = Tryd.f7 := (Option.some.inj (Tryd.func7.symm.trans hfn)).symm
      exact ⟨by kernel_rfl, fun j t ht => by
        rw [Tryd.params7] at ht
        have hm : t ∈ [22, 22] := by simpa using Array.mem_of_getElem? ht
        have hall : ([22, 22].all fun u => !Tryd.prog.wantsStandIn u) = true := by kernel_rfl
        exact (show Tryd.prog.wantsStandIn t = false by simpa using List.all_eq_true.1 hall t hm)⟩)
    (by kernel_rfl)
#print axioms curveDoubles_holds
end Go.Proofs.YtlalonomdblhdaaDoor
