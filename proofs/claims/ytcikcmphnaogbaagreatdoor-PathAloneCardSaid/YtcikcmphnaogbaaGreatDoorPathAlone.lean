/-
  PathAlone: for all its arguments the law returns true, where the program's variables are laid as the program's text lays them. Conditions: none beside that one (the card ties it to the text).
-/
import Derived.Test.YtcikcmphnaogbaaGreatDoorPAb
namespace Go.Proofs.YtcikcmphnaogbaaGreatDoor
open Go.Sh
open Go.ChangeShapes Go.WideShapes Go.ChangeAt Go.RowKit
set_option maxRecDepth 100000

theorem noF_hold (ν : Nat → Int) : noF.Hold ν := ⟨fun p hp => (by cases hp), fun p hp => (by cases hp)⟩
theorem wakes_ok : PureG Tryz.prog glD 7 [] (.bool true) := pureG_of (ν := fun _ => 0) (args := []) (noF_hold _) mixed tab_ok glD_ok (fun r hr => by cases hr) (fun r hr => by cases hr) wk_says rfl rfl
theorem lawN_all : ∀ two, lawN two = true
  | false => lawN_f
  | true => lawN_t
theorem lawA_all : ∀ two g, lawA two g = true
  | false, false => lawA_ff
  | false, true => lawA_ft
  | true, false => lawA_tf
  | true, true => lawA_tt
theorem pathAlone_law (n : Int) (two : Bool) (_ : (Lit.int .i64 n).wf = true) : PureG Tryz.prog glD 3 [.int .i64 n, .bool two] (.bool true) := by
  by_cases h1 : n < 0
  · have hF : fN.Hold (fun _ => n) := ⟨fun p hp => (by cases hp), fun p hp => by
      simp only [fN, List.mem_cons, List.not_mem_nil, or_false] at hp
      subst hp
      exact decide_eq_true h1⟩
    exact pureG_of hF mixed tab_ok glD_ok (fun r hr => by cases hr) (fun r hr => by cases hr) (lawN_all two) rfl rfl
  · have hF : (fA (decide (n > 0))).Hold (fun _ => n) := ⟨fun p hp => (by cases hp), fun p hp => by
      simp only [fA, List.mem_cons, List.not_mem_nil, or_false] at hp
      rcases hp with rfl | rfl
      · exact decide_eq_false h1
      · rfl⟩
    refine pureG_of hF mixed tab_ok glD_ok (fun r hr => by cases hr) (fun w hw => ?_) (lawA_all two _) rfl rfl
    simp only [List.mem_cons, List.not_mem_nil, or_false] at hw
    subst hw
    exact ⟨_, _, rfl, rfl, wakes_ok⟩

abbrev pathAloneLaid : List (String × DataW Unit) := Rows.pathAloneRow.laid
theorem pathAlone_met (os : Os) (args : Array Value) : laidMetH Tryz.prog pathAloneLaid ((World.doorLaid Tryz.prog 400 os).forCall (fun _ _ => 0) ⟨#[], args, []⟩).memory :=
  laidMetH_of_parts3 (fuel := 8) (laidMet_of_run' 8 (by kernel_rfl) (by kernel_rfl)) (by kernel_rfl) (by kernel_rfl)

theorem pathAlone_lifted (os : Os) (started : os.Started) (H : Type) (enc : TypeId × Value → H) :
    ReturnsInHanded {} Tryz.checked os 3 .any (fun w args => (Rows.pathAloneSpec.pre enc Tryz.prog Tryz.f3 [] false w args ∧ laidMetH Tryz.prog pathAloneLaid w) ∧ sizedMet enc Tryz.prog Tryz.f3 (OpenSpec.ofChange Rows.pathAloneSpec) false w args)
      (Rows.pathAloneSpec.post enc Tryz.prog Tryz.f3 false true false false) := by
  refine returnsInHanded_of_change_and (C := Tryz.checked) (X := fun w _ => laidMetH Tryz.prog pathAloneLaid w) (fun _ _ _ hh h => h.of_heap hh) own started (by kernel_rfl) Tryz.func3
    (ChangeSpec.witness_shaped (enc := enc) (C := Tryz.checked) (os := os) (X := fun w _ => laidMetH Tryz.prog pathAloneLaid w) false (World.doorLaid Tryz.prog 400 os) #[.int .i64 0, .bool false] 8 rfl (World.shaped_of_RefB (by kernel_rfl) (by kernel_rfl)) (by kernel_rfl) (by kernel_rfl) (by kernel_rfl) (pathAlone_met os _)) ?_
  intro W base args ds gs before hval0 hW _ _ hL _
  have hval : ∀ (j : Nat) t v, Tryz.f3.params[j]? = some t → args[j]? = some v → Value.okWide Tryz.prog W .any base t v := hval0
  have hW' := hW
  obtain ⟨p, q, hA0, hV, rfl, hfz, hnd⟩ := hW
  have hA : DataW.TrodAll enc Tryz.prog W 0 (fun _ => true) true Tryz.f3.params.toList args.toList ds p := hA0
  rw [Tryz.params3] at hA hval
  obtain ⟨v0, vs0, d0, ds0, p0, q0, hargs, rfl, rfl, h0, r0⟩ := trodAll_cons hA
  obtain ⟨v1, vs1, d1, ds1, p1, q1, rfl, rfl, rfl, h1, r1⟩ := trodAll_cons r0
  obtain ⟨rfl, rfl, rfl⟩ := trodAll_nil r1
  obtain rfl : args = #[v0, v1] := by cases args; simp_all
  obtain ⟨rfl, rfl⟩ := trodVars_none hV
  obtain ⟨a0, rfl, rfl, rfl, b0⟩ := open_int Tryz.underlying3 (hval 0 _ v0 rfl rfl) h0
  have s0 := plain_int (H := H) Tryz.underlying3 b0
  obtain ⟨a1, rfl, rfl, rfl⟩ := open_bool Tryz.underlying4 (hval 1 _ v1 rfl rfl) h1
  have s1 := plain_bool (H := H) Tryz.underlying4 a1
  clear hA0 hval0
  simp only [List.append_nil] at hW'
  refine ((pathAlone_law a0 a1 b0).2 W (laidD hL)).mono fun e W' ⟨he, hg⟩ => ?_
  subst he
  exact ⟨_, rfl, post_below (pa := []) (pv := []) hW' (fun _ _ _ => trodAll_cons_mk (shut_bool Tryz.underlying4 _) trodAll_mk0) (fun sp _ => (trodAll_cons_mk (s0 _ _ _ _ _) (trodAll_cons_mk (s1 _ _ _ _ _) trodAll_mk0))) (fun _ _ => rfl) rfl
    hg (ok_one (by kernel_rfl) rfl (okWide_bool_mk Tryz.underlying4 _))⟩

theorem pathAlone_over : Rows.PathAloneSaid :=
  OpenClaim.holds_of_wide 3 Tryz.f3 rfl rfl rfl rfl rfl rfl rfl ⟨rfl, rfl, rfl, rfl, rfl⟩ rfl rfl rfl rfl rfl (by kernel_rfl) Tryz.func3 (by kernel_rfl)
    (of_decide_eq_true (by kernel_rfl)) (by unfold Func.isWrapper; first | (rw [if_pos (by decide +kernel)]; kernel_rfl) | (rw [if_neg (by decide +kernel)]; exact ⟨rfl, rfl⟩))
    (fun os started H enc _ => pathAlone_lifted os started H enc)

/-- THE STATEMENT. -/
theorem pathAlone_holds : Rows.PathAloneCardSaid :=
  Claim7.holds_tied_plain_at .later [] [.data, .data, .data, .handle] true (true, "c7366428ac4fdf8bc62d51c6e5f9062ddb0a03e01bd3c58acfe89cc5ee6cca64") true
    pathAlone_over (fun _ h => by cases h) (by kernel_rfl) (fun _ h => by cases h) pathAlone_row_tie rfl ⟨rfl, rfl⟩ (by kernel_rfl) rfl
    (fun f fn hf hfn => by
      obtain rfl : f = 3 := Option.some.inj ((show Tryz.prog.funcNamed "tryst/trystlaw17.PathAlone" = some 3 by kernel_rfl).symm.trans hf) |>.symm
      obtain rfl : fn = Tryz.f3 := (Option.some.inj (Tryz.func3.symm.trans hfn)).symm
      exact ⟨by kernel_rfl, fun j t ht => by
        rw [Tryz.params3] at ht
        have hm : t ∈ [3, 4] := by simpa using Array.mem_of_getElem? ht
        have hall : ([3, 4].all fun u => !Tryz.prog.wantsStandIn u) = true := by kernel_rfl
        exact (show Tryz.prog.wantsStandIn t = false by simpa using List.all_eq_true.1 hall t hm)⟩)
    (by kernel_rfl)
#print axioms pathAlone_holds
end Go.Proofs.YtcikcmphnaogbaaGreatDoor
