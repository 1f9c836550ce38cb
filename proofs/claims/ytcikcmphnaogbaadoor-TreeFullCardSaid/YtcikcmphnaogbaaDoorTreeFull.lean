/-
  TreeFull: for all its arguments the law returns true, where the program's variables are laid as the program's text lays them. Conditions: none beside that one (the card ties it to the text).
-/
import Derived.Test.YtcikcmphnaogbaaDoorTFe
namespace Go.Proofs.YtcikcmphnaogbaaDoor
open Go.Sh
open Go.ChangeShapes Go.WideShapes Go.ChangeAt Go.RowKit
set_option maxRecDepth 100000

def nu3 (n pub sig : Int) : Nat → Int := fun k => match k with | 0 => n | 1 => pub | _ => sig
theorem lawT_all : ∀ r, r < 8 → lawT r = true
  | 0, _ => lawT_0
  | 1, _ => lawT_1
  | 2, _ => lawT_2
  | 3, _ => lawT_3
  | 4, _ => lawT_4
  | 5, _ => lawT_5
  | 6, _ => lawT_6
  | 7, _ => lawT_7
  | r + 8, h => by omega
theorem noF_hold (ν : Nat → Int) : noF.Hold ν := ⟨fun p hp => (by cases hp), fun p hp => (by cases hp)⟩
theorem wakes_ok : PureG Tryd.prog glD 11 [] (.bool true) := pureG_of (ν := fun _ => 0) (args := []) (noF_hold _) mixed tab_ok glD_ok (fun r hr => by cases hr) (fun r hr => by cases hr) wk_says rfl rfl
theorem rem8 (n : Int) : ∃ r : Nat, r < 8 ∧ (AI.e .rem .u64 (.w .u64 (.s 0)) (nC 8)).val (nu3 n 0 0) = (r : Int) := by
  refine ⟨((IntKind.u64.wrap n).tmod 8).toNat, ?_, ?_⟩
  · have h0 : 0 ≤ IntKind.u64.wrap n := by simp [IntKind.wrap, IntKind.signed, IntKind.bits]; omega
    rw [Int.tmod_eq_emod_of_nonneg h0]
    omega
  · have h0 : 0 ≤ IntKind.u64.wrap n := by simp [IntKind.wrap, IntKind.signed, IntKind.bits]; omega
    show (IntKind.u64.wrap n).tmod 8 = _
    rw [Int.tmod_eq_emod_of_nonneg h0]
    omega
theorem treeFull_law (n pub sig : Int) (_ : (Lit.int .i64 n).wf = true) (_ : (Lit.int .i64 pub).wf = true) (_ : (Lit.int .i64 sig).wf = true) : PureG Tryd.prog glD 3 [.int .i64 n, .int .i64 pub, .int .i64 sig] (.bool true) := by
  by_cases h1 : pub < 0
  · have hF : fN.Hold (nu3 n pub sig) := ⟨fun p hp => (by cases hp), fun p hp => by
      simp only [fN, List.mem_cons, List.not_mem_nil, or_false] at hp
      subst hp
      exact decide_eq_true h1⟩
    exact pureG_of hF mixed tab_ok glD_ok (fun r hr => by cases hr) (fun r hr => by cases hr) lawN rfl rfl
  · by_cases h2 : sig < 0
    · have hF : fM.Hold (nu3 n pub sig) := ⟨fun p hp => (by cases hp), fun p hp => by
        simp only [fM, List.mem_cons, List.not_mem_nil, or_false] at hp
        rcases hp with rfl | rfl
        · exact decide_eq_false h1
        · exact decide_eq_true h2⟩
      exact pureG_of hF mixed tab_ok glD_ok (fun r hr => by cases hr) (fun r hr => by cases hr) lawM rfl rfl
    · obtain ⟨r, hr, he⟩ := rem8 n
      have hF : (fT r).Hold (nu3 n pub sig) := ⟨fun p hp => by
        simp only [fT, List.mem_cons, List.not_mem_nil, or_false] at hp
        subst hp
        exact he, fun p hp => by
        simp only [fT, List.mem_cons, List.not_mem_nil, or_false] at hp
        rcases hp with rfl | rfl | rfl | rfl
        · exact decide_eq_true (show pub ≥ 0 by omega)
        · exact decide_eq_true (show sig ≥ 0 by omega)
        · exact decide_eq_false h1
        · exact decide_eq_false h2⟩
      refine pureG_of hF mixed tab_ok glD_ok (fun r hr => by cases hr) (fun w hw => ?_) (lawT_all r hr) rfl rfl
      simp only [List.mem_cons, List.not_mem_nil, or_false] at hw
      subst hw
      exact ⟨_, _, rfl, rfl, wakes_ok⟩

abbrev treeFullLaid : List (String × DataW Unit) := Rows.treeFullRow.laid
theorem treeFull_met (os : Os) (args : Array Value) : laidMetH Tryd.prog treeFullLaid ((World.doorLaid Tryd.prog 400 os).forCall (fun _ _ => 0) ⟨#[], args, []⟩).memory :=
  laidMetH_of_parts3 (fuel := 8) (laidMet_of_run' 8 (by kernel_rfl) (by kernel_rfl)) (by kernel_rfl) (by kernel_rfl)

theorem treeFull_lifted (os : Os) (started : os.Started) (H : Type) (enc : TypeId × Value → H) :
    ReturnsInHanded {} Tryd.checked os 3 .any (fun w args => (Rows.treeFullSpec.pre enc Tryd.prog Tryd.f3 [] false w args ∧ laidMetH Tryd.prog treeFullLaid w) ∧ sizedMet enc Tryd.prog Tryd.f3 (OpenSpec.ofChange Rows.treeFullSpec) false w args)
      (Rows.treeFullSpec.post enc Tryd.prog Tryd.f3 false true false false) := by
  refine returnsInHanded_of_change_and (C := Tryd.checked) (X := fun w _ => laidMetH Tryd.prog treeFullLaid w) (fun _ _ _ hh h => h.of_heap hh) own started (by kernel_rfl) Tryd.func3
    (ChangeSpec.witness_shaped (enc := enc) (C := Tryd.checked) (os := os) (X := fun w _ => laidMetH Tryd.prog treeFullLaid w) false (World.doorLaid Tryd.prog 400 os) #[.int .i64 0, .int .i64 0, .int .i64 0] 8 rfl (World.shaped_of_RefB (by kernel_rfl) (by kernel_rfl)) (by kernel_rfl) (by kernel_rfl) (by kernel_rfl) (treeFull_met os _)) ?_
  intro W base args ds gs before hval0 hW _ _ hL _
  have hval : ∀ (j : Nat) t v, Tryd.f3.params[j]? = some t → args[j]? = some v → Value.okWide Tryd.prog W .any base t v := hval0
  have hW' := hW
  obtain ⟨p, q, hA0, hV, rfl, hfz, hnd⟩ := hW
  have hA : DataW.TrodAll enc Tryd.prog W 0 (fun _ => true) true Tryd.f3.params.toList args.toList ds p := hA0
  rw [Tryd.params3] at hA hval
  obtain ⟨v0, vs0, d0, ds0, p0, q0, hargs, rfl, rfl, h0, r0⟩ := trodAll_cons hA
  obtain ⟨v1, vs1, d1, ds1, p1, q1, rfl, rfl, rfl, h1, r1⟩ := trodAll_cons r0
  obtain ⟨v2, vs2, d2, ds2, p2, q2, rfl, rfl, rfl, h2, r2⟩ := trodAll_cons r1
  obtain ⟨rfl, rfl, rfl⟩ := trodAll_nil r2
  obtain rfl : args = #[v0, v1, v2] := by cases args; simp_all
  obtain ⟨rfl, rfl⟩ := trodVars_none hV
  obtain ⟨a0, rfl, rfl, rfl, b0⟩ := open_int Tryd.underlying3 (hval 0 _ v0 rfl rfl) h0
  have s0 := plain_int (H := H) Tryd.underlying3 b0
  obtain ⟨a1, rfl, rfl, rfl, b1⟩ := open_int Tryd.underlying3 (hval 1 _ v1 rfl rfl) h1
  have s1 := plain_int (H := H) Tryd.underlying3 b1
  obtain ⟨a2, rfl, rfl, rfl, b2⟩ := open_int Tryd.underlying3 (hval 2 _ v2 rfl rfl) h2
  have s2 := plain_int (H := H) Tryd.underlying3 b2
  clear hA0 hval0
  simp only [List.append_nil] at hW'
  refine ((treeFull_law a0 a1 a2 b0 b1 b2).2 W (laidD hL)).mono fun e W' ⟨he, hg⟩ => ?_
  subst he
  exact ⟨_, rfl, post_below (pa := []) (pv := []) hW' (fun _ _ _ => trodAll_cons_mk (shut_bool Tryd.underlying4 _) trodAll_mk0) (fun sp _ => (trodAll_cons_mk (s0 _ _ _ _ _) (trodAll_cons_mk (s1 _ _ _ _ _) (trodAll_cons_mk (s2 _ _ _ _ _) trodAll_mk0)))) (fun _ _ => rfl) rfl
    hg (ok_one (by kernel_rfl) rfl (okWide_bool_mk Tryd.underlying4 _))⟩

theorem treeFull_over : Rows.TreeFullSaid :=
  OpenClaim.holds_of_wide 3 Tryd.f3 rfl rfl rfl rfl rfl rfl rfl ⟨rfl, rfl, rfl, rfl, rfl⟩ rfl rfl rfl rfl rfl (by kernel_rfl) Tryd.func3 (by kernel_rfl)
    (of_decide_eq_true (by kernel_rfl)) (by unfold Func.isWrapper; first | (rw [if_pos (by decide +kernel)]; kernel_rfl) | (rw [if_neg (by decide +kernel)]; exact ⟨rfl, rfl⟩))
    (fun os started H enc _ => treeFull_lifted os started H enc)

/-- THE STATEMENT. -/
theorem treeFull_holds : Rows.TreeFullCardSaid :=
  Claim7.holds_tied_plain_at .later [] [.data] true (true, "37b7fbe17f17af84c240f640f57938284aa75a71f39a9f718556086d5ec1f2d8") true
    treeFull_over (fun _ h => by cases h) (by kernel_rfl) (fun _ h => by cases h) treeFull_row_tie rfl ⟨rfl, rfl⟩ (by kernel_rfl) rfl
    (fun f fn hf hfn => by
      obtain rfl : f = 3 := Option.some.inj ((show Tryd.prog.funcNamed "tryst/trystlaw16.TreeFull" = some 3 by kernel_rfl).symm.trans hf) |>.symm
      obtain rfl : fn = Tryd.f3 := (Option.some.inj (Tryd.func3.symm.trans hfn)).symm
      exact ⟨by kernel_rfl, fun j t ht => by
        rw [Tryd.params3] at ht
        have hm : t ∈ [3, 3, 3] := by simpa using Array.mem_of_getElem? ht
        have hall : ([3, 3, 3].all fun u => !Tryd.prog.wantsStandIn u) = true := by kernel_rfl
        exact (show Tryd.prog.wantsStandIn t = false by simpa using List.all_eq_true.1 hall t hm)⟩)
    (by kernel_rfl)
#print axioms treeFull_holds
end Go.Proofs.YtcikcmphnaogbaaDoor
