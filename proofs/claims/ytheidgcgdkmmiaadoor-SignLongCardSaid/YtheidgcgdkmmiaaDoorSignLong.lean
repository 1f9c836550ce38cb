/-
  SignLong: for all its arguments the law returns true, where the program's variables are laid as the program's text lays them. Conditions: none beside that one (the card ties it to the text).
-/
import Derived.Test.YtheidgcgdkmmiaaDoorRk
namespace Go.Proofs.YtheidgcgdkmmiaaDoor
open Go.Sh
open Go.ChangeShapes Go.WideShapes Go.ChangeAt Go.RowKit
set_option maxRecDepth 100000

theorem signLong_law (x : Nat) (z : Int) (_ : x < B4) (_ : (Lit.int .i64 z).wf = true) : PureG Tryd.prog gl9 6 [byt x, .int .i64 z] (.bool true) := by
  refine ⟨⟨_, Tryd.func6, by kernel_rfl, by kernel_rfl⟩, fun w hw => ?_⟩
  let ν0 : Nat → Int := nu9 [x] [] z (fun _ => 0) (fun _ _ => 0)
  have v0 : ν0 9000 = z := nu9_n
  have args0 : ∀ ρ, LR ν0 ρ [rw8 0, .i .i64 (.s 9000)] #[byt x, .int .i64 z] := fun ρ => lr_of (vs := [_, _]) ⟨(conc2_vr (nu9_b 0 (by decide))).1, by rw [← v0]; exact .i _ _, trivial⟩
  by_cases h1 : z < -1
  · refine yes_ofN (ρ := embF fun _ => none) (law_row9 (ν := ν0) (by decide) ⟨fun p hp => (by cases hp), fun p hp => ?_, fun p hp => by cases hp⟩ (fun r hr => by cases hr) (fun r hr => by cases hr) (fun r hr => by cases hr) lo_no1 (fun p hp => by cases hp) (by kernel_rfl)) hw (fun p hp => by cases hp) (args0 _)
    simp only [List.mem_cons, List.not_mem_nil, or_false] at hp
    subst hp
    show decide (ν0 9000 < -1) = true
    rw [v0]
    exact decide_eq_true h1
  by_cases h2 : 1 < z
  · refine yes_ofN (ρ := embF fun _ => none) (law_row9 (ν := ν0) (by decide) ⟨fun p hp => (by cases hp), fun p hp => ?_, fun p hp => by cases hp⟩ (fun r hr => by cases hr) (fun r hr => by cases hr) (fun r hr => by cases hr) lo_no2 (fun p hp => by cases hp) (by kernel_rfl)) hw (fun p hp => by cases hp) (args0 _)
    simp only [List.mem_cons, List.not_mem_nil, or_false] at hp
    rcases hp with rfl | rfl
    · show decide (ν0 9000 < -1) = false
      rw [v0]
      exact decide_eq_false h1
    · show decide (ν0 9000 > 1) = true
      rw [v0]
      exact decide_eq_true h2
  obtain ⟨n, hn⟩ : ∃ n : Nat, (n : Int) = 65536 + z := ⟨(65536 + z).toNat, by omega⟩
  obtain ⟨g, rfl, H⟩ := sg_is x n zz0
  obtain ⟨b, B⟩ := bk_is g n zz0
  have vo := ovI_val (g := g) (e := b.e g zz0) hn (by omega) (by omega)
  have args : ∀ ρ, LR (nuX9 g (b.e g zz0) n zz0) ρ [rw8 0, ovV9] #[byt g.x, .int .i64 z] := fun ρ => lr_of (vs := [_, _]) ⟨(conc2_vr (nu9_b 0 (by decide))).1, by rw [← vo]; exact .i _ _, trivial⟩
  by_cases h3 : z = 1
  · exact yes_ofN (ρ := embF fun _ => none) (law_row9 (by decide) (lvF_hold hn h3) sgT_ok (loG_ok H B) (lvM_ok H) lv_go (fun p hp => by cases hp) (by kernel_rfl)) hw (fun p hp => by cases hp) (args _)
  · exact yes_ofN (ρ := embF fun _ => none) (law_row9 (by decide) (loF_hold H hn (by omega) (by omega)) sgT_ok (loG_ok H B) (loM_ok H (by omega)) lo_go (fun p hp => by cases hp) (by kernel_rfl)) hw (fun p hp => by cases hp) (args _)

abbrev signLongLaid : List (String × DataW Unit) := Rows.signLongRow.laid
theorem signLong_met (os : Os) (args : Array Value) : laidMetH Tryd.prog signLongLaid ((World.doorLaid Tryd.prog 400 os).forCall (fun _ _ => 0) ⟨#[], args, []⟩).memory :=
  laidMetH_of_parts3 (fuel := 8) (laidMet_of_run' 8 (by kernel_rfl) (by kernel_rfl)) (by kernel_rfl) (by kernel_rfl)

theorem signLong_lifted (os : Os) (started : os.Started) (H : Type) (enc : TypeId × Value → H) :
    ReturnsInHanded {} Tryd.checked os 6 .any (fun w args => (Rows.signLongSpec.pre enc Tryd.prog Tryd.f6 [] false w args ∧ laidMetH Tryd.prog signLongLaid w) ∧ sizedMet enc Tryd.prog Tryd.f6 (OpenSpec.ofChange Rows.signLongSpec) false w args)
      (Rows.signLongSpec.post enc Tryd.prog Tryd.f6 false true false false) := by
  refine returnsInHanded_of_change_and (C := Tryd.checked) (X := fun w _ => laidMetH Tryd.prog signLongLaid w) (fun _ _ _ hh h => h.of_heap hh) own started (by kernel_rfl) Tryd.func6
    (ChangeSpec.witness_shaped (enc := enc) (C := Tryd.checked) (os := os) (X := fun w _ => laidMetH Tryd.prog signLongLaid w) false (World.doorLaid Tryd.prog 400 os) #[byt 0, .int .i64 0] 8 rfl (World.shaped_of_RefB (by kernel_rfl) (by kernel_rfl)) (by kernel_rfl) (by kernel_rfl) (by kernel_rfl) (signLong_met os _)) ?_
  intro W base args ds gs before hval0 hW _ _ hL _
  have hval : ∀ (j : Nat) t v, Tryd.f6.params[j]? = some t → args[j]? = some v → Value.okWide Tryd.prog W .any base t v := hval0
  have hW' := hW
  obtain ⟨p, q, hA0, hV, rfl, hfz, hnd⟩ := hW
  have hA : DataW.TrodAll enc Tryd.prog W 0 (fun _ => true) true Tryd.f6.params.toList args.toList ds p := hA0
  rw [Tryd.params6] at hA hval
  obtain ⟨v0, vs0, d0, ds0, p0, q0, hargs, rfl, rfl, h0, r0⟩ := trodAll_cons hA
  obtain ⟨v1, vs1, d1, ds1, p1, q1, rfl, rfl, rfl, h1, r1⟩ := trodAll_cons r0
  obtain ⟨rfl, rfl, rfl⟩ := trodAll_nil r1
  obtain rfl : args = #[v0, v1] := by cases args; simp_all
  obtain ⟨rfl, rfl⟩ := trodVars_none hV
  obtain ⟨a0, b0, rfl, rfl, s0⟩ := open_num (hval 0 _ v0 rfl rfl) h0
  obtain ⟨a1, rfl, rfl, rfl, b1⟩ := open_int Tryd.underlying3 (hval 1 _ v1 rfl rfl) h1
  have s1 := plain_int (H := H) Tryd.underlying3 b1
  clear hA0 hval0
  simp only [List.append_nil, List.nil_append] at hW'
  refine ((signLong_law a0 a1 b0 b1).2 W (laid9 hL)).mono fun e W' ⟨he, hg⟩ => ?_
  subst he
  exact ⟨_, rfl, post_below (pa := []) (pv := []) hW' (fun _ _ _ => trodAll_cons_mk (shut_bool Tryd.underlying4 _) trodAll_mk0) (fun sp hsp => (trodAll_cons_mk (s0 _ _ _ _ _) (trodAll_cons_mk (s1 _ _ _ _ _) trodAll_mk0))) (fun _ _ => rfl) rfl
    hg (ok_one (by kernel_rfl) rfl (okWide_bool_mk Tryd.underlying4 _))⟩

theorem signLong_over : Rows.SignLongSaid :=
  OpenClaim.holds_of_wide 6 Tryd.f6 rfl rfl rfl rfl rfl rfl rfl ⟨rfl, rfl, rfl, rfl, rfl⟩ rfl rfl rfl rfl rfl (by kernel_rfl) Tryd.func6 (by kernel_rfl)
    (of_decide_eq_true (by kernel_rfl)) (by unfold Func.isWrapper; first | (rw [if_pos (by decide +kernel)]; kernel_rfl) | (rw [if_neg (by decide +kernel)]; exact ⟨rfl, rfl⟩))
    (fun os started H enc _ => signLong_lifted os started H enc)

/-- THE STATEMENT. -/
theorem signLong_holds : Rows.SignLongCardSaid :=
  Claim7.holds_tied_plain_at .later [] [.data, .data, .data, .data, .data, .data, .data] true (true, "8945106303d7676a0a05d7d9f66dd55c44629bbb45e42e457c2af300e3c66b61") false
    signLong_over (fun _ h => by cases h) (by kernel_rfl) (fun _ h => by cases h) signLong_row_tie rfl ⟨rfl, rfl⟩ (by kernel_rfl) rfl
    (fun f fn hf hfn => by
      obtain rfl : f = 6 := Option.some.inj ((show Tryd.prog.funcNamed "tryst/trystlaw09.SignLong" = some 6 by kernel_rfl).symm.trans hf) |>.symm
      obtain rfl : fn = Tryd.f6 := (Option.some.inj (Tryd.func6.symm.trans hfn)).symm
      exact ⟨by kernel_rfl, fun j t ht => by
        rw [Tryd.params6] at ht
        have hm : t ∈ [22, 3] := by simpa using Array.mem_of_getElem? ht
        have hall : ([22, 3].all fun u => !Tryd.prog.wantsStandIn u) = true := by kernel_rfl
        exact (show Tryd.prog.wantsStandIn t = false by simpa using List.all_eq_true.1 hall t hm)⟩)
    (by kernel_rfl)
#print axioms signLong_holds
end Go.Proofs.YtheidgcgdkmmiaaDoor
