/-
  PackForged: for all its arguments the law returns true, where the program's variables are laid as the program's text lays them. Conditions: none beside that one (the card ties it to the text).
-/
import Derived.Test.YtggjplfnalolcaaDoorPFf
namespace Go.Proofs.YtggjplfnalolcaaDoor
open Go.Sh
open Go.ChangeShapes Go.WideShapes Go.ChangeAt Go.RowKit
set_option maxRecDepth 100000

theorem nat_of {n : Int} (h : (Lit.int .i64 n).wf = true) (h0 : 0 ≤ n) : ∃ k : Nat, n = (k : Int) ∧ k < 9223372036854775808 := by
  obtain ⟨k, rfl⟩ := Int.eq_ofNat_of_zero_le h0
  have h2 : IntKind.i64.min ≤ ((k : Nat) : Int) ∧ ((k : Nat) : Int) ≤ IntKind.i64.max := by simpa [Lit.wf] using h
  rw [show IntKind.i64.max = 9223372036854775807 from rfl] at h2
  exact ⟨k, rfl, by omega⟩
theorem packForged_law (c n m q : Int) (_ : (Lit.int .i64 c).wf = true) (wn : (Lit.int .i64 n).wf = true) (wm : (Lit.int .i64 m).wf = true) (_ : (Lit.int .i64 q).wf = true) : PureG Tryd.prog glE 3 [.int .i64 c, .int .i64 n, .int .i64 m, .int .i64 q] (.bool true) := by
  by_cases h0 : c < 0
  · refine run_no no_all.1 fun p hp => ?_
    simp only [List.mem_cons, List.not_mem_nil, or_false] at hp
    subst hp
    exact decide_eq_true h0
  by_cases h1 : c ≥ ((8 : Nat) : Int)
  · refine run_no no_all.2.1 fun p hp => ?_
    simp only [List.mem_cons, List.not_mem_nil, or_false] at hp
    rcases hp with rfl | rfl
    · exact decide_eq_false h0
    · exact decide_eq_true h1
  by_cases h2 : n < 0
  · refine run_no no_all.2.2.1 fun p hp => ?_
    simp only [List.mem_cons, List.not_mem_nil, or_false] at hp
    rcases hp with rfl | rfl | rfl
    · exact decide_eq_false h0
    · exact decide_eq_false h1
    · exact decide_eq_true h2
  by_cases h3 : m < 0
  · refine run_no no_all.2.2.2.1 fun p hp => ?_
    simp only [List.mem_cons, List.not_mem_nil, or_false] at hp
    rcases hp with rfl | rfl | rfl | rfl
    · exact decide_eq_false h0
    · exact decide_eq_false h1
    · exact decide_eq_false h2
    · exact decide_eq_true h3
  by_cases h4 : n = m
  · refine run_no no_all.2.2.2.2 fun p hp => ?_
    simp only [List.mem_cons, List.not_mem_nil, or_false] at hp
    rcases hp with rfl | rfl | rfl | rfl | rfl
    · exact decide_eq_false h0
    · exact decide_eq_false h1
    · exact decide_eq_false h2
    · exact decide_eq_false h3
    · exact beq_iff_eq.2 h4
  obtain ⟨C, rfl⟩ := Int.eq_ofNat_of_zero_le (show 0 ≤ c by omega)
  obtain ⟨n', rfl, ln⟩ := nat_of wn (by omega)
  obtain ⟨m', rfl, lm⟩ := nat_of wm (by omega)
  have hne : n' ≠ m' := fun e => h4 (by rw [e])
  have hc : C < 8 := by omega
  by_cases k0 : (whA.val (nu4 C n' m' q) == ((0 : Nat) : Int)) = true
  · refine run_pf hc ln lm hne pf_go0 fun p hp => ?_
    simp only [List.mem_cons, List.not_mem_nil, or_false] at hp
    subst hp
    exact k0
  have k0 := Bool.not_eq_true _ ▸ k0
  by_cases k1 : (whA.val (nu4 C n' m' q) == ((1 : Nat) : Int)) = true
  · refine run_pf hc ln lm hne pf_go1 fun p hp => ?_
    simp only [List.mem_cons, List.not_mem_nil, or_false] at hp
    rcases hp with rfl | rfl
    · exact k0
    · exact k1
  have k1 := Bool.not_eq_true _ ▸ k1
  refine run_pf hc ln lm hne pf_go2 fun p hp => ?_
  simp only [List.mem_cons, List.not_mem_nil, or_false] at hp
  rcases hp with rfl | rfl
  · exact k0
  · exact k1

abbrev packForgedLaid : List (String × DataW Unit) := Rows.packForgedRow.laid
theorem packForged_met (os : Os) (args : Array Value) : laidMetH Tryd.prog packForgedLaid ((World.doorLaid Tryd.prog 400 os).forCall (fun _ _ => 0) ⟨#[], args, []⟩).memory :=
  laidMetH_of_parts3 (fuel := 8) (laidMet_of_run' 8 (by kernel_rfl) (by kernel_rfl)) (by kernel_rfl) (by kernel_rfl)

theorem packForged_lifted (os : Os) (started : os.Started) (H : Type) (enc : TypeId × Value → H) :
    ReturnsInHanded {} Tryd.checked os 3 .any (fun w args => (Rows.packForgedSpec.pre enc Tryd.prog Tryd.f3 [] false w args ∧ laidMetH Tryd.prog packForgedLaid w) ∧ sizedMet enc Tryd.prog Tryd.f3 (OpenSpec.ofChange Rows.packForgedSpec) false w args)
      (Rows.packForgedSpec.post enc Tryd.prog Tryd.f3 false true false false) := by
  refine returnsInHanded_of_change_and (C := Tryd.checked) (X := fun w _ => laidMetH Tryd.prog packForgedLaid w) (fun _ _ _ hh h => h.of_heap hh) own started (by kernel_rfl) Tryd.func3
    (ChangeSpec.witness_shaped (enc := enc) (C := Tryd.checked) (os := os) (X := fun w _ => laidMetH Tryd.prog packForgedLaid w) false (World.doorLaid Tryd.prog 400 os) #[.int .i64 0, .int .i64 0, .int .i64 0, .int .i64 0] 8 rfl (World.shaped_of_RefB (by kernel_rfl) (by kernel_rfl)) (by kernel_rfl) (by kernel_rfl) (by kernel_rfl) (packForged_met os _)) ?_
  intro W base args ds gs before hval0 hW _ _ hL _
  have hval : ∀ (j : Nat) t v, Tryd.f3.params[j]? = some t → args[j]? = some v → Value.okWide Tryd.prog W .any base t v := hval0
  have hW' := hW
  obtain ⟨p, q, hA0, hV, rfl, hfz, hnd⟩ := hW
  have hA : DataW.TrodAll enc Tryd.prog W 0 (fun _ => true) true Tryd.f3.params.toList args.toList ds p := hA0
  rw [Tryd.params3] at hA hval
  obtain ⟨v0, vs0, d0, ds0, p0, q0, hargs, rfl, rfl, h0, r0⟩ := trodAll_cons hA
  obtain ⟨v1, vs1, d1, ds1, p1, q1, rfl, rfl, rfl, h1, r1⟩ := trodAll_cons r0
  obtain ⟨v2, vs2, d2, ds2, p2, q2, rfl, rfl, rfl, h2, r2⟩ := trodAll_cons r1
  obtain ⟨v3, vs3, d3, ds3, p3, q3, rfl, rfl, rfl, h3, r3⟩ := trodAll_cons r2
  obtain ⟨rfl, rfl, rfl⟩ := trodAll_nil r3
  obtain rfl : args = #[v0, v1, v2, v3] := by cases args; simp_all
  obtain ⟨rfl, rfl⟩ := trodVars_none hV
  obtain ⟨a0, rfl, rfl, rfl, b0⟩ := open_int Tryd.underlying3 (hval 0 _ v0 rfl rfl) h0
  have s0 := plain_int (H := H) Tryd.underlying3 b0
  obtain ⟨a1, rfl, rfl, rfl, b1⟩ := open_int Tryd.underlying3 (hval 1 _ v1 rfl rfl) h1
  have s1 := plain_int (H := H) Tryd.underlying3 b1
  obtain ⟨a2, rfl, rfl, rfl, b2⟩ := open_int Tryd.underlying3 (hval 2 _ v2 rfl rfl) h2
  have s2 := plain_int (H := H) Tryd.underlying3 b2
  obtain ⟨a3, rfl, rfl, rfl, b3⟩ := open_int Tryd.underlying3 (hval 3 _ v3 rfl rfl) h3
  have s3 := plain_int (H := H) Tryd.underlying3 b3
  clear hA0 hval0
  simp only [List.append_nil] at hW'
  refine ((packForged_law a0 a1 a2 a3 b0 b1 b2 b3).2 W (laidE hL)).mono fun e W' ⟨he, hg⟩ => ?_
  subst he
  exact ⟨_, rfl, post_below (pa := []) (pv := []) hW' (fun _ _ _ => trodAll_cons_mk (shut_bool Tryd.underlying4 _) trodAll_mk0) (fun sp _ => (trodAll_cons_mk (s0 _ _ _ _ _) (trodAll_cons_mk (s1 _ _ _ _ _) (trodAll_cons_mk (s2 _ _ _ _ _) (trodAll_cons_mk (s3 _ _ _ _ _) trodAll_mk0))))) (fun _ _ => rfl) rfl
    hg (ok_one (by kernel_rfl) rfl (okWide_bool_mk Tryd.underlying4 _))⟩

theorem packForged_over : Rows.PackForgedSaid :=
  OpenClaim.holds_of_wide 3 Tryd.f3 rfl rfl rfl rfl rfl rfl rfl ⟨rfl, rfl, rfl, rfl, rfl⟩ rfl rfl rfl rfl rfl (by kernel_rfl) Tryd.func3 (by kernel_rfl)
    (of_decide_eq_true (by kernel_rfl)) (by unfold Func.isWrapper; first | (rw [if_pos (by decide +kernel)]; kernel_rfl) | (rw [if_neg (by decide +kernel)]; exact ⟨rfl, rfl⟩))
    (fun os started H enc _ => packForged_lifted os started H enc)

/-- THE STATEMENT. -/
theorem packForged_holds : Rows.PackForgedCardSaid :=
  Claim7.holds_tied_plain_at .later [] [.handle] true (true, "8c2e22297dd8af74bf35da8b2b52d1efe34d915e8b6c8cb872d995d6f35f5e5f") true
    packForged_over (fun _ h => by cases h) (by kernel_rfl) (fun _ h => by cases h) packForged_row_tie rfl ⟨rfl, rfl⟩ (by kernel_rfl) rfl
    (fun f fn hf hfn => by
      obtain rfl : f = 3 := Option.some.inj ((show Tryd.prog.funcNamed "tryst/trystlaw20.PackForged" = some 3 by kernel_rfl).symm.trans hf) |>.symm
      obtain rfl : fn = Tryd.f3 := (Option.some.inj (Tryd.func3.symm.trans hfn)).symm
      exact ⟨by kernel_rfl, fun j t ht => by
        rw [Tryd.params3] at ht
        have hm : t ∈ [3, 3, 3, 3] := by simpa using Array.mem_of_getElem? ht
        have hall : ([3, 3, 3, 3].all fun u => !Tryd.prog.wantsStandIn u) = true := by kernel_rfl
        exact (show Tryd.prog.wantsStandIn t = false by simpa using List.all_eq_true.1 hall t hm)⟩)
    (by kernel_rfl)
#print axioms packForged_holds
end Go.Proofs.YtggjplfnalolcaaDoor
