/-
  CurveOrder: for all its arguments the law returns true, where the program's variables are laid as the program's text lays them. Conditions: none beside that one (the card ties it to the text).
-/
import Derived.Test.YtnlhpiieihnbiaaDoorNt
namespace Go.Proofs.YtnlhpiieihnbiaaDoor
open Go.Sh
open Go.ChangeShapes Go.WideShapes Go.ChangeAt Go.RowKit
set_option maxRecDepth 100000

def ordL1 : Nat := 7237005577332262213973186563042994240857116359379907606001950938285454250990
def orT : List Row := [⟨22, [rw4 24], rw8 1⟩]
def orG : List Row := [⟨23, [mdW 0], rw4 24⟩, ⟨15, [kB ordL], kB 1⟩, ⟨15, [kB ordL1], kB bYn⟩, ⟨15, [kB 1], kB bYn⟩, ⟨15, [rw8 1], rw8 2⟩, ⟨15, [rw8 0], rw8 2⟩,
  ⟨10, [kB ordL], .b false⟩, ⟨14, [], .b true⟩]
theorem or_says : saysG noFacts tree orT glN orG 600 8 6 [rw8 0] (.b true) = true := by kernel_rfl
theorem smul_red (n : Nat) : smul (n % ordL) pB0 = smul n pB0 := by
  have h := Nat.div_add_mod n ordL
  have e : smul n pB0 = (smul (ordL * (n / ordL)) pB0).add (smul (n % ordL) pB0) := by rw [← smul_add, h]
  rw [e, smul_ord, zero_add']
theorem or_core (n m e : Nat) (hn : n < B4) (hm : n % ordL = m) (he : enc (smul n pB0) = e) : PureG Tryd.prog glN 6 [byt n] (.bool true) := by
  refine pureG_of (ν := nuM 3 [n, m, e] [m]) (args := [rw8 0]) (noFacts_hold _) mixed tab_ok glN_ok (fun r hr => ?_) (fun r hr => ?_) or_says (by simp [concT, nuM_b]) rfl
  · simp only [orT, List.mem_cons, List.not_mem_nil, or_false] at hr
    subst hr
    exact rowLayS (nuM_w 3 _ _ 0) (nuM_bc 3 _ _ 1 (by decide))
  · simp only [orG, List.mem_cons, List.not_mem_nil, or_false] at hr
    rcases hr with rfl | rfl | rfl | rfl | rfl | rfl | rfl | rfl
    · exact OkG_up upON (rowRed (T := n) (Nat.lt_of_lt_of_le hn (by decide)) hm (mdW_val (j := 0) hn (nuM_at 3 _ _ 0 (by decide))) (nuM_wc 3 _ _ 0))
    · exact OkG_up upBN (rowBase (n := ordL) (by decide) (by rw [order_L]; decide +kernel) (kB_val _ ordL) (kB_valc _ 1))
    · exact OkG_up upBN (rowBase (n := ordL1) (by decide) (by rw [← smul_red, show ordL1 % ordL = 1 by decide +kernel]; exact enc_one) (kB_val _ ordL1) (kB_valc _ bYn))
    · exact OkG_up upBN (rowBase (n := 1) (by decide) enc_one (kB_val _ 1) (kB_valc _ bYn))
    · exact OkG_up upBN (rowBase (n := m) (hm ▸ modB n) (by rw [← hm, smul_red]; exact he) (nuM_b 3 _ _ 1 (by decide)) (nuM_bc 3 _ _ 2 (by decide)))
    · exact OkG_up upBN (rowBase (n := n) hn he (nuM_b 3 _ _ 0 (by decide)) (nuM_bc 3 _ _ 2 (by decide)))
    · exact OkG_up upON (rowBelow false (by decide) (by decide) (kB_val _ ordL))
    · exact OkG_up upBN rowWakesG
theorem curveOrder_law (n : Nat) (hn : n < B4) : PureG Tryd.prog glN 6 [byt n] (.bool true) := or_core n _ _ hn rfl rfl

abbrev curveOrderLaid : List (String × DataW Unit) := Rows.curveOrderRow.laid
theorem curveOrder_met (os : Os) (args : Array Value) : laidMetH Tryd.prog curveOrderLaid ((World.doorLaid Tryd.prog 400 os).forCall (fun _ _ => 0) ⟨#[], args, []⟩).memory :=
  laidMetH_of_parts3 (fuel := 8) (laidMet_of_run' 8 (by kernel_rfl) (by kernel_rfl)) (by kernel_rfl) (by kernel_rfl)

theorem curveOrder_lifted (os : Os) (started : os.Started) (H : Type) (enc : TypeId × Value → H) :
    ReturnsInHanded {} Tryd.checked os 6 .any (fun w args => (Rows.curveOrderSpec.pre enc Tryd.prog Tryd.f6 [] false w args ∧ laidMetH Tryd.prog curveOrderLaid w) ∧ sizedMet enc Tryd.prog Tryd.f6 (OpenSpec.ofChange Rows.curveOrderSpec) false w args)
      (Rows.curveOrderSpec.post enc Tryd.prog Tryd.f6 false true false false) := by
  refine returnsInHanded_of_change_and (C := Tryd.checked) (X := fun w _ => laidMetH Tryd.prog curveOrderLaid w) (fun _ _ _ hh h => h.of_heap hh) own started (by kernel_rfl) Tryd.func6
    (ChangeSpec.witness_shaped (enc := enc) (C := Tryd.checked) (os := os) (X := fun w _ => laidMetH Tryd.prog curveOrderLaid w) false (World.doorLaid Tryd.prog 400 os) #[byt 0] 8 rfl (World.shaped_of_RefB (by kernel_rfl) (by kernel_rfl)) (by kernel_rfl) (by kernel_rfl) (by kernel_rfl) (curveOrder_met os _)) ?_
  intro W base args ds gs before hval0 hW _ _ hL _
  have hval : ∀ (j : Nat) t v, Tryd.f6.params[j]? = some t → args[j]? = some v → Value.okWide Tryd.prog W .any base t v := hval0
  have hW' := hW
  obtain ⟨p, q, hA0, hV, rfl, hfz, hnd⟩ := hW
  have hA : DataW.TrodAll enc Tryd.prog W 0 (fun _ => true) true Tryd.f6.params.toList args.toList ds p := hA0
  rw [Tryd.params6] at hA hval
  obtain ⟨v0, vs0, d0, ds0, p0, q0, hargs, rfl, rfl, h0, r0⟩ := trodAll_cons hA
  obtain ⟨rfl, rfl, rfl⟩ := trodAll_nil r0
  obtain rfl : args = #[v0] := by cases args; simp_all
  obtain ⟨rfl, rfl⟩ := trodVars_none hV
  obtain ⟨a0, b0, rfl, rfl, s0⟩ := open_num (hval 0 _ v0 rfl rfl) h0
  clear hA0 hval0
  simp only [List.append_nil] at hW'
  refine ((curveOrder_law a0 b0).2 W (laidN hL)).mono fun e W' ⟨he, hg⟩ => ?_
  subst he
  exact ⟨_, rfl, post_below (pa := []) (pv := []) hW' (fun _ _ _ => trodAll_cons_mk (shut_bool Tryd.underlying4 _) trodAll_mk0) (fun sp _ => (trodAll_cons_mk (s0 _ _ _ _ _) trodAll_mk0)) (fun _ _ => rfl) rfl
    hg (ok_one (by kernel_rfl) rfl (okWide_bool_mk Tryd.underlying4 _))⟩

theorem curveOrder_over : Rows.CurveOrderSaid :=
  OpenClaim.holds_of_wide 6 Tryd.f6 rfl rfl rfl rfl rfl rfl rfl ⟨rfl, rfl, rfl, rfl, rfl⟩ rfl rfl rfl rfl rfl (by kernel_rfl) Tryd.func6 (by kernel_rfl)
    (of_decide_eq_true (by kernel_rfl)) (by unfold Func.isWrapper; first | (rw [if_pos (by decide +kernel)]; kernel_rfl) | (rw [if_neg (by decide +kernel)]; exact ⟨rfl, rfl⟩))
    (fun os started H enc _ => curveOrder_lifted os started H enc)

/-- THE STATEMENT. -/
theorem curveOrder_holds : Rows.CurveOrderCardSaid :=
  Claim7.holds_tied_plain_at .later [] [.data, .data, .data, .data] true (true, "4fd09045e6821276d435d2d4998247e0789e5cdd2116a89db7f4265888bac662") false
    curveOrder_over (fun _ h => by cases h) (by kernel_rfl) (fun _ h => by cases h) curveOrder_row_tie rfl ⟨rfl, rfl⟩ (by kernel_rfl) rfl
    (fun f fn hf hfn => by
      obtain rfl : f = 6 := Option.some.inj ((show Tryd.prog.funcNamed "tryst/trystlaw08.CurveOrder" = some 6 by kernel_rfl).symm.trans hf) |>.symm
      obtain rfl : fn = Tryd.f6 := (Option.some.inj (Tryd.func6.symm.trans hfn)).symm
      exact ⟨by kernel_rfl, fun j t ht => by
        rw [Tryd.params6] at ht
        have hm : t ∈ [23] := by simpa using Array.mem_of_getElem? ht
        have hall : ([23].all fun u => !Tryd.prog.wantsStandIn u) = true := by kernel_rfl
        exact (show Tryd.prog.wantsStandIn t = false by simpa using List.all_eq_true.1 hall t hm)⟩)
    (by kernel_rfl)
#print axioms curveOrder_holds
end Go.Proofs.YtnlhpiieihnbiaaDoor
