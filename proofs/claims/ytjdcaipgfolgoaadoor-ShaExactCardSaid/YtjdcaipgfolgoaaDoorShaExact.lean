/-
  ShaExact: for all its arguments the law returns true, where the program's variables are laid as the program's text lays them. Conditions: none beside that one (the card ties it to the text).
-/
import Derived.Test.YtjdcaipgfolgoaaDoorXd
namespace Go.Proofs.YtjdcaipgfolgoaaDoor
open Go.Sh
open Go.ChangeShapes Go.WideShapes Go.ChangeAt Go.RowKit
set_option maxRecDepth 100000

def exM : List RowM := rowTw T1 slP0 [txP] :: rowEq slQ1 slP0 [txQ1, txP] :: (sumRows slQ1 [txQ1] slP0 [txP] ++ eqRows 66)
theorem ex_go : saysB (fM false) tree [] glS [] exM [txP] 65 60 4 3 [slP0] (.b true) = true := by kernel_rfl
theorem ex_over : saysB (fO 3000) tree [] glS [] [] [txO] 65 60 4 3 [slO0] (.b true) = true := by kernel_rfl
noncomputable def exNo (x : AV) : Bool := saysB noFacts tree [] glS [] (sumRows .nsl [] x [] ++ eqRows 65) [] 65 60 4 3 [x] (.b true)
theorem ex_nsl : exNo .nsl = true := by kernel_rfl
theorem ex_sle : exNo (.sle false) = true := by kernel_rfl
theorem shaExact_law {W : World} (hL : Laid glS W) {v : Value} {zs : List Int} (hv : ReadsAs W .u8 v zs) (hw : ∀ z ∈ zs, (Lit.int .u8 z).wf = true) :
    Calls Tryd.prog 3 #[v] W fun e W' => e = .returned (.bool true) ∧ Below W.heap.size W W' := by
  have emp : ∀ x, (∀ ν ρ, VR ν ρ x v) → exNo x = true → inB [] x = true → IsText (nuL (loS 0 fun _ => 0) 0 fun _ => 0) [] x 0 (fun _ => 0) → Calls Tryd.prog 3 #[v] W fun e W' => e = .returned (.bool true) ∧ Below W.heap.size W W' := fun x hx hgo hin ht =>
    yes_of (ρ := embF fun _ => none) (law_row (none_f _) (rows_app (sumRows_ok isText_nsl ht (fun j hj => by omega) (by decide)) (eqRows_ok 65)) hgo (fun p hp => by cases hp) (by simp [hin])) hL (fun p hp => by cases hp) (lr_of (vs := [v]) ⟨hx _ _, trivial⟩)
  rcases hv with ⟨rfl, _⟩ | ⟨a, c, rfl, _⟩ | ⟨b, o, n, c, rfl, hc, hn, h0, hcell⟩
  · exact emp .nsl (fun _ _ => .nsl) ex_nsl rfl isText_nsl
  · exact emp (.sle false) (fun _ _ => .sle _ _ _ (fun h => by cases h)) ex_sle rfl isText_sle
  · have hz : CellsAt W .u8 b o n fun i => zs.getD i 0 := cellsAt_of h0 hcell
    have hb := bytes_of hw n
    by_cases hm : 3000 < n
    · obtain ⟨nd, sl⟩ := over_need hc hz
      exact yes_of (law_row (fO_hold hm) (fun r hr => by cases hr) ex_over need_txO (by kernel_rfl)) hL nd (lr_of (vs := [_]) ⟨sl, trivial⟩)
    · have hn' : n < 100000000000 := by omega
      obtain ⟨nd, sl⟩ := text_need (ν := nuL (loS n fun i => zs.getD i 0) n fun i => zs.getD i 0) nuL_L0 (fun j hj => nuL_B0 (by omega)) hc hz
      refine yes_of (law_row (fM_hold (decide_eq_false hm)) ?_ ex_go need_txP (by kernel_rfl)) hL nd (lr_of (vs := [_]) ⟨sl, trivial⟩)
      intro r hr
      simp only [exM, List.mem_cons] at hr
      rcases hr with rfl | rfl | hr
      · exact rowTw_ok (tx0_text (by simp) h0 hn') h0 hn' ⟨by decide, by decide⟩ T1_K nuL_L1 fun j _ => nuL_B1 j
      · exact rowEq_ok (tx1_text (by simp) h0 hn') (tx0_text (by simp) h0 hn') h0 hn'
      · exact rows_app (sumRows_ok (tx1_text (by simp) h0 hn') (tx0_text (by simp) h0 hn') hb hn') (eqRows_ok 66) r hr

abbrev shaExactLaid : List (String × DataW Unit) := Rows.shaExactRow.laid
theorem shaExact_met (os : Os) (args : Array Value) : laidMetH Tryd.prog shaExactLaid ((World.doorLaid Tryd.prog 400 os).forCall (fun _ _ => 0) ⟨#[], args, []⟩).memory :=
  laidMetH_of_parts3 (fuel := 8) (laidMet_of_run' 8 (by kernel_rfl) (by kernel_rfl)) (by kernel_rfl) (by kernel_rfl)

theorem shaExact_lifted (os : Os) (started : os.Started) (H : Type) (enc : TypeId × Value → H) :
    ReturnsInHanded {} Tryd.checked os 3 .any (fun w args => (Rows.shaExactSpec.pre enc Tryd.prog Tryd.f3 [] false w args ∧ laidMetH Tryd.prog shaExactLaid w) ∧ sizedMet enc Tryd.prog Tryd.f3 (OpenSpec.ofChange Rows.shaExactSpec) false w args)
      (Rows.shaExactSpec.post enc Tryd.prog Tryd.f3 false true false false) := by
  refine returnsInHanded_of_change_and (C := Tryd.checked) (X := fun w _ => laidMetH Tryd.prog shaExactLaid w) (fun _ _ _ hh h => h.of_heap hh) own started (by kernel_rfl) Tryd.func3
    (ChangeSpec.witness_shaped (enc := enc) (C := Tryd.checked) (os := os) (X := fun w _ => laidMetH Tryd.prog shaExactLaid w) false (World.doorLaid Tryd.prog 400 os) #[.slice none 0 0] 8 rfl (World.shaped_of_RefB (by kernel_rfl) (by kernel_rfl)) (by kernel_rfl) (by kernel_rfl) (by kernel_rfl) (shaExact_met os _)) ?_
  intro W base args ds gs before hval0 hW _ _ hL _
  have hval : ∀ (j : Nat) t v, Tryd.f3.params[j]? = some t → args[j]? = some v → Value.okWide Tryd.prog W .any base t v := hval0
  have hW' := hW
  obtain ⟨p, q, hA0, hV, rfl, hfz, hnd⟩ := hW
  have hA : DataW.TrodAll enc Tryd.prog W 0 (fun _ => true) true Tryd.f3.params.toList args.toList ds p := hA0
  rw [Tryd.params3] at hA hval
  obtain ⟨v0, vs0, d0, ds0, p0, q0, hargs, rfl, rfl, h0, r0⟩ := trodAll_cons hA
  obtain ⟨rfl, rfl, rfl⟩ := trodAll_nil r0
  obtain rfl : args = #[v0] := by cases args; simp_all
  obtain ⟨rfl, rfl⟩ := trodVars_none hV
  obtain ⟨z0, k0, w0, _⟩ := reads_open Tryd.underlying22 Tryd.underlying5 cells1 (hval 0 _ v0 rfl rfl) h0
  clear hA0 hval0
  simp only [List.append_nil, List.nil_append] at hW'
  have hlt : ∀ x ∈ p0, x.block < W.heap.size := fun x hx => hW'.lt x hx
  refine (shaExact_law (laidS hL) k0 w0  ).mono fun e W' ⟨he, hg⟩ => ?_
  subst he
  exact ⟨_, rfl, post_below (pa := p0) (pv := []) hW' (fun _ _ _ => trodAll_cons_mk (shut_bool Tryd.underlying4 _) trodAll_mk0) (fun sp hsp => (by have hh := (trodAll_cons_mk (kept_arg laidOut (by kernel_rfl) (of_decide_eq_true (by kernel_rfl)) h0 hg (fun x hx => hlt x (by simp [hx])) (fun x hx => hsp x (by simp [hx]))) trodAll_mk0); simp only [List.append_nil] at hh; exact hh)) (fun _ _ => rfl) (by simp)
    hg (ok_one (by kernel_rfl) rfl (okWide_bool_mk Tryd.underlying4 _))⟩

theorem shaExact_over : Rows.ShaExactSaid :=
  OpenClaim.holds_of_wide 3 Tryd.f3 rfl rfl rfl rfl rfl rfl rfl ⟨rfl, rfl, rfl, rfl, rfl⟩ rfl rfl rfl rfl rfl (by kernel_rfl) Tryd.func3 (by kernel_rfl)
    (of_decide_eq_true (by kernel_rfl)) (by unfold Func.isWrapper; first | (rw [if_pos (by decide +kernel)]; kernel_rfl) | (rw [if_neg (by decide +kernel)]; exact ⟨rfl, rfl⟩))
    (fun os started H enc _ => shaExact_lifted os started H enc)

/-- THE STATEMENT. -/
theorem shaExact_holds : Rows.ShaExactCardSaid :=
  Claim7.holds_tied_plain_at .later [] [.data, .data, .data, .data] true (true, "eacd4a9b634becba1168d16158cd96469b7c30e91a6ec0f5f91653d0d1963b9e") false
    shaExact_over (fun _ h => by cases h) (by kernel_rfl) (fun _ h => by cases h) shaExact_row_tie rfl ⟨rfl, rfl⟩ (by kernel_rfl) rfl
    (fun f fn hf hfn => by
      obtain rfl : f = 3 := Option.some.inj ((show Tryd.prog.funcNamed "tryst/trystlaw01.ShaExact" = some 3 by kernel_rfl).symm.trans hf) |>.symm
      obtain rfl : fn = Tryd.f3 := (Option.some.inj (Tryd.func3.symm.trans hfn)).symm
      exact ⟨by kernel_rfl, fun j t ht => by
        rw [Tryd.params3] at ht
        have hm : t ∈ [22] := by simpa using Array.mem_of_getElem? ht
        have hall : ([22].all fun u => !Tryd.prog.wantsStandIn u) = true := by kernel_rfl
        exact (show Tryd.prog.wantsStandIn t = false by simpa using List.all_eq_true.1 hall t hm)⟩)
    (by kernel_rfl)
#print axioms shaExact_holds
end Go.Proofs.YtjdcaipgfolgoaaDoor
