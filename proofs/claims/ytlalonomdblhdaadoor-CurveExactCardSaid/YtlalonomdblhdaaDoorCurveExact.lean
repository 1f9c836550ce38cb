/-
  CurveExact: for all its arguments the law returns true, where the curve's variables are laid as the program's text lays them. Conditions: none beside that one (the card ties it to the text).
-/
import Derived.Test.YtlalonomdblhdaaDoorKd
namespace Go.Proofs.YtlalonomdblhdaaDoor
open Go.Sh
open Go.ChangeShapes Go.WideShapes Go.ChangeAt Go.RowKit
set_option maxRecDepth 100000

/-! names: p, q, n; the sum, the multiple of p, of B; p's four words of each number -/

def exYY : List Row := [⟨9, [rw8 0], .tp [rwQ 48 49 50 51, .b true]⟩, ⟨12, [rw8 0, rw8 1], .tp [rw8 3, .b true]⟩, ⟨14, [rw8 2, rw8 0], .tp [rw8 4, .b true]⟩, ⟨16, [rw8 2], rw8 5⟩]
def exYYg : List Row := [⟨10, [rw8 0], eOKg⟩, ⟨11, [rw8 0, rw8 1], .tp [rw8 3, eOKg]⟩, ⟨13, [rw8 2, rw8 0], .tp [rw8 4, eOKg]⟩, ⟨15, [rw8 2], rw8 5⟩, ⟨17, [], .b true⟩]
def exYN : List Row := [⟨9, [rw8 0], .tp [rwQ 48 49 50 51, .b true]⟩, ⟨12, [rw8 0, rw8 1], .tp [kB 0, .b false]⟩, ⟨14, [rw8 2, rw8 0], .tp [rw8 4, .b true]⟩, ⟨16, [rw8 2], rw8 5⟩]
def exYNg : List Row := [⟨10, [rw8 0], eOKg⟩, ⟨11, [rw8 0, rw8 1], .tp [kB 0, ePoint]⟩, ⟨13, [rw8 2, rw8 0], .tp [rw8 4, eOKg]⟩, ⟨15, [rw8 2], rw8 5⟩, ⟨17, [], .b true⟩]
def exN : List Row := [⟨9, [rw8 0], dcNo⟩, ⟨12, [rw8 0, rw8 1], .tp [kB 0, .b false]⟩, ⟨14, [rw8 2, rw8 0], .tp [kB 0, .b false]⟩, ⟨16, [rw8 2], rw8 5⟩]
def exNg : List Row := [⟨10, [rw8 0], ePoint⟩, ⟨11, [rw8 0, rw8 1], .tp [kB 0, ePoint]⟩, ⟨13, [rw8 2, rw8 0], .tp [kB 0, ePoint]⟩, ⟨15, [rw8 2], rw8 5⟩, ⟨17, [], .b true⟩]
theorem exYY_says : saysG noFacts tree exYY glC exYYg 400 6 3 [rw8 0, rw8 1, rw8 2] (.b true) = true := by kernel_rfl
theorem exYN_says : saysG noFacts tree exYN glC exYNg 400 6 3 [rw8 0, rw8 1, rw8 2] (.b true) = true := by kernel_rfl
theorem exN_says : saysG noFacts tree exN glC exNg 400 6 3 [rw8 0, rw8 1, rw8 2] (.b true) = true := by kernel_rfl

theorem ex_args (L l : List Nat) : concT (nuM 6 L l) [rw8 0, rw8 1, rw8 2] = some [byt (L.getD 0 0), byt (L.getD 1 0), byt (L.getD 2 0)] := by simp [concT, nuM_b]

theorem ex_YY (p q n s m b : Nat) (P Q : Pt) (hn : n < B4) (hP : enc P = p) (hQ : enc Q = q) (hs : enc (P.add Q) = s) (hm : enc (smul n P) = m) (hb : enc (smul n pB0) = b) : PureG Tryd.prog glC 3 [byt p, byt q, byt n] (.bool true) := by
  refine pureG_of (ν := nuM 6 [p, q, n, s, m, b] [P.x.val, P.y.val, 1, (P.x * P.y).val]) (args := [rw8 0, rw8 1, rw8 2]) (noFacts_hold _) mixed tab_ok glC_ok (fun r hr => ?_) (fun r hr => ?_) exYY_says (ex_args _ _) rfl
  · simp only [exYY, List.mem_cons, List.not_mem_nil, or_false] at hr
    rcases hr with rfl | rfl | rfl | rfl
    · exact rowDecY hP (nuM_b 6 _ _ 0 (by decide)) (nuM_q 6 _ [P.x.val, P.y.val, 1, (P.x * P.y).val] 0 1 2 3)
    · exact ⟨[byt p, byt q], _, by simp [concT, nuM_b], tp2 true (nuM_b 6 _ _ 3 (by decide)), Sum_yes p q s P Q hP hQ hs⟩
    · exact ⟨[byt n, byt p], _, by simp [concT, nuM_b], tp2 true (nuM_b 6 _ _ 4 (by decide)), PTimes_yes n p m hn P hP hm⟩
    · exact ⟨[byt n], _, by simp [concT, nuM_b], nuM_bc 6 _ _ 5 (by decide), PBase_ok n b hn hb⟩
  · simp only [exYYg, List.mem_cons, List.not_mem_nil, or_false] at hr
    rcases hr with rfl | rfl | rfl | rfl | rfl
    · exact rowCheck hP (nuM_b 6 _ _ 0 (by decide))
    · exact rowAddPt hP hQ hs (nuM_b 6 _ _ 0 (by decide)) (nuM_b 6 _ _ 1 (by decide)) (nuM_b 6 _ _ 3 (by decide))
    · exact rowTimesPt hn hP hm (nuM_b 6 _ _ 2 (by decide)) (nuM_b 6 _ _ 0 (by decide)) (nuM_b 6 _ _ 4 (by decide))
    · exact OkG_up upC (rowBase hn hb (nuM_b 6 _ _ 2 (by decide)) (nuM_bc 6 _ _ 5 (by decide)))
    · exact OkG_up upC rowWakesG
theorem ex_YN (p q n m b : Nat) (P : Pt) (lp : p < B4) (lq : q < B4) (hn : n < B4) (hP : enc P = p) (hQ : ∀ Q, enc Q ≠ q) (hm : enc (smul n P) = m) (hb : enc (smul n pB0) = b) : PureG Tryd.prog glC 3 [byt p, byt q, byt n] (.bool true) := by
  refine pureG_of (ν := nuM 6 [p, q, n, 0, m, b] [P.x.val, P.y.val, 1, (P.x * P.y).val]) (args := [rw8 0, rw8 1, rw8 2]) (noFacts_hold _) mixed tab_ok glC_ok (fun r hr => ?_) (fun r hr => ?_) exYN_says (ex_args _ _) rfl
  · simp only [exYN, List.mem_cons, List.not_mem_nil, or_false] at hr
    rcases hr with rfl | rfl | rfl | rfl
    · exact rowDecY hP (nuM_b 6 _ _ 0 (by decide)) (nuM_q 6 _ [P.x.val, P.y.val, 1, (P.x * P.y).val] 0 1 2 3)
    · exact ⟨[byt p, byt q], _, by simp [concT, nuM_b], tp2 false (kB_val _ 0), Sum_no p q lp lq (.inr hQ)⟩
    · exact ⟨[byt n, byt p], _, by simp [concT, nuM_b], tp2 true (nuM_b 6 _ _ 4 (by decide)), PTimes_yes n p m hn P hP hm⟩
    · exact ⟨[byt n], _, by simp [concT, nuM_b], nuM_bc 6 _ _ 5 (by decide), PBase_ok n b hn hb⟩
  · simp only [exYNg, List.mem_cons, List.not_mem_nil, or_false] at hr
    rcases hr with rfl | rfl | rfl | rfl | rfl
    · exact rowCheck hP (nuM_b 6 _ _ 0 (by decide))
    · exact ⟨[byt p, byt q], _, by simp [concT, nuM_b], tpE 4 (kB_val _ 0), Add_no p q lp lq (.inr hQ)⟩
    · exact rowTimesPt hn hP hm (nuM_b 6 _ _ 2 (by decide)) (nuM_b 6 _ _ 0 (by decide)) (nuM_b 6 _ _ 4 (by decide))
    · exact OkG_up upC (rowBase hn hb (nuM_b 6 _ _ 2 (by decide)) (nuM_bc 6 _ _ 5 (by decide)))
    · exact OkG_up upC rowWakesG
theorem ex_N (p q n b : Nat) (lp : p < B4) (lq : q < B4) (hn : n < B4) (hP : ∀ P, enc P ≠ p) (hb : enc (smul n pB0) = b) : PureG Tryd.prog glC 3 [byt p, byt q, byt n] (.bool true) := by
  refine pureG_of (ν := nuM 6 [p, q, n, 0, 0, b] []) (args := [rw8 0, rw8 1, rw8 2]) (noFacts_hold _) mixed tab_ok glC_ok (fun r hr => ?_) (fun r hr => ?_) exN_says (ex_args _ _) rfl
  · simp only [exN, List.mem_cons, List.not_mem_nil, or_false] at hr
    rcases hr with rfl | rfl | rfl | rfl
    · exact rowDecN lp hP (nuM_b 6 _ _ 0 (by decide))
    · exact ⟨[byt p, byt q], _, by simp [concT, nuM_b], tp2 false (kB_val _ 0), Sum_no p q lp lq (.inl hP)⟩
    · exact ⟨[byt n, byt p], _, by simp [concT, nuM_b], tp2 false (kB_val _ 0), PTimes_no n p lp hP⟩
    · exact ⟨[byt n], _, by simp [concT, nuM_b], nuM_bc 6 _ _ 5 (by decide), PBase_ok n b hn hb⟩
  · simp only [exNg, List.mem_cons, List.not_mem_nil, or_false] at hr
    rcases hr with rfl | rfl | rfl | rfl | rfl
    · exact rowCheckN lp hP (nuM_b 6 _ _ 0 (by decide))
    · exact ⟨[byt p, byt q], _, by simp [concT, nuM_b], tpE 4 (kB_val _ 0), Add_no p q lp lq (.inl hP)⟩
    · exact ⟨[byt n, byt p], _, by simp [concT, nuM_b], tpE 4 (kB_val _ 0), Times_no n p lp hP⟩
    · exact OkG_up upC (rowBase hn hb (nuM_b 6 _ _ 2 (by decide)) (nuM_bc 6 _ _ 5 (by decide)))
    · exact OkG_up upC rowWakesG
theorem curveExact_law (p q n : Nat) (hp : p < B4) (hq : q < B4) (hn : n < B4) : PureG Tryd.prog glC 3 [byt p, byt q, byt n] (.bool true) := by
  by_cases h1 : ∃ P, enc P = p
  · obtain ⟨P, hP⟩ := h1
    by_cases h2 : ∃ Q, enc Q = q
    · obtain ⟨Q, hQ⟩ := h2
      exact ex_YY p q n _ _ _ P Q hn hP hQ rfl rfl rfl
    · exact ex_YN p q n _ _ P hp hq hn hP (fun Q hQ => h2 ⟨Q, hQ⟩) rfl rfl
  · exact ex_N p q n _ hp hq hn (fun P hP => h1 ⟨P, hP⟩) rfl

abbrev curveExactLaid : List (String × DataW Unit) := Rows.curveExactRow.laid
theorem curveExact_met (os : Os) (args : Array Value) : laidMetH Tryd.prog curveExactLaid ((World.doorLaid Tryd.prog 400 os).forCall (fun _ _ => 0) ⟨#[], args, []⟩).memory :=
  laidMetH_of_parts3 (fuel := 8) (laidMet_of_run' 8 (by kernel_rfl) (by kernel_rfl)) (by kernel_rfl) (by kernel_rfl)

theorem curveExact_lifted (os : Os) (started : os.Started) (H : Type) (enc : TypeId × Value → H) :
    ReturnsInHanded {} Tryd.checked os 3 .any (fun w args => (Rows.curveExactSpec.pre enc Tryd.prog Tryd.f3 [] false w args ∧ laidMetH Tryd.prog curveExactLaid w) ∧ sizedMet enc Tryd.prog Tryd.f3 (OpenSpec.ofChange Rows.curveExactSpec) false w args)
      (Rows.curveExactSpec.post enc Tryd.prog Tryd.f3 false true false false) := by
  refine returnsInHanded_of_change_and (C := Tryd.checked) (X := fun w _ => laidMetH Tryd.prog curveExactLaid w) (fun _ _ _ hh h => h.of_heap hh) own started (by kernel_rfl) Tryd.func3
    (ChangeSpec.witness_shaped (enc := enc) (C := Tryd.checked) (os := os) (X := fun w _ => laidMetH Tryd.prog curveExactLaid w) false (World.doorLaid Tryd.prog 400 os) #[byt 0, byt 0, byt 0] 8 rfl (World.shaped_of_RefB (by kernel_rfl) (by kernel_rfl)) (by kernel_rfl) (by kernel_rfl) (by kernel_rfl) (curveExact_met os _)) ?_
  intro W base args ds gs before hval0 hW _ _ hL _
  have hval : ∀ (j : Nat) t v, Tryd.f3.params[j]? = some t → args[j]? = some v → Value.okWide Tryd.prog W .any base t v := hval0
  have hW' := hW
  obtain ⟨p, q, hA0, hV, rfl, hfz, hnd⟩ := hW
  have hA : DataW.TrodAll enc Tryd.prog W 0 (fun _ => true) true Tryd.f3.params.toList args.toList ds p := hA0
  rw [Tryd.params3] at hA hval
  obtain ⟨v0, vs0, d0, ds0, p0, q0, hargs, rfl, rfl, h0, r0⟩ := trodAll_cons hA
  obtain ⟨v1, vs1, d1, ds1, p1, q1, rfl, rfl, rfl, h1, r1⟩ := trodAll_cons r0
  obtain ⟨v2, vs2, d2, ds2, p2, q2, rfl, rfl, rfl, h2, r2⟩ := trodAll_cons r1
  obtain ⟨rfl, rfl, rfl⟩ := trodAll_nil r2
  obtain rfl : args = #[v0, v1, v2] := by cases args; simp_all
  obtain ⟨rfl, rfl⟩ := trodVars_none hV
  obtain ⟨a0, b0, rfl, rfl, s0⟩ := open_num (hval 0 _ v0 rfl rfl) h0
  obtain ⟨a1, b1, rfl, rfl, s1⟩ := open_num (hval 1 _ v1 rfl rfl) h1
  obtain ⟨a2, b2, rfl, rfl, s2⟩ := open_num (hval 2 _ v2 rfl rfl) h2
  clear hA0 hval0
  simp only [List.append_nil] at hW'
  refine ((curveExact_law a0 a1 a2 b0 b1 b2).2 W (laidC hL)).mono fun e W' ⟨he, hg⟩ => ?_
  subst he
  exact ⟨_, rfl, post_below (pa := []) (pv := []) hW' (fun _ _ _ => trodAll_cons_mk (shut_bool Tryd.underlying4 _) trodAll_mk0) (fun sp _ => (trodAll_cons_mk (s0 _ _ _ _ _) (trodAll_cons_mk (s1 _ _ _ _ _) (trodAll_cons_mk (s2 _ _ _ _ _) trodAll_mk0)))) (fun _ _ => rfl) rfl
    hg (ok_one (by kernel_rfl) rfl (okWide_bool_mk Tryd.underlying4 _))⟩

theorem curveExact_over : Rows.CurveExactSaid :=
  OpenClaim.holds_of_wide 3 Tryd.f3 rfl rfl rfl rfl rfl rfl rfl ⟨rfl, rfl, rfl, rfl, rfl⟩ rfl rfl rfl rfl rfl (by kernel_rfl) Tryd.func3 (by kernel_rfl)
    (of_decide_eq_true (by kernel_rfl)) (by unfold Func.isWrapper; first | (rw [if_pos (by decide +kernel)]; kernel_rfl) | (rw [if_neg (by decide +kernel)]; exact ⟨rfl, rfl⟩))
    (fun os started H enc _ => curveExact_lifted os started H enc)

/-- THE STATEMENT. -/
theorem curveExact_holds : Rows.CurveExactCardSaid :=
  Claim7.holds_tied_plain_at .later [] [.data, .data, .data, .data] true (true, "f058b10e4c3dc150723787051f4944b128d27700496289b34a03bfc7ec75b735") false
    curveExact_over (fun _ h => by cases h) (by kernel_rfl) (fun _ h => by cases h) curveExact_row_tie rfl ⟨rfl, rfl⟩ (by kernel_rfl) rfl
    (fun f fn hf hfn => by
      obtain rfl : f = 3 := Option.some.inj ((show Tryd.prog.funcNamed "tryst/trystlaw08.CurveExact" = some 3 by kernel_rfl).symm.trans hf) |>.symm
      obtain rfl : fn = Tryd.f3 := (Option.some.inj (Tryd.func3.symm.trans hfn)).symm
      exact ⟨by kernel_rfl, fun j t ht => by
        rw [Tryd.params3] at ht
        have hm : t ∈ [22, 22, 22] := by simpa using Array.mem_of_getElem? ht
        have hall : ([22, 22, 22].all fun u => !Tryd.prog.wantsStandIn u) = true := by kernel_rfl
        exact (show Tryd.prog.wantsStandIn t = false by simpa using List.all_eq_true.1 hall t hm)⟩)
    (by kernel_rfl)
#print axioms curveExact_holds
