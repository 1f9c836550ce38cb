/-
  ShaLengths: for all its arguments the law returns true, where the program's variables are laid as the program's text lays them. Conditions: none beside that one (the card ties it to the text).
-/
import Derived.Test.YtjdcaipgfolgoaaDoorXd
namespace Go.Proofs.YtjdcaipgfolgoaaDoor
open Go.Sh
open Go.ChangeShapes Go.WideShapes Go.ChangeAt Go.RowKit
set_option maxRecDepth 100000

def lnZ : Nat × ABlk := (64, ⟨rowC .u8 zeroA 270, eU, true⟩)
def lnS (n : Nat) : AV := .sl 64 0 (nA n) (.ex 270)
def ln : IC := t6.body
def lgA : IC := ln.sub [false]
def lgB : IC := ln.sub [true, false]
def lgD : IC := ln.sub [true, true, false, false]
def lgR : IC := ln.sub [true, true, false, true, false, false]
def lgE : IC := ln.sub [true, true, true]
theorem ln_shape : t6 = ⟨.seq lgA (.seq lgB (.seq (.seq lgD (.block 0 (.loop lgR))) lgE)), [.t 0], 39⟩ := by kernel_rfl
def lnN (n k : Nat) : Now := ⟨[(1, lnS 270), (2, iN n)], [lnZ], k⟩
def lnRows (n : Nat) : List RowM := sumRows (lnS n) [lnZ] (lnS n) [lnZ] ++ eqRows 65
def ln0 : Now := ⟨[], [], 64⟩
def ln1 : Now := ⟨[(1, lnS 270)], [lnZ], 65⟩
def lnY : Now := ⟨[(0, .b true)], [], 65⟩
theorem ln_goA : goesX noFacts tree [] glS [] [] [] 60 4 lgA ln0 .normal ln0 = true := by kernel_rfl
theorem ln_goB : goesX noFacts tree [] glS [] [] [] 60 4 lgB ln0 .normal ln1 = true := by kernel_rfl
theorem ln_goD : goesX noFacts tree [] glS [] [] [] 60 4 lgD ln1 .normal (lnN 0 65) = true := by kernel_rfl
noncomputable def lnGo (n : Nat) : Bool := goesX noFacts tree [] glS [] (lnRows n) [] 60 4 lgR (lnN n 65) .normal (lnN (n + 1) 69)
theorem ln_go0 : (List.range 40).all (fun n => lnGo n) = true := by kernel_rfl
theorem ln_go1 : (List.range 40).all (fun n => lnGo (40 + n)) = true := by kernel_rfl
theorem ln_go2 : (List.range 40).all (fun n => lnGo (80 + n)) = true := by kernel_rfl
theorem ln_go3 : (List.range 40).all (fun n => lnGo (120 + n)) = true := by kernel_rfl
theorem ln_go4 : (List.range 40).all (fun n => lnGo (160 + n)) = true := by kernel_rfl
theorem ln_go5 : (List.range 40).all (fun n => lnGo (200 + n)) = true := by kernel_rfl
theorem ln_go6 : (List.range 31).all (fun n => lnGo (240 + n)) = true := by kernel_rfl
theorem ln_all {n : Nat} (h : n < 271) : lnGo n = true := by
  have q : ∀ (a m : Nat), (List.range m).all (fun n => lnGo (a + n)) = true → a ≤ n → n < a + m → lnGo n = true := fun a m h h1 h2 => by
    have := List.all_eq_true.1 h (n - a) (List.mem_range.2 (by omega))
    rwa [show a + (n - a) = n by omega] at this
  by_cases h0 : n < 40
  · exact List.all_eq_true.1 ln_go0 n (List.mem_range.2 h0)
  by_cases h1 : n < 80
  · exact q 40 40 ln_go1 (by omega) (by omega)
  by_cases h2 : n < 120
  · exact q 80 40 ln_go2 (by omega) (by omega)
  by_cases h3 : n < 160
  · exact q 120 40 ln_go3 (by omega) (by omega)
  by_cases h4 : n < 200
  · exact q 160 40 ln_go4 (by omega) (by omega)
  by_cases h5 : n < 240
  · exact q 200 40 ln_go5 (by omega) (by omega)
  · exact q 240 31 ln_go6 (by omega) (by omega)
theorem ln_end : goesX noFacts tree [] glS [] [] [] 60 4 lgR (lnN 271 65) (.exit 0) ln1 = true := by kernel_rfl
theorem ln_goE : goesX noFacts tree [] glS [] [rowWk] [] 60 4 lgE ln1 .ret lnY = true := by kernel_rfl
theorem ln_res : resA (trL lnY.e) (heapL (lnY.H ++ glS) lnY.n) [.t 0] = some (.b true) := by kernel_rfl
def zN : Wd := fun _ => 0
def nuN (n : Nat) : Nat → Int := nuL (loS n zN) n zN
theorem lnZ_text (n : Nat) (h : n ≤ 270) : IsText (nuN n) [lnZ] (lnS n) n zN := by
  rcases Nat.eq_zero_or_pos n with h0 | h0
  · subst h0
    intro ρ w u hnd hu
    cases hu
    rename_i q m c hle hq hnn hcap
    have hnn : ((0 : Nat) : Int) = (m : Int) := hnn
    have : m = 0 := by omega
    subst this
    exact .inl ⟨rfl, .inr ⟨_, _, rfl⟩⟩
  · exact isText_row (off := 0) (n := 270) (f := zeroA) List.mem_cons_self (by decide) h0 (by omega) fun j _ => rfl
theorem ln_ren {w0 : World} {n n' t k : Nat} {a : Act} {w : World} (h : HoldsX 39 w0 (nuN n) glS [] [] [] (lnN t k) a w) (hk : (heapL ((lnN t k).H ++ glS) k).get 64 = some lnZ.2) : HoldsX 39 w0 (nuN n') glS [] [] [] (lnN t 65) a w := by
  refine renumX (P := Tryd.prog) glS_ok h (by decide) (fun p hp => by cases hp) (fun p hp => ⟨p.2, hp, ?_⟩) fun p hp => ?_
  · simp only [lnN, List.mem_cons, List.not_mem_nil, or_false] at hp
    rcases hp with rfl | rfl
    · exact SlotTo.sl 0 (by decide) rfl rfl
    · exact SlotTo.conc (u := .int .i64 t) rfl rfl
  · simp only [lnN, List.mem_cons, List.not_mem_nil, or_false] at hp
    subst hp
    exact ⟨by decide, by decide, _, hk, rfl, blkTo_row (by decide) fun j _ => rfl⟩
theorem ln_get65 (t : Nat) : (heapL ((lnN t 65).H ++ glS) 65).get 64 = some lnZ.2 := by kernel_rfl
theorem ln_get69 (t : Nat) : (heapL ((lnN t 69).H ++ glS) 69).get 64 = some lnZ.2 := by kernel_rfl
theorem ln_loop {w0 : World} : Tri Tryd.prog 39 (.loop lgR) (fun a w => HoldsX 39 w0 (nuN 0) glS [] [] [] (lnN 0 65) a w) fun ex a w => ex = .exit 0 ∧ HoldsX 39 w0 (nuN 271) glS [] [] [] ln1 a w := by
  have key := Tri.loop (P := Tryd.prog) (N := 39) (x := lgR) (J := fun i a w => i ≤ 271 ∧ HoldsX 39 w0 (nuN (271 - i)) glS [] [] [] (lnN (271 - i) 65) a w) (Post := fun ex a w => ex = .exit 0 ∧ HoldsX 39 w0 (nuN 271) glS [] [] [] ln1 a w) 271 ?_ ?_
  · exact key.weak (fun a w h => ⟨Nat.le_refl _, h⟩) (fun _ _ _ h => h)
  · intro i c hc a w ⟨hi, hp⟩
    have e3 : 271 - i = 271 - (i + 1) + 1 := by omega
    have hlt : 271 - (i + 1) < 271 := by omega
    generalize 271 - (i + 1) = n at *
    refine ((Tri.runX (L := []) (fx := []) (kp := []) (w0 := w0) (none_f _) mixed tab_ok glS_ok (fun r hr => by cases hr) (fun r hr => by cases hr) (rows_app (sumRows_ok (lnZ_text n (by omega)) (lnZ_text n (by omega)) (fun j _ => ⟨0, rfl, by decide⟩) (by omega)) (eqRows_ok 65)) (fun r hr => by cases hr) (ln_all hlt)).weak (fun _ _ h => h) (fun ex a w h => ?_)) c hc a w hp
    refine .inl ⟨h.1, by omega, ?_⟩
    rw [e3]
    exact ln_ren h.2 (ln_get69 _)
  · refine (Tri.runX (i := lnN 271 65) (none_f _) mixed tab_ok glS_ok (fun r hr => by cases hr) (fun r hr => by cases hr) (fun r hr => by cases hr) (fun r hr => by cases hr) ln_end).weak (fun a w h => h.2) (fun ex a w h => ⟨by rw [h.1]; simp, h⟩)
theorem shaLengths_law : PureG Tryd.prog glS 6 [] (.bool true) := by
  have one : ∀ w, Laid glS w → _ := fun w hw => by
    have start := holdsX_start (N := 39) (ν := nuN 0) (L := []) (fx := []) (kp := []) (vs := #[]) (e0 := ln0.e) (H0 := ln0.H) (n0 := 64) glS_ok (w := w) hw (fun _ => none) (by decide) (by decide) (fun _ _ => rfl) (fun p hp => by cases hp) (fun p hp => by cases hp) (fun p hp => by cases hp) (fun p hp => by cases hp)
    refine (callsX (L := []) (gl := glS) (Q := fun v w' => v = .bool true ∧ Below w.heap.size w w') tab_ok (by kernel_rfl) ln_shape start ?_ : (∃ fn, Tryd.prog.funcs[6]? = some fn ∧ fn.body.isSome = true ∧ (fn.name == "runtime.NumGoroutine") = false) ∧ Calls Tryd.prog 6 #[] w fun e w' => ∃ v, e = .returned v ∧ (v = .bool true ∧ Below w.heap.size w w'))
    have run : ∀ {ic : IC} {i o : Now} {ex : Ex} {d : Nat} {ν : Nat → Int} {TM : List RowM}, (∀ r ∈ TM, r.Ok ν Tryd.prog glS) → goesX noFacts tree [] glS [] TM [] 60 d ic i ex o = true → Tri Tryd.prog 39 ic (HoldsX 39 w ν glS [] [] [] i) fun ex' a w' => ex' = ex ∧ HoldsX 39 w ν glS [] [] [] o a w' := fun hT h =>
      Tri.runX (none_f _) mixed tab_ok glS_ok (fun r hr => by cases hr) (fun r hr => by cases hr) hT (fun r hr => by cases hr) h
    have no : ∀ ν, ∀ r ∈ ([] : List RowM), r.Ok ν Tryd.prog glS := fun ν r hr => by cases hr
    refine seqN (run (no _) ln_goA) (seqN (run (no _) ln_goB) (seqN (Mid := HoldsX 39 w (nuN 271) glS [] [] [] ln1) (seqN (run (no _) ln_goD) ?_) ?_))
    · refine Tri.block ln_loop (fun a w h => by cases h.1) (fun a w h => ⟨rfl, h.2⟩) (fun j a w hj h => ?_) (fun a w h => by cases h.1)
      have := h.1
      simp only [Ex.exit.injEq] at this
      exact (hj this).elim
    · refine (run (fun r hr => by
        simp only [List.mem_cons, List.not_mem_nil, or_false] at hr
        subst hr
        exact rowWk_ok) ln_goE).weak (fun _ _ h => h) fun ex a w' h => ⟨.inr h.1, _, lnY, .b true, [], [], h.2, ln_res, fun ρ v _ _ _ hB hv => ⟨by cases hv; rfl, ⟨hB.os, hB.tape, hB.output, hB.size, fun k hk => hB.block k hk fun p hp => by cases hp⟩⟩⟩
  exact ⟨⟨_, Tryd.func6, by kernel_rfl, by kernel_rfl⟩, fun w hw => (one w hw).2.mono fun e w' ⟨v, he, hv, hB⟩ => ⟨by rw [he, hv], hB⟩⟩

abbrev shaLengthsLaid : List (String × DataW Unit) := Rows.shaLengthsRow.laid
theorem shaLengths_met (os : Os) (args : Array Value) : laidMetH Tryd.prog shaLengthsLaid ((World.doorLaid Tryd.prog 400 os).forCall (fun _ _ => 0) ⟨#[], args, []⟩).memory :=
  laidMetH_of_parts3 (fuel := 8) (laidMet_of_run' 8 (by kernel_rfl) (by kernel_rfl)) (by kernel_rfl) (by kernel_rfl)

theorem shaLengths_lifted (os : Os) (started : os.Started) (H : Type) (enc : TypeId × Value → H) :
    ReturnsInHanded {} Tryd.checked os 6 .any (fun w args => (Rows.shaLengthsSpec.pre enc Tryd.prog Tryd.f6 [] false w args ∧ laidMetH Tryd.prog shaLengthsLaid w) ∧ sizedMet enc Tryd.prog Tryd.f6 (OpenSpec.ofChange Rows.shaLengthsSpec) false w args)
      (Rows.shaLengthsSpec.post enc Tryd.prog Tryd.f6 false true false false) := by
  refine returnsInHanded_of_change_and (C := Tryd.checked) (X := fun w _ => laidMetH Tryd.prog shaLengthsLaid w) (fun _ _ _ hh h => h.of_heap hh) own started (by kernel_rfl) Tryd.func6
    (ChangeSpec.witness_shaped (enc := enc) (C := Tryd.checked) (os := os) (X := fun w _ => laidMetH Tryd.prog shaLengthsLaid w) false (World.doorLaid Tryd.prog 400 os) #[] 8 rfl (World.shaped_of_RefB (by kernel_rfl) (by kernel_rfl)) (by kernel_rfl) (by kernel_rfl) (by kernel_rfl) (shaLengths_met os _)) ?_
  intro W base args ds gs before hval0 hW _ _ hL _
  have hval : ∀ (j : Nat) t v, Tryd.f6.params[j]? = some t → args[j]? = some v → Value.okWide Tryd.prog W .any base t v := hval0
  have hW' := hW
  obtain ⟨p, q, hA0, hV, rfl, hfz, hnd⟩ := hW
  have hA : DataW.TrodAll enc Tryd.prog W 0 (fun _ => true) true Tryd.f6.params.toList args.toList ds p := hA0
  rw [Tryd.params6] at hA hval
  obtain ⟨hargs, rfl, rfl⟩ := trodAll_nil hA
  obtain rfl : args = #[] := by cases args; simp_all
  obtain ⟨rfl, rfl⟩ := trodVars_none hV
  clear hA0 hval0
  simp only [List.append_nil] at hW'
  refine ((shaLengths_law  ).2 W (laidS hL)).mono fun e W' ⟨he, hg⟩ => ?_
  subst he
  exact ⟨_, rfl, post_below (pa := []) (pv := []) hW' (fun _ _ _ => trodAll_cons_mk (shut_bool Tryd.underlying4 _) trodAll_mk0) (fun sp _ => trodAll_mk0) (fun _ _ => rfl) rfl
    hg (ok_one (by kernel_rfl) rfl (okWide_bool_mk Tryd.underlying4 _))⟩

theorem shaLengths_over : Rows.ShaLengthsSaid :=
  OpenClaim.holds_of_wide 6 Tryd.f6 rfl rfl rfl rfl rfl rfl rfl ⟨rfl, rfl, rfl, rfl, rfl⟩ rfl rfl rfl rfl rfl (by kernel_rfl) Tryd.func6 (by kernel_rfl)
    (of_decide_eq_true (by kernel_rfl)) (by unfold Func.isWrapper; first | (rw [if_pos (by decide +kernel)]; kernel_rfl) | (rw [if_neg (by decide +kernel)]; exact ⟨rfl, rfl⟩))
    (fun os started H enc _ => shaLengths_lifted os started H enc)

/-- THE STATEMENT. -/
theorem shaLengths_holds : Rows.ShaLengthsCardSaid :=
  Claim7.holds_tied_plain_at .later [] [.data, .data, .data, .data] true (true, "eacd4a9b634becba1168d16158cd96469b7c30e91a6ec0f5f91653d0d1963b9e") false
    shaLengths_over (fun _ h => by cases h) (by kernel_rfl) (fun _ h => by cases h) shaLengths_row_tie rfl ⟨rfl, rfl⟩ (by kernel_rfl) rfl
    (fun f fn hf hfn => by
      obtain rfl : f = 6 := Option.some.inj ((show Tryd.prog.funcNamed "tryst/trystlaw01.ShaLengths" = some 6 by kernel_rfl).symm.trans hf) |>.symm
      obtain rfl : fn = Tryd.f6 := (Option.some.inj (Tryd.func6.symm.trans hfn)).symm
      exact ⟨by kernel_rfl, fun j t ht => by
        rw [Tryd.params6] at ht
        simp at ht⟩)
    (by kernel_rfl)
#print axioms shaLengths_holds
end Go.Proofs.YtjdcaipgfolgoaaDoor
