/-
  CurveTurned: for all its arguments the law returns true, where the curve's variables are laid as the program's text lays them. Conditions: none beside that one (the card ties it to the text).
-/
import Derived.Test.YtlalonomdblhdaaDoorJc
namespace Go.Proofs.YtlalonomdblhdaaDoor
open Go.Sh
open Go.ChangeShapes Go.WideShapes Go.ChangeAt Go.RowKit
set_option maxRecDepth 100000

/-- The highest bit turned. -/
def flipM (m : Nat) : Nat := if m < two255 then m + two255 else m - two255
theorem flipM_lt {m : Nat} (h : m < B4) : flipM m < B4 := by
  unfold flipM two255
  unfold B4 at *
  split <;> omega
theorem x128 : (List.range 256).all (fun x => decide (x ^^^ 128 = (x + 128) % 256)) = true := by decide +kernel
theorem byL_flip {m : Nat} (h : m < B4) : byL (flipM m) = (byL m).take 31 ++ [(m / 452312848583266388373324160190187140051835877600158453279131187530910662656 % 256) ^^^ 128] := by
  have hx := of_decide_eq_true (List.all_eq_true.1 x128 (m / 452312848583266388373324160190187140051835877600158453279131187530910662656 % 256) (List.mem_range.2 (Nat.mod_lt _ (by decide))))
  rw [hx, byL_all, byL_all]
  have e : flipM m = (m + two255) % B4 := by
    unfold flipM two255
    unfold B4 at *
    split <;> omega
  rw [e]
  unfold two255 B4
  simp only [List.take_succ_cons, List.take_zero, List.cons_append, List.nil_append, List.cons.injEq, and_true]
  refine ⟨by omega, by omega, by omega, by omega, by omega, by omega, by omega, by omega, by omega, by omega, by omega, by omega, by omega, by omega, by omega, by omega, by omega, by omega, by omega, by omega, by omega, by omega, by omega, by omega, by omega, by omega, by omega, by omega, by omega, by omega, by omega, by omega⟩
def tuC (j : Nat) : List AV := (List.range 31).map (fun m => bt (32 * j + m)) ++ [.i .u8 (.e .xor .u8 (.s (32 * j + 31)) (.c (.ofNat 128)))]
theorem tuC_val {L : List Nat} {j m : Nat} (hm : L.getD j 0 = m) (h : m < B4) : conc2 (nub L) (.ag (tuC j)) = some (byt (flipM m)) := by
  have h31 := nub_get L j 31 (by decide)
  rw [hm, byL_get m 31 (by decide)] at h31
  have h31' : nub L (32 * j + 31) = ((m / 452312848583266388373324160190187140051835877600158453279131187530910662656 % 256 : Nat) : Int) := h31
  have e31 : concL (nub L) [.i .u8 (.e .xor .u8 (.s (32 * j + 31)) (.c (.ofNat 128)))] = some [u8 ((m / 452312848583266388373324160190187140051835877600158453279131187530910662656 % 256) ^^^ 128)] := by
    show some [Value.int .u8 (arith .xor .u8 (nub L (32 * j + 31)) ((128 : Nat) : Int))] = _
    rw [h31', a_xor8 _ 128 (Nat.mod_lt _ (by decide)) (by decide)]
    rfl
  have em := mid_conc (ν := nub L) (j := 32 * j) 31 ((byL m).take 31) (fun i hi => by
    rw [nub_get L j i (by omega), hm]
    simp [List.getD_eq_getElem?_getD, hi]) (by simp [byL_len]) _ _ e31
  show (concL (nub L) ((List.range 31).map (fun i => bt (32 * j + i)) ++ [.i .u8 (.e .xor .u8 (.s (32 * j + 31)) (.c (.ofNat 128)))])).map (fun vs => Value.agg vs.toArray) = _
  rw [em]
  unfold byt
  rw [byL_flip h]
  simp

theorem enc_neg {P : Pt} (hx : P.x ≠ 0) : enc P.neg = flipM (enc P) := by
  have h1 := neg_val hx
  have h2 := val_lt P.x
  have h3 := val_lt P.y
  have h4 : P.x.val ≠ 0 := fun h => hx (Fin.ext h)
  have e1 : P.neg.x = -P.x := rfl
  have e2 : P.neg.y = P.y := rfl
  unfold enc flipM
  rw [e1, e2, h1]
  unfold two255
  unfold prime at *
  split <;> omega
theorem no_flip : ∀ P, enc P ≠ flipM 1 := by
  intro P h
  have h1 : flipM 1 = 1 + two255 := rfl
  rw [h1] at h
  obtain ⟨e1, e2⟩ := enc_parts P
  rw [h] at e1 e2
  have hy : P.y = 1 := Fin.ext (by rw [← e1]; rfl)
  have hP := xy_one hy
  rw [hP] at e2
  exact absurd e2 (by decide)
theorem enc_zero' : enc .zero = 1 := by decide +kernel

def tuT1 : List Row := [⟨15, [rw8 0], kB 1⟩, ⟨10, [kB (flipM 1)], ePoint⟩, ⟨17, [], .b true⟩]
def tuT : List Row := [⟨15, [rw8 0], rw8 1⟩, ⟨11, [rw8 1, .ag (tuC 1)], .tp [kB 1, eOKg]⟩, ⟨13, [kB (ordL - 1), rw8 1], .tp [.ag (tuC 1), eOKg]⟩, ⟨17, [], .b true⟩]
theorem tu1_says : saysG noFacts tree [] glC tuT1 400 6 5 [rw8 0] (.b true) = true := by kernel_rfl
theorem tu_says : saysG ⟨[], [neB (sL 32) (cL 1)]⟩ tree [] glC tuT 400 6 5 [rw8 0] (.b true) = true := by kernel_rfl
theorem tu_core (n p : Nat) (hn : n < B4) (P : Pt) (hP : smul n pB0 = P) (hp : enc P = p) : PureG Tryd.prog glC 5 [byt n] (.bool true) := by
  have lp : p < B4 := hp ▸ enc_lt P
  by_cases h1 : p = 1
  · subst h1
    refine pureG_of (ν := nub [n]) (args := [rw8 0]) (noFacts_hold _) mixed tab_ok glC_ok (fun r hr => by cases hr) (fun r hr => ?_) tu1_says (by simp [concT, nubR8]) rfl
    simp only [tuT1, List.mem_cons, List.not_mem_nil, or_false] at hr
    rcases hr with rfl | rfl | rfl
    · exact OkG_up upC (rowBase hn (by rw [hP]; exact hp) (nubR8 _ 0) (kB_valc _ 1))
    · exact rowCheckN (n := flipM 1) (flipM_lt (by decide)) no_flip (kB_val _ _)
    · exact OkG_up upC rowWakesG
  · have hL : ¬ ordL ∣ n := fun hd => h1 (by
      obtain ⟨q, rfl⟩ := hd
      rw [smul_ord] at hP
      rw [← hp, ← hP]
      exact enc_zero')
    have hy := mul_y hL
    rw [hP] at hy
    have hx : P.x ≠ 0 := fun h0 => hy (by
      have hon := P.on
      unfold On at hon
      rw [h0] at hon
      generalize dE = d at *
      generalize P.y = y at *
      grobner)
    have hneg : enc P.neg = flipM p := by rw [enc_neg hx, hp]
    have hsum : enc (P.add P.neg) = 1 := by rw [add_neg']; exact enc_zero'
    have htim : smul (ordL - 1) P = P.neg := by
      have e1 : smul (ordL - 1 + 1) P = .zero := by
        have e2 : ordL - 1 + 1 = ordL := by decide +kernel
        rw [e2, ← hP, ← smul_mul]
        exact smul_ord n
      rw [smul_succ] at e1
      have e3 : P.neg.add P = .zero := by rw [add_comm', add_neg']
      exact cancel' (e1.trans e3.symm)
    refine pureG_of (ν := nub [n, p]) (args := [rw8 0]) (F := ⟨[], [neB (sL 32) (cL 1)]⟩) ⟨fun q hq => (by cases hq), fun q hq => ?_⟩ mixed tab_ok glC_ok (fun r hr => by cases hr) (fun r hr => ?_) tu_says (by simp [concT, nubR8]) rfl
    · simp only [List.mem_cons, List.not_mem_nil, or_false] at hq
      subst hq
      exact neB_holds (x := p) (y := 1) lp (by decide) (sL_val [n, p] 1) (cL_val _ 1) h1
    · simp only [tuT, List.mem_cons, List.not_mem_nil, or_false] at hr
      rcases hr with rfl | rfl | rfl | rfl
      · exact OkG_up upC (rowBase hn (by rw [hP]; exact hp) (nubR8 _ 0) (nubR8c _ 1))
      · exact rowAddPt hp hneg hsum (nubR8 _ 1) (tuC_val rfl lp) (kB_val _ 1)
      · exact rowTimesPt (n := ordL - 1) (by decide) hp (by rw [htim]; exact hneg) (kB_val _ _) (nubR8 _ 1) (tuC_val rfl lp)
      · exact OkG_up upC rowWakesG
theorem curveTurned_law (n : Nat) (hn : n < B4) : PureG Tryd.prog glC 5 [byt n] (.bool true) := tu_core n _ hn _ rfl rfl

abbrev curveTurnedLaid : List (String × DataW Unit) := Rows.curveTurnedRow.laid
theorem curveTurned_met (os : Os) (args : Array Value) : laidMetH Tryd.prog curveTurnedLaid ((World.doorLaid Tryd.prog 400 os).forCall (fun _ _ => 0) ⟨#[], args, []⟩).memory :=
  laidMetH_of_parts3 (fuel := 8) (laidMet_of_run' 8 (by kernel_rfl) (by kernel_rfl)) (by kernel_rfl) (by kernel_rfl)

theorem curveTurned_lifted (os : Os) (started : os.Started) (H : Type) (enc : TypeId × Value → H) :
    ReturnsInHanded {} Tryd.checked os 5 .any (fun w args => (Rows.curveTurnedSpec.pre enc Tryd.prog Tryd.f5 [] false w args ∧ laidMetH Tryd.prog curveTurnedLaid w) ∧ sizedMet enc Tryd.prog Tryd.f5 (OpenSpec.ofChange Rows.curveTurnedSpec) false w args)
      (Rows.curveTurnedSpec.post enc Tryd.prog Tryd.f5 false true false false) := by
  refine returnsInHanded_of_change_and (C := Tryd.checked) (X := fun w _ => laidMetH Tryd.prog curveTurnedLaid w) (fun _ _ _ hh h => h.of_heap hh) own started (by kernel_rfl) Tryd.func5
    (ChangeSpec.witness_shaped (enc := enc) (C := Tryd.checked) (os := os) (X := fun w _ => laidMetH Tryd.prog curveTurnedLaid w) false (World.doorLaid Tryd.prog 400 os) #[byt 0] 8 rfl (World.shaped_of_RefB (by kernel_rfl) (by kernel_rfl)) (by kernel_rfl) (by kernel_rfl) (by kernel_rfl) (curveTurned_met os _)) ?_
  intro W base args ds gs before hval0 hW _ _ hL _
  have hval : ∀ (j : Nat) t v, Tryd.f5.params[j]? = some t → args[j]? = some v → Value.okWide Tryd.prog W .any base t v := hval0
  have hW' := hW
  obtain ⟨p, q, hA0, hV, rfl, hfz, hnd⟩ := hW
  have hA : DataW.TrodAll enc Tryd.prog W 0 (fun _ => true) true Tryd.f5.params.toList args.toList ds p := hA0
  rw [Tryd.params5] at hA hval
  obtain ⟨v0, vs0, d0, ds0, p0, q0, hargs, rfl, rfl, h0, r0⟩ := trodAll_cons hA
  obtain ⟨rfl, rfl, rfl⟩ := trodAll_nil r0
  obtain rfl : args = #[v0] := by cases args; simp_all
  obtain ⟨rfl, rfl⟩ := trodVars_none hV
  obtain ⟨a0, b0, rfl, rfl, s0⟩ := open_num (hval 0 _ v0 rfl rfl) h0
  clear hA0 hval0
  simp only [List.append_nil] at hW'
  refine ((curveTurned_law a0 b0).2 W (laidC hL)).mono fun e W' ⟨he, hg⟩ => ?_
  subst he
  exact ⟨_, rfl, post_below (pa := []) (pv := []) hW' (fun _ _ _ => trodAll_cons_mk (shut_bool Tryd.underlying4 _) trodAll_mk0) (fun sp _ => (trodAll_cons_mk (s0 _ _ _ _ _) trodAll_mk0)) (fun _ _ => rfl) rfl
    hg (ok_one (by kernel_rfl) rfl (okWide_bool_mk Tryd.underlying4 _))⟩

theorem curveTurned_over : Rows.CurveTurnedSaid :=
  OpenClaim.holds_of_wide 5 Tryd.f5 rfl rfl rfl rfl rfl rfl rfl ⟨rfl, rfl, rfl, rfl, rfl⟩ rfl rfl rfl rfl rfl (by kernel_rfl) Tryd.func5 (by kernel_rfl)
    (of_decide_eq_true (by kernel_rfl)) (by unfold Func.isWrapper; first | (rw [if_pos (by decide +kernel)]; kernel_rfl) | (rw [if_neg (by decide +kernel)]; exact ⟨rfl, rfl⟩))
    (fun os started H enc _ => curveTurned_lifted os started H enc)

/-- THE STATEMENT. -/
theorem curveTurned_holds : Rows.CurveTurnedCardSaid :=
  Claim7.holds_tied_plain_at .later [] [.data, .data, .data, .data] true (true, "f058b10e4c3dc150723787051f4944b128d27700496289b34a03bfc7ec75b735") false
    curveTurned_over (fun _ h => by cases h) (by kernel_rfl) (fun _ h => by cases h) curveTurned_row_tie rfl ⟨rfl, rfl⟩ (by kernel_rfl) rfl
    (fun f fn hf hfn => by
      obtain rfl : f = 5 := Option.some.inj ((show Tryd.prog.funcNamed "tryst/trystlaw08.CurveTurned" = some 5 by kernel_rfl).symm.trans hf) |>.symm
      obtain rfl : fn = Tryd.f5 := (Option.some.inj (Tryd.func5.symm.trans hfn)).symm
      exact ⟨by kernel_rfl, fun j t ht => by
        rw [Tryd.params5] at ht
        have hm : t ∈ [22] := by simpa using Array.mem_of_getElem? ht
        have hall : ([22].all fun u => !Tryd.prog.wantsStandIn u) = true := by kernel_rfl
        exact (show Tryd.prog.wantsStandIn t = false by simpa using List.all_eq_true.1 hall t hm)⟩)
    (by kernel_rfl)
#print axioms curveTurned_holds
end Go.Proofs.YtlalonomdblhdaaDoor
