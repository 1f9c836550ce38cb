/-
  CurveRing: for all its arguments the law returns true, where the program's variables are laid as the program's text lays them. Conditions: none beside that one (the card ties it to the text).
-/
import Derived.Test.YtnlhpiieihnbiaaDoorNt
namespace Go.Proofs.YtnlhpiieihnbiaaDoor
open Go.Sh
open Go.ChangeShapes Go.WideShapes Go.ChangeAt Go.RowKit
set_option maxRecDepth 100000

def riT : List Row := [⟨22, [rw4 80], rw8 4⟩]
def riG : List Row := [⟨11, [rw8 0, rw8 1, kB 0], rw8 3⟩, ⟨11, [rw8 1, rw8 0, kB 0], rw8 3⟩, ⟨23, [mdW 0], rw4 80⟩, ⟨11, [rw8 0, kB 1, kB 0], rw8 4⟩, ⟨11, [kB 0, rw8 1, rw8 0], rw8 4⟩,
  ⟨11, [rw8 1, kB 1, rw8 2], rw8 5⟩, ⟨11, [rw8 0, rw8 5, kB 0], rw8 6⟩, ⟨11, [rw8 0, rw8 2, kB 0], rw8 7⟩, ⟨11, [rw8 0, rw8 1, rw8 7], rw8 6⟩,
  ⟨11, [rw8 3, rw8 2, kB 0], rw8 8⟩, ⟨11, [rw8 1, rw8 2, kB 0], rw8 9⟩, ⟨11, [rw8 0, rw8 9, kB 0], rw8 8⟩, ⟨14, [], .b true⟩]
theorem ri_says : saysG noFacts tree riT glN riG 600 8 7 [rw8 0, rw8 1, rw8 2] (.b true) = true := by kernel_rfl
theorem ri_core (a b c p m s x t u v : Nat) (ha : a < B4) (hb : b < B4) (hc : c < B4) (hp : (a * b + 0) % ordL = p) (hm : a % ordL = m) (hs : (b * 1 + c) % ordL = s) (hx : (a * s + 0) % ordL = x) (ht : (a * c + 0) % ordL = t) (hu : (p * c + 0) % ordL = u) (hv : (b * c + 0) % ordL = v) :
    PureG Tryd.prog glN 7 [byt a, byt b, byt c] (.bool true) := by
  have lp : p < B4 := hp ▸ modB _
  have ls : s < B4 := hs ▸ modB _
  have lt : t < B4 := ht ▸ modB _
  have lv : v < B4 := hv ▸ modB _
  have l0 : (0 : Nat) < B4 := by decide
  have l1 : (1 : Nat) < B4 := by decide
  have hx' : (a * b + t) % ordL = x := by
    rw [← hx, ← ht, ← hs, Nat.add_zero, Nat.add_zero, Nat.mul_one, Nat.add_mod_mod, Nat.mul_mod a, Nat.mod_mod, ← Nat.mul_mod, Nat.mul_add]
  have hu' : (a * v + 0) % ordL = u := by
    rw [← hu, ← hv, ← hp, Nat.add_zero, Nat.add_zero, Nat.add_zero, Nat.add_zero, Nat.mul_mod a, Nat.mod_mod, ← Nat.mul_mod, Nat.mul_mod (a * b % ordL), Nat.mod_mod, ← Nat.mul_mod, Nat.mul_assoc]
  generalize hL : [a, b, c, p, m, s, x, t, u, v] = L
  have g : ∀ (j : Nat), j < 10 → conc2 (nuM 10 L [m]) (rw8 j) = some (byt (L.getD j 0)) := fun j hj => nuM_b 10 L [m] j hj
  have gc : ∀ (j : Nat), j < 10 → conc (nuM 10 L [m]) (rw8 j) = some (byt (L.getD j 0)) := fun j hj => nuM_bc 10 L [m] j hj
  subst hL
  refine pureG_of (ν := nuM 10 [a, b, c, p, m, s, x, t, u, v] [m]) (args := [rw8 0, rw8 1, rw8 2]) (noFacts_hold _) mixed tab_ok glN_ok (fun r hr => ?_) (fun r hr => ?_) ri_says (by simp [concT, nuM_b]) rfl
  · simp only [riT, List.mem_cons, List.not_mem_nil, or_false] at hr
    subst hr
    exact rowLayS (nuM_w 10 _ _ 0) (gc 4 (by decide))
  · simp only [riG, List.mem_cons, List.not_mem_nil, or_false] at hr
    rcases hr with rfl | rfl | rfl | rfl | rfl | rfl | rfl | rfl | rfl | rfl | rfl | rfl | rfl
    · exact OkG_up upON (rowMu ha hb l0 hp (g 0 (by decide)) (g 1 (by decide)) (kB_val _ 0) (gc 3 (by decide)))
    · exact OkG_up upON (rowMu hb ha l0 (by rw [Nat.mul_comm]; exact hp) (g 1 (by decide)) (g 0 (by decide)) (kB_val _ 0) (gc 3 (by decide)))
    · exact OkG_up upON (rowRed (T := a) (Nat.lt_of_lt_of_le ha (by decide)) hm (mdW_val (j := 0) ha (nuM_at 10 _ _ 0 (by decide))) (nuM_wc 10 _ _ 0))
    · exact OkG_up upON (rowMu ha l1 l0 (by rw [Nat.mul_one]; exact hm) (g 0 (by decide)) (kB_val _ 1) (kB_val _ 0) (gc 4 (by decide)))
    · exact OkG_up upON (rowMu l0 hb ha (by rw [Nat.zero_mul, Nat.zero_add]; exact hm) (kB_val _ 0) (g 1 (by decide)) (g 0 (by decide)) (gc 4 (by decide)))
    · exact OkG_up upON (rowMu hb l1 hc hs (g 1 (by decide)) (kB_val _ 1) (g 2 (by decide)) (gc 5 (by decide)))
    · exact OkG_up upON (rowMu ha ls l0 hx (g 0 (by decide)) (g 5 (by decide)) (kB_val _ 0) (gc 6 (by decide)))
    · exact OkG_up upON (rowMu ha hc l0 ht (g 0 (by decide)) (g 2 (by decide)) (kB_val _ 0) (gc 7 (by decide)))
    · exact OkG_up upON (rowMu ha hb lt hx' (g 0 (by decide)) (g 1 (by decide)) (g 7 (by decide)) (gc 6 (by decide)))
    · exact OkG_up upON (rowMu lp hc l0 hu (g 3 (by decide)) (g 2 (by decide)) (kB_val _ 0) (gc 8 (by decide)))
    · exact OkG_up upON (rowMu hb hc l0 hv (g 1 (by decide)) (g 2 (by decide)) (kB_val _ 0) (gc 9 (by decide)))
    · exact OkG_up upON (rowMu ha lv l0 hu' (g 0 (by decide)) (g 9 (by decide)) (kB_val _ 0) (gc 8 (by decide)))
    · exact OkG_up upBN rowWakesG
theorem curveRing_law (a b c : Nat) (ha : a < B4) (hb : b < B4) (hc : c < B4) : PureG Tryd.prog glN 7 [byt a, byt b, byt c] (.bool true) := ri_core a b c _ _ _ _ _ _ _ ha hb hc rfl rfl rfl rfl rfl rfl rfl

abbrev curveRingLaid : List (String × DataW Unit) := Rows.curveRingRow.laid
theorem curveRing_met (os : Os) (args : Array Value) : laidMetH Tryd.prog curveRingLaid ((World.doorLaid Tryd.prog 400 os).forCall (fun _ _ => 0) ⟨#[], args, []⟩).memory :=
  laidMetH_of_parts3 (fuel := 8) (laidMet_of_run' 8 (by kernel_rfl) (by kernel_rfl)) (by kernel_rfl) (by kernel_rfl)

theorem curveRing_lifted (os : Os) (started : os.Started) (H : Type) (enc : TypeId × Value → H) :
    ReturnsInHanded {} Tryd.checked os 7 .any (fun w args => (Rows.curveRingSpec.pre enc Tryd.prog Tryd.f7 [] false w args ∧ laidMetH Tryd.prog curveRingLaid w) ∧ sizedMet enc Tryd.prog Tryd.f7 (OpenSpec.ofChange Rows.curveRingSpec) false w args)
      (Rows.curveRingSpec.post enc Tryd.prog Tryd.f7 false true false false) := by
  refine returnsInHanded_of_change_and (C := Tryd.checked) (X := fun w _ => laidMetH Tryd.prog curveRingLaid w) (fun _ _ _ hh h => h.of_heap hh) own started (by kernel_rfl) Tryd.func7
    (ChangeSpec.witness_shaped (enc := enc) (C := Tryd.checked) (os := os) (X := fun w _ => laidMetH Tryd.prog curveRingLaid w) false (World.doorLaid Tryd.prog 400 os) #[byt 0, byt 0, byt 0] 8 rfl (World.shaped_of_RefB (by kernel_rfl) (by kernel_rfl)) (by kernel_rfl) (by kernel_rfl) (by kernel_rfl) (curveRing_met os _)) ?_
  intro W base args ds gs before hval0 hW _ _ hL _
  have hval : ∀ (j : Nat) t v, Tryd.f7.params[j]? = some t → args[j]? = some v → Value.okWide Tryd.prog W .any base t v := hval0
  have hW' := hW
  obtain ⟨p, q, hA0, hV, rfl, hfz, hnd⟩ := hW
  have hA : DataW.TrodAll enc Tryd.prog W 0 (fun _ => true) true Tryd.f7.params.toList args.toList ds p := hA0
  rw [Tryd.params7] at hA hval
  obtain ⟨v0, vs0, d0, ds0, p0, q0, hargs, rfl, rfl, h0, r0⟩ := trodAll_cons hA
  obtain ⟨v1, vs1, d1, ds1, p1, q1, rfl, rfl, rfl, h1, r1⟩ := trodAll_cons r0
  obtain ⟨v2, vs2, d2, ds2, p2, q2, rfl, rfl, rfl, h2, r2⟩ := trodAll_cons r1
  obtain ⟨rfl, rfl, rfl⟩ := trodAll_nil r2
  obtain rfl : args = #[v0, v1, v2] := by cases args; simp_all
  obtain ⟨rfl, rfl⟩ := trodVars_none hV
  obtain ⟨a0, b0, rfl, rfl, s0⟩ := open_num (hval 0 _ v0 rfl rfl) h0
  obtain ⟨a1, b1, rfl, rfl, s1⟩ := open_num (hval 1 _ v1 rfl rfl) h1
  obtain ⟨a2, b2, rfl, rfl, s2⟩ := open_num (hval 2 _ v2 rfl rfl) h2
  clear hA0 hval0
  simp only [List.append_nil] at hW'
  refine ((curveRing_law a0 a1 a2 b0 b1 b2).2 W (laidN hL)).mono fun e W' ⟨he, hg⟩ => ?_
  subst he
  exact ⟨_, rfl, post_below (pa := []) (pv := []) hW' (fun _ _ _ => trodAll_cons_mk (shut_bool Tryd.underlying4 _) trodAll_mk0) (fun sp _ => (trodAll_cons_mk (s0 _ _ _ _ _) (trodAll_cons_mk (s1 _ _ _ _ _) (trodAll_cons_mk (s2 _ _ _ _ _) trodAll_mk0)))) (fun _ _ => rfl) rfl
    hg (ok_one (by kernel_rfl) rfl (okWide_bool_mk Tryd.underlying4 _))⟩

theorem curveRing_over : Rows.CurveRingSaid :=
  OpenClaim.holds_of_wide 7 Tryd.f7 rfl rfl rfl rfl rfl rfl rfl ⟨rfl, rfl, rfl, rfl, rfl⟩ rfl rfl rfl rfl rfl (by kernel_rfl) Tryd.func7 (by kernel_rfl)
    (of_decide_eq_true (by kernel_rfl)) (by unfold Func.isWrapper; first | (rw [if_pos (by decide +kernel)]; kernel_rfl) | (rw [if_neg (by decide +kernel)]; exact ⟨rfl, rfl⟩))
    (fun os started H enc _ => curveRing_lifted os started H enc)

/-- THE STATEMENT. -/
theorem curveRing_holds : Rows.CurveRingCardSaid :=
  Claim7.holds_tied_plain_at .later [] [.data, .data, .data, .data] true (true, "4fd09045e6821276d435d2d4998247e0789e5cdd2116a89db7f4265888bac662") false
    curveRing_over (fun _ h => by cases h) (by kernel_rfl) (fun _ h => by cases h) curveRing_row_tie rfl ⟨rfl, rfl⟩ (by kernel_rfl) rfl
    (fun f fn hf hfn => by
      obtain rfl : f = 7 := Option.some.inj ((show Tryd.prog.funcNamed "tryst/trystlaw08.CurveRing" = some 7 by kernel_rfl).symm.trans hf) |>.symm
      obtain rfl : fn = Tryd.f7 := (Option.some.inj (Tryd.func7.symm.trans hfn)).symm
      exact ⟨by kernel_rfl, fun j t ht => by
        rw [Tryd.params7] at ht
        have hm : t ∈ [23, 23, 23] := by simpa using Array.mem_of_getElem? ht
        have hall : ([23, 23, 23].all fun u => !Tryd.prog.wantsStandIn u) = true := by kernel_rfl
        exact (show Tryd.prog.wantsStandIn t = false by simpa using List.all_eq_true.1 hall t hm)⟩)
    (by kernel_rfl)
#print axioms curveRing_holds
end Go.Proofs.YtnlhpiieihnbiaaDoor
