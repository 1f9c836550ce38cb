/-
  DhThree: for all its arguments the law returns true. Conditions: none.
-/
import Derived.Test.YtlalonomdblhdaaDi
namespace Go.Proofs.Ytlalonomdblhdaa
open Go.Sh
open Go.ChangeShapes Go.WideShapes Go.ChangeAt Go.RowKit
set_option maxRecDepth 100000

def thT : List Row := [⟨9, [rw8 1], rw8 3⟩, ⟨11, [rw8 0, rw8 3], .tp [rw8 4, eOK]⟩, ⟨11, [rw8 2, rw8 4], .tp [rw8 5, eOK]⟩, ⟨9, [rw8 2], rw8 6⟩, ⟨11, [rw8 1, rw8 6], .tp [rw8 7, eOK]⟩, ⟨11, [rw8 0, rw8 7], .tp [rw8 5, eOK]⟩,
  ⟨9, [rw8 0], rw8 8⟩, ⟨11, [rw8 2, rw8 8], .tp [rw8 9, eOK]⟩, ⟨11, [rw8 1, rw8 9], .tp [rw8 5, eOK]⟩, ⟨12, [], .b true⟩]
theorem th_says : says noFacts tree thT 200 6 8 [rw8 0, rw8 1, rw8 2] (heap0 [] gmax) (.b true) = true := by kernel_rfl
theorem th_core (a b c pb x1 x pc y1 y pa z1 z : Nat) (h1 : (lad (kmask b) (em 9)).val = pb) (h2 : (lad (kmask a) (em (pmask pb))).val = x1) (h3 : (lad (kmask c) (em (pmask x1))).val = x) (h4 : (lad (kmask c) (em 9)).val = pc) (h5 : (lad (kmask b) (em (pmask pc))).val = y1) (h6 : (lad (kmask a) (em (pmask y1))).val = y)
    (h7 : (lad (kmask a) (em 9)).val = pa) (h8 : (lad (kmask c) (em (pmask pa))).val = z1) (h9 : (lad (kmask b) (em (pmask z1))).val = z) : Pure Try.prog 8 [byt a, byt b, byt c] (.bool true) := by
  have k1 := pl_next a (pl_first b h1) h2
  have k2 := pl_next c k1 h3
  have k3 := pl_next b (pl_first c h4) h5
  have k4 := pl_next a k3 h6
  have k5 := pl_next c (pl_first a h7) h8
  have k6 := pl_next b k5 h9
  have e1 : x = y := pl_same k2 k4 (by rw [Nat.mul_left_comm, Nat.mul_comm (kmask c)])
  have e2 : x = z := pl_same k2 k6 (by ac_rfl)
  have hx : x ≠ 0 := pl_ne k2
  rw [← e1] at h6
  rw [← e2] at h9
  refine pure_of (ν := nub [a, b, c, pb, x1, x, pc, y1, pa, z1]) (args := [rw8 0, rw8 1, rw8 2]) (noFacts_hold _) mixed tab_ok (fun q hq => ?_) th_says (by simp [concT, nubR8]) rfl
  simp only [thT, List.mem_cons, List.not_mem_nil, or_false] at hq
  rcases hq with rfl | rfl | rfl | rfl | rfl | rfl | rfl | rfl | rfl | rfl
  · exact rowPublic h1 (nubR8 _ 1) (nubR8c _ 3)
  · exact rowShared h2 (pl_ne k1) (nubR8 _ 0) (nubR8 _ 3) (nubR8 _ 4)
  · exact rowShared h3 hx (nubR8 _ 2) (nubR8 _ 4) (nubR8 _ 5)
  · exact rowPublic h4 (nubR8 _ 2) (nubR8c _ 6)
  · exact rowShared h5 (pl_ne k3) (nubR8 _ 1) (nubR8 _ 6) (nubR8 _ 7)
  · exact rowShared h6 hx (nubR8 _ 0) (nubR8 _ 7) (nubR8 _ 5)
  · exact rowPublic h7 (nubR8 _ 0) (nubR8c _ 8)
  · exact rowShared h8 (pl_ne k5) (nubR8 _ 2) (nubR8 _ 8) (nubR8 _ 9)
  · exact rowShared h9 hx (nubR8 _ 1) (nubR8 _ 9) (nubR8 _ 5)
  · exact rowWakes

theorem dhThree_law (a b c : Nat) (ha : a < B4) (hb : b < B4) (hc : c < B4) : Pure Try.prog 8 [byt a, byt b, byt c] (.bool true) := by
  have _ := ha
  have _ := hb
  have _ := hc
  exact th_core a b c _ _ _ _ _ _ _ _ _ rfl rfl rfl rfl rfl rfl rfl rfl rfl

theorem dhThree_lifted (os : Os) (started : os.Started) (H : Type) (enc : TypeId × Value → H) :
    ReturnsInHanded {} Try.checked os 8 .any (Rows.dhThreeSpec.pre6 enc Try.prog Try.f8 Rows.dhThreeRow.domain false) (Rows.dhThreeSpec.post enc Try.prog Try.f8 false true false false) := by
  refine returnsInHanded_of_change (C := Try.checked) own started (by kernel_rfl) Try.func8
    (ChangeSpec.witness6 (enc := enc) (C := Try.checked) false ⟨#[], #[byt 0, byt 0, byt 0], []⟩ 8 (by kernel_rfl) (by kernel_rfl) (by kernel_rfl) (by kernel_rfl)) ?_
  intro W base args ds gs before hval0 hW hcnd _
  have hval : ∀ (j : Nat) t v, Try.f8.params[j]? = some t → args[j]? = some v → Value.okWide Try.prog W .any base t v := hval0
  have hW' := hW
  obtain ⟨p, q, hA0, hV, rfl, hfz, hnd⟩ := hW
  have hA : DataW.TrodAll enc Try.prog W 0 (fun _ => true) true Try.f8.params.toList args.toList ds p := hA0
  rw [Try.params8] at hA hval
  obtain ⟨v0, vs0, d0, ds0, p0, q0, hargs, rfl, rfl, h0, r0⟩ := trodAll_cons hA
  obtain ⟨v1, vs1, d1, ds1, p1, q1, rfl, rfl, rfl, h1, r1⟩ := trodAll_cons r0
  obtain ⟨v2, vs2, d2, ds2, p2, q2, rfl, rfl, rfl, h2, r2⟩ := trodAll_cons r1
  obtain ⟨rfl, rfl, rfl⟩ := trodAll_nil r2
  obtain rfl : args = #[v0, v1, v2] := by cases args; simp_all
  obtain ⟨rfl, rfl⟩ := trodVars_none hV
  obtain ⟨a0, b0, rfl, rfl, s0⟩ := open_num (hval 0 _ v0 rfl rfl) h0
  obtain ⟨a1, b1, rfl, rfl, s1⟩ := open_num (hval 1 _ v1 rfl rfl) h1
  obtain ⟨a2, b2, rfl, rfl, s2⟩ := open_num (hval 2 _ v2 rfl rfl) h2
  clear hA0 hval0
  simp only [List.append_nil] at hW'
  refine (Pure.calls (dhThree_law a0 a1 a2 b0 b1 b2) Try.func8 (by kernel_rfl) (by kernel_rfl) W).mono fun e W' ⟨he, hg⟩ => ?_
  subst he
  exact ⟨_, rfl, post_below (pa := []) (pv := []) hW' (fun _ _ _ => trodAll_cons_mk (shut_bool Try.underlying4 _) trodAll_mk0) (fun sp _ => (trodAll_cons_mk (s0 _ _ _ _ _) (trodAll_cons_mk (s1 _ _ _ _ _) (trodAll_cons_mk (s2 _ _ _ _ _) trodAll_mk0)))) (fun _ _ => rfl) rfl
    hg (ok_one (by kernel_rfl) rfl (okWide_bool_mk Try.underlying4 _))⟩

/-- THE STATEMENT. -/
theorem dhThree_holds : Rows.DhThreeSaid :=
  OpenClaim.holds_of_wide 8 Try.f8 rfl rfl rfl rfl rfl rfl rfl ⟨rfl, rfl, rfl, rfl, rfl⟩ rfl rfl rfl rfl rfl (by kernel_rfl) Try.func8 (by kernel_rfl)
    (of_decide_eq_true (by kernel_rfl)) (by unfold Func.isWrapper; first | (rw [if_pos (by decide +kernel)]; kernel_rfl) | (rw [if_neg (by decide +kernel)]; exact ⟨rfl, rfl⟩))
    (fun os started H enc _ => dhThree_lifted os started H enc)
#print axioms dhThree_holds
end Go.Proofs.Ytlalonomdblhdaa
