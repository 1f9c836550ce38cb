/-
  DhMeets: for all its arguments the law returns true. Conditions: none.
-/
import Derived.Test.YtlalonomdblhdaaDi
namespace Go.Proofs.Ytlalonomdblhdaa
open Go.Sh
open Go.ChangeShapes Go.WideShapes Go.ChangeAt Go.RowKit
set_option maxRecDepth 100000

def mT : List Row := [⟨9, [rw8 1], rw8 2⟩, ⟨11, [rw8 0, rw8 2], .tp [rw8 3, eOK]⟩, ⟨9, [rw8 0], rw8 4⟩, ⟨11, [rw8 1, rw8 4], .tp [rw8 3, eOK]⟩, ⟨12, [], .b true⟩]
theorem m_says : says noFacts tree mT 200 6 4 [rw8 0, rw8 1] (heap0 [] gmax) (.b true) = true := by kernel_rfl
theorem m_core (a b pb x pa y : Nat) (h1 : (lad (kmask b) (em 9)).val = pb) (h2 : (lad (kmask a) (em (pmask pb))).val = x) (h3 : (lad (kmask a) (em 9)).val = pa) (h4 : (lad (kmask b) (em (pmask pa))).val = y) : Pure Try.prog 4 [byt a, byt b] (.bool true) := by
  have k1 := pl_next a (pl_first b h1) h2
  have k2 := pl_next b (pl_first a h3) h4
  have e : x = y := pl_same k1 k2 (Nat.mul_comm _ _)
  have hx : x ≠ 0 := pl_ne k1
  rw [← e] at h4
  refine pure_of (ν := nub [a, b, pb, x, pa]) (args := [rw8 0, rw8 1]) (noFacts_hold _) mixed tab_ok (fun q hq => ?_) m_says (by simp [concT, nubR8]) rfl
  simp only [mT, List.mem_cons, List.not_mem_nil, or_false] at hq
  rcases hq with rfl | rfl | rfl | rfl | rfl
  · exact rowPublic h1 (nubR8 _ 1) (nubR8c _ 2)
  · exact rowShared h2 hx (nubR8 _ 0) (nubR8 _ 2) (nubR8 _ 3)
  · exact rowPublic h3 (nubR8 _ 0) (nubR8c _ 4)
  · exact rowShared h4 hx (nubR8 _ 1) (nubR8 _ 4) (nubR8 _ 3)
  · exact rowWakes

theorem dhMeets_law (a b : Nat) (ha : a < B4) (hb : b < B4) : Pure Try.prog 4 [byt a, byt b] (.bool true) := by
  have _ := ha
  have _ := hb
  exact m_core a b _ _ _ _ rfl rfl rfl rfl

theorem dhMeets_lifted (os : Os) (started : os.Started) (H : Type) (enc : TypeId × Value → H) :
    ReturnsInHanded {} Try.checked os 4 .any (Rows.dhMeetsSpec.pre6 enc Try.prog Try.f4 Rows.dhMeetsRow.domain false) (Rows.dhMeetsSpec.post enc Try.prog Try.f4 false true false false) := by
  refine returnsInHanded_of_change (C := Try.checked) own started (by kernel_rfl) Try.func4
    (ChangeSpec.witness6 (enc := enc) (C := Try.checked) false ⟨#[], #[byt 0, byt 0], []⟩ 8 (by kernel_rfl) (by kernel_rfl) (by kernel_rfl) (by kernel_rfl)) ?_
  intro W base args ds gs before hval0 hW hcnd _
  have hval : ∀ (j : Nat) t v, Try.f4.params[j]? = some t → args[j]? = some v → Value.okWide Try.prog W .any base t v := hval0
  have hW' := hW
  obtain ⟨p, q, hA0, hV, rfl, hfz, hnd⟩ := hW
  have hA : DataW.TrodAll enc Try.prog W 0 (fun _ => true) true Try.f4.params.toList args.toList ds p := hA0
  rw [Try.params4] at hA hval
  obtain ⟨v0, vs0, d0, ds0, p0, q0, hargs, rfl, rfl, h0, r0⟩ := trodAll_cons hA
  obtain ⟨v1, vs1, d1, ds1, p1, q1, rfl, rfl, rfl, h1, r1⟩ := trodAll_cons r0
  obtain ⟨rfl, rfl, rfl⟩ := trodAll_nil r1
  obtain rfl : args = #[v0, v1] := by cases args; simp_all
  obtain ⟨rfl, rfl⟩ := trodVars_none hV
  obtain ⟨a0, b0, rfl, rfl, s0⟩ := open_num (hval 0 _ v0 rfl rfl) h0
  obtain ⟨a1, b1, rfl, rfl, s1⟩ := open_num (hval 1 _ v1 rfl rfl) h1
  clear hA0 hval0
  simp only [List.append_nil] at hW'
  refine (Pure.calls (dhMeets_law a0 a1 b0 b1) Try.func4 (by kernel_rfl) (by kernel_rfl) W).mono fun e W' ⟨he, hg⟩ => ?_
  subst he
  exact ⟨_, rfl, post_below (pa := []) (pv := []) hW' (fun _ _ _ => trodAll_cons_mk (shut_bool Try.underlying4 _) trodAll_mk0) (fun sp _ => (trodAll_cons_mk (s0 _ _ _ _ _) (trodAll_cons_mk (s1 _ _ _ _ _) trodAll_mk0))) (fun _ _ => rfl) rfl
    hg (ok_one (by kernel_rfl) rfl (okWide_bool_mk Try.underlying4 _))⟩

/-- THE STATEMENT. -/
theorem dhMeets_holds : Rows.DhMeetsSaid :=
  OpenClaim.holds_of_wide 4 Try.f4 rfl rfl rfl rfl rfl rfl rfl ⟨rfl, rfl, rfl, rfl, rfl⟩ rfl rfl rfl rfl rfl (by kernel_rfl) Try.func4 (by kernel_rfl)
    (of_decide_eq_true (by kernel_rfl)) (by unfold Func.isWrapper; first | (rw [if_pos (by decide +kernel)]; kernel_rfl) | (rw [if_neg (by decide +kernel)]; exact ⟨rfl, rfl⟩))
    (fun os started H enc _ => dhMeets_lifted os started H enc)
#print axioms dhMeets_holds
end Go.Proofs.Ytlalonomdblhdaa
