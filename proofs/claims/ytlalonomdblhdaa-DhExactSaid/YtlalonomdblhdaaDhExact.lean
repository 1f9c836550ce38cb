/-
  DhExact: for all its arguments the law returns true. Conditions: none.
-/
import Derived.Test.YtlalonomdblhdaaDg
namespace Go.Proofs.Ytlalonomdblhdaa
open Go.Sh
open Go.ChangeShapes Go.WideShapes Go.ChangeAt Go.RowKit
set_option maxRecDepth 100000

def exT : List Row := [⟨9, [rw8 0], rw8 2⟩, ⟨10, [rw8 0, kB 9], rw8 2⟩, ⟨11, [rw8 0, rw8 1], .tp [rw8 3, eOK]⟩, ⟨10, [rw8 0, rw8 1], rw8 3⟩, ⟨12, [], .b true⟩]
def exT0 : List Row := [⟨9, [rw8 0], rw8 2⟩, ⟨10, [rw8 0, kB 9], rw8 2⟩, ⟨11, [rw8 0, rw8 1], .tp [kB 0, eZero]⟩, ⟨10, [rw8 0, rw8 1], kB 0⟩, ⟨12, [], .b true⟩]
theorem ex_says : says ⟨[], [neZ 3]⟩ tree exT 200 6 3 [rw8 0, rw8 1] (heap0 [] gmax) (.b true) = true := by kernel_rfl
theorem ex_says0 : says noFacts tree exT0 200 6 3 [rw8 0, rw8 1] (heap0 [] gmax) (.b true) = true := by kernel_rfl
theorem pm9 : pmask 9 = 9 := by decide
theorem ex_core (k p a r : Nat) (ha : (lad (kmask k) (em 9)).val = a) (hr : (lad (kmask k) (em (pmask p))).val = r) : Pure Try.prog 3 [byt k, byt p] (.bool true) := by
  have hrb : r < B4 := hr ▸ lad_lt _ _
  by_cases h0 : r = 0
  · refine pure_of (ν := nub [k, p, a, r]) (args := [rw8 0, rw8 1]) (noFacts_hold _) mixed tab_ok (fun q hq => ?_) ex_says0 (by simp [concT, nubR8]) rfl
    simp only [exT0, List.mem_cons, List.not_mem_nil, or_false] at hq
    rcases hq with rfl | rfl | rfl | rfl | rfl
    · exact rowPublic ha (nubR8 _ 0) (nubR8c _ 2)
    · exact rowLadder (k := k) (u := 9) (by rw [pm9]; exact ha) (nubR8 _ 0) (kB_val _ 9) (nubR8c _ 2)
    · exact rowShared0 (k := k) (u := p) (hr.trans h0) (nubR8 _ 0) (nubR8 _ 1)
    · exact rowLadder (k := k) (u := p) (hr.trans h0) (nubR8 _ 0) (nubR8 _ 1) (kB_valc _ 0)
    · exact rowWakes
  · refine pure_of (ν := nub [k, p, a, r]) (args := [rw8 0, rw8 1]) (F := ⟨[], [neZ 3]⟩) ⟨fun q hq => (by cases hq), fun q hq => ?_⟩ mixed tab_ok (fun q hq => ?_) ex_says (by simp [concT, nubR8]) rfl
    · simp only [List.mem_cons, List.not_mem_nil, or_false] at hq
      subst hq
      exact neZ_holds (x := r) rfl hrb h0
    · simp only [exT, List.mem_cons, List.not_mem_nil, or_false] at hq
      rcases hq with rfl | rfl | rfl | rfl | rfl
      · exact rowPublic ha (nubR8 _ 0) (nubR8c _ 2)
      · exact rowLadder (k := k) (u := 9) (by rw [pm9]; exact ha) (nubR8 _ 0) (kB_val _ 9) (nubR8c _ 2)
      · exact rowShared (k := k) (u := p) hr h0 (nubR8 _ 0) (nubR8 _ 1) (nubR8 _ 3)
      · exact rowLadder (k := k) (u := p) hr (nubR8 _ 0) (nubR8 _ 1) (nubR8c _ 3)
      · exact rowWakes

theorem dhExact_law (k p : Nat) (hk : k < B4) (hp : p < B4) : Pure Try.prog 3 [byt k, byt p] (.bool true) := by
  have _ := hk
  have _ := hp
  exact ex_core k p _ _ rfl rfl

theorem dhExact_lifted (os : Os) (started : os.Started) (H : Type) (enc : TypeId × Value → H) :
    ReturnsInHanded {} Try.checked os 3 .any (Rows.dhExactSpec.pre6 enc Try.prog Try.f3 Rows.dhExactRow.domain false) (Rows.dhExactSpec.post enc Try.prog Try.f3 false true false false) := by
  refine returnsInHanded_of_change (C := Try.checked) own started (by kernel_rfl) Try.func3
    (ChangeSpec.witness6 (enc := enc) (C := Try.checked) false ⟨#[], #[byt 0, byt 0], []⟩ 8 (by kernel_rfl) (by kernel_rfl) (by kernel_rfl) (by kernel_rfl)) ?_
  intro W base args ds gs before hval0 hW hcnd _
  have hval : ∀ (j : Nat) t v, Try.f3.params[j]? = some t → args[j]? = some v → Value.okWide Try.prog W .any base t v := hval0
  have hW' := hW
  obtain ⟨p, q, hA0, hV, rfl, hfz, hnd⟩ := hW
  have hA : DataW.TrodAll enc Try.prog W 0 (fun _ => true) true Try.f3.params.toList args.toList ds p := hA0
  rw [Try.params3] at hA hval
  obtain ⟨v0, vs0, d0, ds0, p0, q0, hargs, rfl, rfl, h0, r0⟩ := trodAll_cons hA
  obtain ⟨v1, vs1, d1, ds1, p1, q1, rfl, rfl, rfl, h1, r1⟩ := trodAll_cons r0
  obtain ⟨rfl, rfl, rfl⟩ := trodAll_nil r1
  obtain rfl : args = #[v0, v1] := by cases args; simp_all
  obtain ⟨rfl, rfl⟩ := trodVars_none hV
  obtain ⟨a0, b0, rfl, rfl, s0⟩ := open_num (hval 0 _ v0 rfl rfl) h0
  obtain ⟨a1, b1, rfl, rfl, s1⟩ := open_num (hval 1 _ v1 rfl rfl) h1
  clear hA0 hval0
  simp only [List.append_nil] at hW'
  refine (Pure.calls (dhExact_law a0 a1 b0 b1) Try.func3 (by kernel_rfl) (by kernel_rfl) W).mono fun e W' ⟨he, hg⟩ => ?_
  subst he
  exact ⟨_, rfl, post_below (pa := []) (pv := []) hW' (fun _ _ _ => trodAll_cons_mk (shut_bool Try.underlying4 _) trodAll_mk0) (fun sp _ => (trodAll_cons_mk (s0 _ _ _ _ _) (trodAll_cons_mk (s1 _ _ _ _ _) trodAll_mk0))) (fun _ _ => rfl) rfl
    hg (ok_one (by kernel_rfl) rfl (okWide_bool_mk Try.underlying4 _))⟩

/-- THE STATEMENT. -/
theorem dhExact_holds : Rows.DhExactSaid :=
  OpenClaim.holds_of_wide 3 Try.f3 rfl rfl rfl rfl rfl rfl rfl ⟨rfl, rfl, rfl, rfl, rfl⟩ rfl rfl rfl rfl rfl (by kernel_rfl) Try.func3 (by kernel_rfl)
    (of_decide_eq_true (by kernel_rfl)) (by unfold Func.isWrapper; first | (rw [if_pos (by decide +kernel)]; kernel_rfl) | (rw [if_neg (by decide +kernel)]; exact ⟨rfl, rfl⟩))
    (fun os started H enc _ => dhExact_lifted os started H enc)
#print axioms dhExact_holds
end Go.Proofs.Ytlalonomdblhdaa
