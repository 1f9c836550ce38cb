/-
  FieldSigns: for all its arguments the law returns true. Conditions: none.
-/
import Derived.Test.YtdillfhieilgnaaFh
import Derived.Test.YtdillfhieilgnaaSh3
import Derived.Test.YtdillfhieilgnaaSh4
namespace Go.Proofs.Ytdillfhieilgnaa
open Go.Sh
open Go.ChangeShapes Go.WideShapes Go.ChangeAt Go.RowKit
set_option maxRecDepth 100000

def fieldSignsT : List Row := [⟨18, [kB 0, bs 0], bs 64⟩, ⟨16, [bs 64, bs 0], kB 0⟩, ⟨20, [bs 64, bs 64], bs 96⟩, ⟨20, [bs 0, bs 0], bs 96⟩, ⟨20, [bs 64, bs 32], bs 128⟩, ⟨20, [bs 0, bs 32], bs 160⟩, ⟨18, [kB 0, bs 160], bs 128⟩, ⟨20, [bs 0, kB 2], bs 192⟩, ⟨16, [bs 0, bs 0], bs 192⟩, ⟨18, [bs 0, bs 0], kB 0⟩, ⟨18, [bs 0, bs 32], bs 224⟩, ⟨18, [bs 32, bs 0], bs 256⟩, ⟨18, [kB 0, bs 256], bs 224⟩, ⟨22, [], .b true⟩]
theorem fieldSigns_says : says noFacts tree fieldSignsT 400 6 10 [bs 0, bs 32] (heap0 [] gmax) (.b true) = true := by kernel_rfl
theorem fieldSigns_core (e0 e1 e2 e3 e4 e5 e6 e7 e8 : Nat) (b0 : e0 < B4) (b1 : e1 < B4) (q0 : e2 = (0 + (prime - e0 % prime)) % prime) (q1 : 0 = (e2 + e0) % prime) (q2 : e3 = e2 * e2 % prime) (q3 : e3 = e0 * e0 % prime) (q4 : e4 = e2 * e1 % prime) (q5 : e5 = e0 * e1 % prime) (q6 : e4 = (0 + (prime - e5 % prime)) % prime) (q7 : e6 = e0 * 2 % prime) (q8 : e6 = (e0 + e0) % prime) (q9 : 0 = (e0 + (prime - e0 % prime)) % prime) (q10 : e7 = (e0 + (prime - e1 % prime)) % prime) (q11 : e8 = (e1 + (prime - e0 % prime)) % prime) (q12 : e7 = (0 + (prime - e8 % prime)) % prime) :
    Pure Try.prog 10 [byt e0, byt e1] (.bool true) := by
  have b2 : e2 < B4 := by rw [q0]; exact prime_lt _
  have b3 : e3 < B4 := by rw [q2]; exact prime_lt _
  have b4 : e4 < B4 := by rw [q4]; exact prime_lt _
  have b5 : e5 < B4 := by rw [q5]; exact prime_lt _
  have b6 : e6 < B4 := by rw [q7]; exact prime_lt _
  have b7 : e7 < B4 := by rw [q10]; exact prime_lt _
  have b8 : e8 < B4 := by rw [q11]; exact prime_lt _
  refine pure_of (ν := nu (byL e0 ++ (byL e1 ++ (byL e2 ++ (byL e3 ++ (byL e4 ++ (byL e5 ++ (byL e6 ++ (byL e7 ++ (byL e8)))))))))) (noFacts_hold _) mixed tab_ok (fun r hr => ?_) fieldSigns_says (by kernel_rfl) rfl
  simp only [fieldSignsT, List.mem_cons, List.not_mem_nil, or_false] at hr
  rcases hr with rfl | rfl | rfl | rfl | rfl | rfl | rfl | rfl | rfl | rfl | rfl | rfl | rfl | rfl
  · exact rowSubB (x := 0) (y := e0) (by decide) b0 (by kernel_rfl) (by kernel_rfl) (by rw [← q0]; kernel_rfl)
  · exact rowAddB (x := e2) (y := e0) b2 b0 (by kernel_rfl) (by kernel_rfl) (by rw [← q1]; kernel_rfl)
  · exact rowMulB (x := e2) (y := e2) b2 b2 (by kernel_rfl) (by kernel_rfl) (by rw [← q2]; kernel_rfl)
  · exact rowMulB (x := e0) (y := e0) b0 b0 (by kernel_rfl) (by kernel_rfl) (by rw [← q3]; kernel_rfl)
  · exact rowMulB (x := e2) (y := e1) b2 b1 (by kernel_rfl) (by kernel_rfl) (by rw [← q4]; kernel_rfl)
  · exact rowMulB (x := e0) (y := e1) b0 b1 (by kernel_rfl) (by kernel_rfl) (by rw [← q5]; kernel_rfl)
  · exact rowSubB (x := 0) (y := e5) (by decide) b5 (by kernel_rfl) (by kernel_rfl) (by rw [← q6]; kernel_rfl)
  · exact rowMulB (x := e0) (y := 2) b0 (by decide) (by kernel_rfl) (by kernel_rfl) (by rw [← q7]; kernel_rfl)
  · exact rowAddB (x := e0) (y := e0) b0 b0 (by kernel_rfl) (by kernel_rfl) (by rw [← q8]; kernel_rfl)
  · exact rowSubB (x := e0) (y := e0) b0 b0 (by kernel_rfl) (by kernel_rfl) (by rw [← q9]; kernel_rfl)
  · exact rowSubB (x := e0) (y := e1) b0 b1 (by kernel_rfl) (by kernel_rfl) (by rw [← q10]; kernel_rfl)
  · exact rowSubB (x := e1) (y := e0) b1 b0 (by kernel_rfl) (by kernel_rfl) (by rw [← q11]; kernel_rfl)
  · exact rowSubB (x := 0) (y := e8) (by decide) b8 (by kernel_rfl) (by kernel_rfl) (by rw [← q12]; kernel_rfl)
  · exact rowWakes

theorem fieldSigns_law (a b : Nat) (ha : a < B4) (hb : b < B4) : Pure Try.prog 10 [byt a, byt b] (.bool true) := by
  refine fieldSigns_core a b _ _ _ _ _ _ _ ha hb rfl ?_ rfl ?_ rfl rfl ?_ rfl ?_ ?_ rfl rfl ?_
  · exact (sign_add a).symm
  · exact sign_sq a
  · exact sign_mul a b
  · rw [Nat.mul_two]
  · exact (sign_self a).symm
  · exact sign_swap a b

theorem fieldSigns_lifted (os : Os) (started : os.Started) (H : Type) (enc : TypeId × Value → H) :
    ReturnsInHanded {} Try.checked os 10 .any (Rows.fieldSignsSpec.pre6 enc Try.prog Try.f10 Rows.fieldSignsRow.domain false) (Rows.fieldSignsSpec.post enc Try.prog Try.f10 false true false false) := by
  refine returnsInHanded_of_change (C := Try.checked) own started (by kernel_rfl) Try.func10
    (ChangeSpec.witness6 (enc := enc) (C := Try.checked) false ⟨#[], #[byt 0, byt 0], []⟩ 8 (by kernel_rfl) (by kernel_rfl) (by kernel_rfl) (by kernel_rfl)) ?_
  intro W base args ds gs before hval0 hW hcnd _
  have hval : ∀ (j : Nat) t v, Try.f10.params[j]? = some t → args[j]? = some v → Value.okWide Try.prog W .any base t v := hval0
  have hW' := hW
  obtain ⟨p, q, hA0, hV, rfl, hfz, hnd⟩ := hW
  have hA : DataW.TrodAll enc Try.prog W 0 (fun _ => true) true Try.f10.params.toList args.toList ds p := hA0
  rw [Try.params10] at hA hval
  obtain ⟨v0, vs0, d0, ds0, p0, q0, hargs, rfl, rfl, h0, r0⟩ := trodAll_cons hA
  obtain ⟨v1, vs1, d1, ds1, p1, q1, rfl, rfl, rfl, h1, r1⟩ := trodAll_cons r0
  obtain ⟨rfl, rfl, rfl⟩ := trodAll_nil r1
  obtain rfl : args = #[v0, v1] := by cases args; simp_all
  obtain ⟨rfl, rfl⟩ := trodVars_none hV
  obtain ⟨a0, b0, rfl, rfl, s0⟩ := open_num (hval 0 _ v0 rfl rfl) h0
  obtain ⟨a1, b1, rfl, rfl, s1⟩ := open_num (hval 1 _ v1 rfl rfl) h1
  clear hA0 hval0
  simp only [List.append_nil] at hW'
  refine (Pure.calls (fieldSigns_law a0 a1 b0 b1) Try.func10 (by kernel_rfl) (by kernel_rfl) W).mono fun e W' ⟨he, hg⟩ => ?_
  subst he
  exact ⟨_, rfl, post_below (pa := []) (pv := []) hW' (fun _ _ _ => trodAll_cons_mk (shut_bool Try.underlying4 _) trodAll_mk0) (fun sp _ => (trodAll_cons_mk (s0 _ _ _ _ _) (trodAll_cons_mk (s1 _ _ _ _ _) trodAll_mk0))) (fun _ _ => rfl) rfl
    hg (ok_one (by kernel_rfl) rfl (okWide_bool_mk Try.underlying4 _))⟩

/-- THE STATEMENT. -/
theorem fieldSigns_holds : Rows.FieldSignsSaid :=
  OpenClaim.holds_of_wide 10 Try.f10 rfl rfl rfl rfl rfl rfl rfl ⟨rfl, rfl, rfl, rfl, rfl⟩ rfl rfl rfl rfl rfl (by kernel_rfl) Try.func10 (by kernel_rfl)
    (of_decide_eq_true (by kernel_rfl)) (by unfold Func.isWrapper; first | (rw [if_pos (by decide +kernel)]; kernel_rfl) | (rw [if_neg (by decide +kernel)]; exact ⟨rfl, rfl⟩))
    (fun os started H enc _ => fieldSigns_lifted os started H enc)
#print axioms fieldSigns_holds
end Go.Proofs.Ytdillfhieilgnaa
