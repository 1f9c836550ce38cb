/-
  FieldQuotients: for all its arguments the law returns true. Conditions: none.
-/
import Derived.Test.YtdillfhieilgnaaFh
import Derived.Test.YtdillfhieilgnaaFi
namespace Go.Proofs.Ytdillfhieilgnaa
open Go.Sh
open Go.ChangeShapes Go.WideShapes Go.ChangeAt Go.RowKit
set_option maxRecDepth 100000

def fieldQuotientsAT : List Row := [⟨13, [bs 32], bs 96⟩, ⟨13, [bs 64], bs 128⟩, ⟨27, [bs 32], bs 160⟩, ⟨27, [bs 64], bs 192⟩, ⟨20, [bs 0, bs 160], bs 224⟩, ⟨20, [bs 224, bs 32], bs 256⟩, ⟨13, [bs 0], bs 256⟩, ⟨20, [bs 32, bs 64], bs 288⟩, ⟨27, [bs 288], bs 320⟩, ⟨20, [bs 160, bs 192], bs 320⟩, ⟨27, [bs 96], bs 160⟩, ⟨22, [], .b true⟩]
def fieldQuotientsAF : Facts := ⟨[], [neB (sL 96) (cL 0), neB (sL 128) (cL 0)]⟩
theorem fieldQuotientsA_says : says fieldQuotientsAF tree fieldQuotientsAT 600 7 11 [bs 0, bs 32, bs 64] (heap0 [] gmax) (.b true) = true := by kernel_rfl
theorem fieldQuotientsA_core (e0 e1 e2 e3 e4 e5 e6 e7 e8 e9 e10 : Nat) (b0 : e0 < B4) (b1 : e1 < B4) (b2 : e2 < B4) (q0 : e3 = e1 % prime) (q1 : e4 = e2 % prime) (q2 : e5 = e1 ^ expInv % prime) (q3 : e6 = e2 ^ expInv % prime) (q4 : e7 = e0 * e5 % prime) (q5 : e8 = e7 * e1 % prime) (q6 : e8 = e0 % prime) (q7 : e9 = e1 * e2 % prime) (q8 : e10 = e9 ^ expInv % prime) (q9 : e10 = e5 * e6 % prime) (q10 : e5 = e3 ^ expInv % prime) (f0 : e3 ≠ 0) (f1 : e4 ≠ 0) :
    Pure Try.prog 11 [byt e0, byt e1, byt e2] (.bool true) := by
  have b3 : e3 < B4 := by rw [q0]; exact prime_lt _
  have b4 : e4 < B4 := by rw [q1]; exact prime_lt _
  have b5 : e5 < B4 := by rw [q2]; exact prime_lt _
  have b6 : e6 < B4 := by rw [q3]; exact prime_lt _
  have b7 : e7 < B4 := by rw [q4]; exact prime_lt _
  have b8 : e8 < B4 := by rw [q5]; exact prime_lt _
  have b9 : e9 < B4 := by rw [q7]; exact prime_lt _
  have b10 : e10 < B4 := by rw [q8]; exact prime_lt _
  have hF : Facts.Hold fieldQuotientsAF (nu (byL e0 ++ (byL e1 ++ (byL e2 ++ (byL e3 ++ (byL e4 ++ (byL e5 ++ (byL e6 ++ (byL e7 ++ (byL e8 ++ (byL e9 ++ (byL e10)))))))))))) := by
    refine ⟨fun p hp => (by cases hp), fun p hp => ?_⟩
    simp only [fieldQuotientsAF, List.mem_cons, List.not_mem_nil, or_false] at hp
    rcases hp with rfl | rfl
    · exact neB_holds (x := e3) (y := 0) b3 (by decide) (by kernel_rfl) (cL_val _ _) f0
    · exact neB_holds (x := e4) (y := 0) b4 (by decide) (by kernel_rfl) (cL_val _ _) f1
  refine pure_of hF mixed tab_ok (fun r hr => ?_) fieldQuotientsA_says (by kernel_rfl) rfl
  simp only [fieldQuotientsAT, List.mem_cons, List.not_mem_nil, or_false] at hr
  rcases hr with rfl | rfl | rfl | rfl | rfl | rfl | rfl | rfl | rfl | rfl | rfl | rfl
  · exact rowModB (x := e1) b1 (by kernel_rfl) (by rw [← q0]; kernel_rfl)
  · exact rowModB (x := e2) b2 (by kernel_rfl) (by rw [← q1]; kernel_rfl)
  · exact rowInvB (x := e1) b1 (by kernel_rfl) (by rw [← q2]; kernel_rfl)
  · exact rowInvB (x := e2) b2 (by kernel_rfl) (by rw [← q3]; kernel_rfl)
  · exact rowMulB (x := e0) (y := e5) b0 b5 (by kernel_rfl) (by kernel_rfl) (by rw [← q4]; kernel_rfl)
  · exact rowMulB (x := e7) (y := e1) b7 b1 (by kernel_rfl) (by kernel_rfl) (by rw [← q5]; kernel_rfl)
  · exact rowModB (x := e0) b0 (by kernel_rfl) (by rw [← q6]; kernel_rfl)
  · exact rowMulB (x := e1) (y := e2) b1 b2 (by kernel_rfl) (by kernel_rfl) (by rw [← q7]; kernel_rfl)
  · exact rowInvB (x := e9) b9 (by kernel_rfl) (by rw [← q8]; kernel_rfl)
  · exact rowMulB (x := e5) (y := e6) b5 b6 (by kernel_rfl) (by kernel_rfl) (by rw [← q9]; kernel_rfl)
  · exact rowInvB (x := e3) b3 (by kernel_rfl) (by rw [← q10]; kernel_rfl)
  · exact rowWakes

def fieldQuotientsBT : List Row := [⟨13, [bs 32], kB 0⟩, ⟨27, [kB 0], kB 0⟩, ⟨22, [], .b true⟩]
def fieldQuotientsBF : Facts := ⟨[], []⟩
theorem fieldQuotientsB_says : says fieldQuotientsBF tree fieldQuotientsBT 600 7 11 [bs 0, bs 32, bs 64] (heap0 [] gmax) (.b true) = true := by kernel_rfl
theorem fieldQuotientsB_core (e0 e1 e2 : Nat) (b0 : e0 < B4) (b1 : e1 < B4) (b2 : e2 < B4) (q0 : 0 = e1 % prime) (q1 : 0 = 0 ^ expInv % prime) :
    Pure Try.prog 11 [byt e0, byt e1, byt e2] (.bool true) := by
  have hF : Facts.Hold fieldQuotientsBF (nu (byL e0 ++ (byL e1 ++ (byL e2)))) := by
    refine ⟨fun p hp => (by cases hp), fun p hp => ?_⟩
    cases hp
  refine pure_of hF mixed tab_ok (fun r hr => ?_) fieldQuotientsB_says (by kernel_rfl) rfl
  simp only [fieldQuotientsBT, List.mem_cons, List.not_mem_nil, or_false] at hr
  rcases hr with rfl | rfl | rfl
  · exact rowModB (x := e1) b1 (by kernel_rfl) (by rw [← q0]; kernel_rfl)
  · exact rowInvB (x := 0) (by decide) (by kernel_rfl) (by rw [← q1]; kernel_rfl)
  · exact rowWakes

def fieldQuotientsCT : List Row := [⟨13, [bs 32], bs 96⟩, ⟨13, [bs 64], kB 0⟩, ⟨27, [kB 0], kB 0⟩, ⟨22, [], .b true⟩]
def fieldQuotientsCF : Facts := ⟨[], [neB (sL 96) (cL 0)]⟩
theorem fieldQuotientsC_says : says fieldQuotientsCF tree fieldQuotientsCT 600 7 11 [bs 0, bs 32, bs 64] (heap0 [] gmax) (.b true) = true := by kernel_rfl
theorem fieldQuotientsC_core (e0 e1 e2 e3 : Nat) (b0 : e0 < B4) (b1 : e1 < B4) (b2 : e2 < B4) (q0 : e3 = e1 % prime) (q1 : 0 = e2 % prime) (q2 : 0 = 0 ^ expInv % prime) (f0 : e3 ≠ 0) :
    Pure Try.prog 11 [byt e0, byt e1, byt e2] (.bool true) := by
  have b3 : e3 < B4 := by rw [q0]; exact prime_lt _
  have hF : Facts.Hold fieldQuotientsCF (nu (byL e0 ++ (byL e1 ++ (byL e2 ++ (byL e3))))) := by
    refine ⟨fun p hp => (by cases hp), fun p hp => ?_⟩
    simp only [fieldQuotientsCF, List.mem_cons, List.not_mem_nil, or_false] at hp
    rcases hp with rfl
    · exact neB_holds (x := e3) (y := 0) b3 (by decide) (by kernel_rfl) (cL_val _ _) f0
  refine pure_of hF mixed tab_ok (fun r hr => ?_) fieldQuotientsC_says (by kernel_rfl) rfl
  simp only [fieldQuotientsCT, List.mem_cons, List.not_mem_nil, or_false] at hr
  rcases hr with rfl | rfl | rfl | rfl
  · exact rowModB (x := e1) b1 (by kernel_rfl) (by rw [← q0]; kernel_rfl)
  · exact rowModB (x := e2) b2 (by kernel_rfl) (by rw [← q1]; kernel_rfl)
  · exact rowInvB (x := 0) (by decide) (by kernel_rfl) (by rw [← q2]; kernel_rfl)
  · exact rowWakes


theorem expInv_one : expInv + 1 = prime - 1 := by decide
theorem fieldQuotients_law (a b c : Nat) (ha : a < B4) (hb : b < B4) (hc : c < B4) : Pure Try.prog 11 [byt a, byt b, byt c] (.bool true) := by
  have h0 : 0 = 0 ^ expInv % prime := (inv_zero expInv (by decide) (a := 0) (by decide)).symm
  by_cases h1 : b % prime = 0
  · exact fieldQuotientsB_core a b c ha hb hc h1.symm h0
  · by_cases h2 : c % prime = 0
    · exact fieldQuotientsC_core a b c _ ha hb hc rfl h2.symm h0 h1
    · refine fieldQuotientsA_core a b c _ _ _ _ _ _ _ _ ha hb hc rfl rfl rfl rfl rfl rfl ?_ rfl rfl ?_ ?_ h1 h2
      · exact inv_quot expInv expInv_one a h1
      · exact inv_prod expInv b c
      · exact Nat.pow_mod b expInv prime

theorem fieldQuotients_lifted (os : Os) (started : os.Started) (H : Type) (enc : TypeId × Value → H) :
    ReturnsInHanded {} Try.checked os 11 .any (Rows.fieldQuotientsSpec.pre6 enc Try.prog Try.f11 Rows.fieldQuotientsRow.domain false) (Rows.fieldQuotientsSpec.post enc Try.prog Try.f11 false true false false) := by
  refine returnsInHanded_of_change (C := Try.checked) own started (by kernel_rfl) Try.func11
    (ChangeSpec.witness6 (enc := enc) (C := Try.checked) false ⟨#[], #[byt 0, byt 0, byt 0], []⟩ 8 (by kernel_rfl) (by kernel_rfl) (by kernel_rfl) (by kernel_rfl)) ?_
  intro W base args ds gs before hval0 hW hcnd _
  have hval : ∀ (j : Nat) t v, Try.f11.params[j]? = some t → args[j]? = some v → Value.okWide Try.prog W .any base t v := hval0
  have hW' := hW
  obtain ⟨p, q, hA0, hV, rfl, hfz, hnd⟩ := hW
  have hA : DataW.TrodAll enc Try.prog W 0 (fun _ => true) true Try.f11.params.toList args.toList ds p := hA0
  rw [Try.params11] at hA hval
  obtain ⟨v0, vs0, d0, ds0, p0, q0, hargs, rfl, rfl, h0, r0⟩ := trodAll_cons hA
  obtain ⟨v1, vs1, d1, ds1, p1, q1, rfl, rfl, rfl, h1, r1⟩ := trodAll_cons r0
  obtain ⟨v2, vs2, d2, ds2, p2, q2, rfl, rfl, rfl, h2, r2⟩ := trodAll_cons r1
  obtain ⟨rfl, rfl, rfl⟩ := trodAll_nil r2
  obtain rfl : args = #[v0, v1, v2] := by cases args; simp_all
  obtain ⟨rfl, rfl⟩ := trodVars_none hV
  obtain ⟨a0, b0, rfl, rfl, s0⟩ := open_num (hval 0 _ v0 rfl rfl) h0
  obtain ⟨a1, b1, rfl, rfl, s1⟩ := open_num (hval 1 _ v1 rfl rfl) h1
  obtain ⟨a2, b2, rfl, rfl, s2⟩ := open_num (hval 2 _ v2 rfl rfl) h2
  clear hA0 hval0
  simp only [List.append_nil] at hW'
  refine (Pure.calls (fieldQuotients_law a0 a1 a2 b0 b1 b2) Try.func11 (by kernel_rfl) (by kernel_rfl) W).mono fun e W' ⟨he, hg⟩ => ?_
  subst he
  exact ⟨_, rfl, post_below (pa := []) (pv := []) hW' (fun _ _ _ => trodAll_cons_mk (shut_bool Try.underlying4 _) trodAll_mk0) (fun sp _ => (trodAll_cons_mk (s0 _ _ _ _ _) (trodAll_cons_mk (s1 _ _ _ _ _) (trodAll_cons_mk (s2 _ _ _ _ _) trodAll_mk0)))) (fun _ _ => rfl) rfl
    hg (ok_one (by kernel_rfl) rfl (okWide_bool_mk Try.underlying4 _))⟩

/-- THE STATEMENT. -/
theorem fieldQuotients_holds : Rows.FieldQuotientsSaid :=
  OpenClaim.holds_of_wide 11 Try.f11 rfl rfl rfl rfl rfl rfl rfl ⟨rfl, rfl, rfl, rfl, rfl⟩ rfl rfl rfl rfl rfl (by kernel_rfl) Try.func11 (by kernel_rfl)
    (of_decide_eq_true (by kernel_rfl)) (by unfold Func.isWrapper; first | (rw [if_pos (by decide +kernel)]; kernel_rfl) | (rw [if_neg (by decide +kernel)]; exact ⟨rfl, rfl⟩))
    (fun os started H enc _ => fieldQuotients_lifted os started H enc)
#print axioms fieldQuotients_holds
end Go.Proofs.Ytdillfhieilgnaa
