/-
  FieldInverse: for all its arguments the law returns true. Conditions: none.
-/
import Derived.Test.YtdillfhieilgnaaFh
import Derived.Test.YtdillfhieilgnaaFi
namespace Go.Proofs.Ytdillfhieilgnaa
open Go.Sh
open Go.ChangeShapes Go.WideShapes Go.ChangeAt Go.RowKit
set_option maxRecDepth 100000

def fieldInverseAT : List Row := [⟨27, [bs 0], bs 32⟩, ⟨13, [bs 0], bs 64⟩, ⟨20, [bs 0, bs 32], kB 1⟩, ⟨27, [bs 32], bs 64⟩, ⟨20, [bs 0, bs 0], bs 96⟩, ⟨23, [bs 96], .tp [bs 64, .b true]⟩, ⟨20, [bs 64, bs 64], bs 96⟩, ⟨22, [], .b true⟩]
def fieldInverseAF : Facts := ⟨[], [neB (sL 64) (cL 0), evenF 64]⟩
theorem fieldInverseA_says : says fieldInverseAF tree fieldInverseAT 600 7 6 [bs 0] (heap0 [] gmax) (.b true) = true := by kernel_rfl
theorem fieldInverseA_core (z0 z1 z2 z3 : Nat) (b0 : z0 < B4) (q0 : z1 = z0 ^ expInv % prime) (q1 : z2 = z0 % prime) (q2 : 1 = z0 * z1 % prime) (q3 : z2 = z1 ^ expInv % prime) (q4 : z3 = z0 * z0 % prime) (q5 : rootBy e8 e4 z3 = some z2) (q6 : z3 = z2 * z2 % prime) (f0 : z2 ≠ 0) (f1 : z2 % 2 = 0) :
    Pure Try.prog 6 [byt z0] (.bool true) := by
  have b1 : z1 < B4 := by rw [q0]; exact prime_lt _
  have b2 : z2 < B4 := by rw [q1]; exact prime_lt _
  have b3 : z3 < B4 := by rw [q4]; exact prime_lt _
  have hF : Facts.Hold fieldInverseAF (nu (byL z0 ++ (byL z1 ++ (byL z2 ++ (byL z3))))) := by
    refine ⟨fun p hp => (by cases hp), fun p hp => ?_⟩
    simp only [fieldInverseAF, List.mem_cons, List.not_mem_nil, or_false] at hp
    rcases hp with rfl | rfl
    · exact neB_holds (x := z2) (y := 0) b2 (by decide) (by kernel_rfl) (cL_val _ _) f0
    · exact evenF_holds (by kernel_rfl) f1
  refine pure_of hF mixed tab_ok (fun r hr => ?_) fieldInverseA_says (by kernel_rfl) rfl
  simp only [fieldInverseAT, List.mem_cons, List.not_mem_nil, or_false] at hr
  rcases hr with rfl | rfl | rfl | rfl | rfl | rfl | rfl | rfl
  · exact rowInvB (x := z0) b0 (by kernel_rfl) (by rw [← q0]; kernel_rfl)
  · exact rowModB (x := z0) b0 (by kernel_rfl) (by rw [← q1]; kernel_rfl)
  · exact rowMulB (x := z0) (y := z1) b0 b1 (by kernel_rfl) (by kernel_rfl) (by rw [← q2]; kernel_rfl)
  · exact rowInvB (x := z1) b1 (by kernel_rfl) (by rw [← q3]; kernel_rfl)
  · exact rowMulB (x := z0) (y := z0) b0 b0 (by kernel_rfl) (by kernel_rfl) (by rw [← q4]; kernel_rfl)
  · exact rowRootY (x := z3) (y := z2) b3 q5 (by kernel_rfl) (by kernel_rfl)
  · exact rowMulB (x := z2) (y := z2) b2 b2 (by kernel_rfl) (by kernel_rfl) (by rw [← q6]; kernel_rfl)
  · exact rowWakes

def fieldInverseBT : List Row := [⟨27, [bs 0], bs 32⟩, ⟨13, [bs 0], bs 64⟩, ⟨20, [bs 0, bs 32], kB 1⟩, ⟨27, [bs 32], bs 64⟩, ⟨20, [bs 0, bs 0], bs 96⟩, ⟨23, [bs 96], .tp [bs 128, .b true]⟩, ⟨20, [bs 128, bs 128], bs 96⟩, ⟨16, [bs 128, bs 0], kB 0⟩, ⟨22, [], .b true⟩]
def fieldInverseBF : Facts := ⟨[], [neB (sL 64) (cL 0), evenF 128, neB (sL 128) (sL 64)]⟩
theorem fieldInverseB_says : says fieldInverseBF tree fieldInverseBT 600 7 6 [bs 0] (heap0 [] gmax) (.b true) = true := by kernel_rfl
theorem fieldInverseB_core (z0 z1 z2 z3 z4 : Nat) (b0 : z0 < B4) (q0 : z1 = z0 ^ expInv % prime) (q1 : z2 = z0 % prime) (q2 : 1 = z0 * z1 % prime) (q3 : z2 = z1 ^ expInv % prime) (q4 : z3 = z0 * z0 % prime) (q5 : rootBy e8 e4 z3 = some z4) (q6 : z3 = z4 * z4 % prime) (q7 : 0 = (z4 + z0) % prime) (f0 : z2 ≠ 0) (f1 : z4 % 2 = 0) (f2 : z4 ≠ z2) :
    Pure Try.prog 6 [byt z0] (.bool true) := by
  have b1 : z1 < B4 := by rw [q0]; exact prime_lt _
  have b2 : z2 < B4 := by rw [q1]; exact prime_lt _
  have b3 : z3 < B4 := by rw [q4]; exact prime_lt _
  have b4 : z4 < B4 := Nat.lt_trans (root_some q5).1 (by decide)
  have hF : Facts.Hold fieldInverseBF (nu (byL z0 ++ (byL z1 ++ (byL z2 ++ (byL z3 ++ (byL z4)))))) := by
    refine ⟨fun p hp => (by cases hp), fun p hp => ?_⟩
    simp only [fieldInverseBF, List.mem_cons, List.not_mem_nil, or_false] at hp
    rcases hp with rfl | rfl | rfl
    · exact neB_holds (x := z2) (y := 0) b2 (by decide) (by kernel_rfl) (cL_val _ _) f0
    · exact evenF_holds (by kernel_rfl) f1
    · exact neB_holds (x := z4) (y := z2) b4 b2 (by kernel_rfl) (by kernel_rfl) f2
  refine pure_of hF mixed tab_ok (fun r hr => ?_) fieldInverseB_says (by kernel_rfl) rfl
  simp only [fieldInverseBT, List.mem_cons, List.not_mem_nil, or_false] at hr
  rcases hr with rfl | rfl | rfl | rfl | rfl | rfl | rfl | rfl | rfl
  · exact rowInvB (x := z0) b0 (by kernel_rfl) (by rw [← q0]; kernel_rfl)
  · exact rowModB (x := z0) b0 (by kernel_rfl) (by rw [← q1]; kernel_rfl)
  · exact rowMulB (x := z0) (y := z1) b0 b1 (by kernel_rfl) (by kernel_rfl) (by rw [← q2]; kernel_rfl)
  · exact rowInvB (x := z1) b1 (by kernel_rfl) (by rw [← q3]; kernel_rfl)
  · exact rowMulB (x := z0) (y := z0) b0 b0 (by kernel_rfl) (by kernel_rfl) (by rw [← q4]; kernel_rfl)
  · exact rowRootY (x := z3) (y := z4) b3 q5 (by kernel_rfl) (by kernel_rfl)
  · exact rowMulB (x := z4) (y := z4) b4 b4 (by kernel_rfl) (by kernel_rfl) (by rw [← q6]; kernel_rfl)
  · exact rowAddB (x := z4) (y := z0) b4 b0 (by kernel_rfl) (by kernel_rfl) (by rw [← q7]; kernel_rfl)
  · exact rowWakes

def fieldInverseZT : List Row := [⟨27, [bs 0], kB 0⟩, ⟨13, [bs 0], kB 0⟩, ⟨22, [], .b true⟩]
def fieldInverseZF : Facts := ⟨[], []⟩
theorem fieldInverseZ_says : says fieldInverseZF tree fieldInverseZT 600 7 6 [bs 0] (heap0 [] gmax) (.b true) = true := by kernel_rfl
theorem fieldInverseZ_core (z0 : Nat) (b0 : z0 < B4) (q0 : 0 = z0 ^ expInv % prime) (q1 : 0 = z0 % prime) :
    Pure Try.prog 6 [byt z0] (.bool true) := by
  have hF : Facts.Hold fieldInverseZF (nu (byL z0)) := by
    refine ⟨fun p hp => (by cases hp), fun p hp => ?_⟩
    cases hp
  refine pure_of hF mixed tab_ok (fun r hr => ?_) fieldInverseZ_says (by kernel_rfl) rfl
  simp only [fieldInverseZT, List.mem_cons, List.not_mem_nil, or_false] at hr
  rcases hr with rfl | rfl | rfl
  · exact rowInvB (x := z0) b0 (by kernel_rfl) (by rw [← q0]; kernel_rfl)
  · exact rowModB (x := z0) b0 (by kernel_rfl) (by rw [← q1]; kernel_rfl)
  · exact rowWakes


theorem expInv_one : expInv + 1 = prime - 1 := by decide
theorem fieldInverse_law (a : Nat) (ha : a < B4) : Pure Try.prog 6 [byt a] (.bool true) := by
  by_cases h1 : a % prime = 0
  · exact fieldInverseZ_core a ha (inv_zero expInv (by decide) h1).symm h1.symm
  · have hs : Eq' (a * a) (a * a % prime) := (Eq'.mod (a * a)).symm
    have h2 : a * a % prime % prime ≠ 0 := by
      intro h0
      rw [Nat.mod_mod] at h0
      rcases no_zero (a := a) (b := a) h0 with h | h <;> exact h1 h
    obtain ⟨y, hy⟩ := root_there (pow_half_sq hs h2)
    obtain ⟨y1, y2, y3⟩ := root_some hy
    rw [Nat.mod_mod] at y3
    rcases sq_split (y := y) (z := a) y3 with h | h
    · have h' : y = a % prime := by
        have : y % prime = a % prime := h
        rwa [Nat.mod_eq_of_lt y1] at this
      subst h'
      exact fieldInverseA_core a _ _ _ ha rfl rfl (inv_mul expInv expInv_one h1).symm (inv_inv expInv expInv_one h1).symm rfl hy y3.symm h1 y2
    · by_cases h' : y = a % prime
      · subst h'
        exact fieldInverseA_core a _ _ _ ha rfl rfl (inv_mul expInv expInv_one h1).symm (inv_inv expInv expInv_one h1).symm rfl hy y3.symm h1 y2
      · exact fieldInverseB_core a _ _ _ _ ha rfl rfl (inv_mul expInv expInv_one h1).symm (inv_inv expInv expInv_one h1).symm rfl hy y3.symm (show (y + a) % prime = 0 from h).symm h1 y2 h'

theorem fieldInverse_lifted (os : Os) (started : os.Started) (H : Type) (enc : TypeId × Value → H) :
    ReturnsInHanded {} Try.checked os 6 .any (Rows.fieldInverseSpec.pre6 enc Try.prog Try.f6 Rows.fieldInverseRow.domain false) (Rows.fieldInverseSpec.post enc Try.prog Try.f6 false true false false) := by
  refine returnsInHanded_of_change (C := Try.checked) own started (by kernel_rfl) Try.func6
    (ChangeSpec.witness6 (enc := enc) (C := Try.checked) false ⟨#[], #[byt 0], []⟩ 8 (by kernel_rfl) (by kernel_rfl) (by kernel_rfl) (by kernel_rfl)) ?_
  intro W base args ds gs before hval0 hW hcnd _
  have hval : ∀ (j : Nat) t v, Try.f6.params[j]? = some t → args[j]? = some v → Value.okWide Try.prog W .any base t v := hval0
  have hW' := hW
  obtain ⟨p, q, hA0, hV, rfl, hfz, hnd⟩ := hW
  have hA : DataW.TrodAll enc Try.prog W 0 (fun _ => true) true Try.f6.params.toList args.toList ds p := hA0
  rw [Try.params6] at hA hval
  obtain ⟨v0, vs0, d0, ds0, p0, q0, hargs, rfl, rfl, h0, r0⟩ := trodAll_cons hA
  obtain ⟨rfl, rfl, rfl⟩ := trodAll_nil r0
  obtain rfl : args = #[v0] := by cases args; simp_all
  obtain ⟨rfl, rfl⟩ := trodVars_none hV
  obtain ⟨a0, b0, rfl, rfl, s0⟩ := open_num (hval 0 _ v0 rfl rfl) h0
  clear hA0 hval0
  simp only [List.append_nil] at hW'
  refine (Pure.calls (fieldInverse_law a0 b0) Try.func6 (by kernel_rfl) (by kernel_rfl) W).mono fun e W' ⟨he, hg⟩ => ?_
  subst he
  exact ⟨_, rfl, post_below (pa := []) (pv := []) hW' (fun _ _ _ => trodAll_cons_mk (shut_bool Try.underlying4 _) trodAll_mk0) (fun sp _ => (trodAll_cons_mk (s0 _ _ _ _ _) trodAll_mk0)) (fun _ _ => rfl) rfl
    hg (ok_one (by kernel_rfl) rfl (okWide_bool_mk Try.underlying4 _))⟩

/-- THE STATEMENT. -/
theorem fieldInverse_holds : Rows.FieldInverseSaid :=
  OpenClaim.holds_of_wide 6 Try.f6 rfl rfl rfl rfl rfl rfl rfl ⟨rfl, rfl, rfl, rfl, rfl⟩ rfl rfl rfl rfl rfl (by kernel_rfl) Try.func6 (by kernel_rfl)
    (of_decide_eq_true (by kernel_rfl)) (by unfold Func.isWrapper; first | (rw [if_pos (by decide +kernel)]; kernel_rfl) | (rw [if_neg (by decide +kernel)]; exact ⟨rfl, rfl⟩))
    (fun os started H enc _ => fieldInverse_lifted os started H enc)
#print axioms fieldInverse_holds
end Go.Proofs.Ytdillfhieilgnaa
