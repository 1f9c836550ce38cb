/-
  FieldPowers: for all its arguments the law returns true. Conditions: none.
-/
import Derived.Test.YtdillfhieilgnaaFn
namespace Go.Proofs.Ytdillfhieilgnaa
open Go.Sh
open Go.ChangeShapes Go.WideShapes Go.ChangeAt Go.RowKit
set_option maxRecDepth 100000

theorem rowOf {ν : Nat → Int} {p r : AV} {x : Nat} (h1 : conc2 ν p = some (byt x)) (h2 : conc ν r = some (num x)) : Row.Ok ν Try.prog ⟨12, [p], r⟩ := ⟨[byt x], num x, by simp [concT, h1], h2, Of_ok x⟩
theorem rowBytes {ν : Nat → Int} {p r : AV} {x : Nat} (h1 : conc2 ν p = some (num x)) (h2 : conc ν r = some (byt x)) : Row.Ok ν Try.prog ⟨14, [p], r⟩ := ⟨[num x], byt x, by simp [concT, h1], h2, Bytes_ok x⟩
theorem rowInvP {ν : Nat → Int} {p r : AV} {x : Nat} (hx : x < B4) (h1 : conc2 ν p = some (num x)) (h3 : conc ν r = some (num (x ^ expInv % prime))) : Row.Ok ν Try.prog ⟨28, [p], r⟩ := ⟨[num x], _, by simp [concT, h1], h3, rInv_ok x hx⟩
theorem rowRootPY {ν : Nat → Int} {p r : AV} {x y : Nat} (hx : x < B4) (hy : rootBy e8 e4 x = some y) (h1 : conc2 ν p = some (num x)) (h3 : conc ν (.tp [r, .b true]) = some (rootN (some y))) : Row.Ok ν Try.prog ⟨24, [p], .tp [r, .b true]⟩ :=
  ⟨[num x], _, by simp [concT, h1], h3, hy ▸ rRoot_ok x hx⟩
theorem rowRootPN {ν : Nat → Int} {p r : AV} {x : Nat} (hx : x < B4) (hy : rootBy e8 e4 x = none) (h1 : conc2 ν p = some (num x)) (h3 : conc ν (.tp [r, .b false]) = some (rootN none)) : Row.Ok ν Try.prog ⟨24, [p], .tp [r, .b false]⟩ :=
  ⟨[num x], _, by simp [concT, h1], h3, hy ▸ rRoot_ok x hx⟩

def powY' : List Row := [⟨12, [bs 0], ns 64⟩, ⟨23, [bs 0], .tp [bs 68, .b true]⟩, ⟨24, [ns 64], .tp [ns 100, .b true]⟩, ⟨14, [ns 100], bs 68⟩, ⟨25, [bs 0, bs 32], bs 104⟩, ⟨12, [bs 32], ns 136⟩, ⟨26, [ns 64, ns 136], ns 140⟩, ⟨14, [ns 140], bs 104⟩, ⟨27, [bs 0], bs 144⟩, ⟨28, [ns 64], ns 176⟩, ⟨14, [ns 176], bs 144⟩, ⟨22, [], .b true⟩]
def powN' : List Row := [⟨12, [bs 0], ns 64⟩, ⟨23, [bs 0], .tp [kB 0, .b false]⟩, ⟨24, [ns 64], .tp [smC 0, .b false]⟩, ⟨14, [smC 0], kB 0⟩, ⟨25, [bs 0, bs 32], bs 104⟩, ⟨12, [bs 32], ns 136⟩, ⟨26, [ns 64, ns 136], ns 140⟩, ⟨14, [ns 140], bs 104⟩, ⟨27, [bs 0], bs 144⟩, ⟨28, [ns 64], ns 176⟩, ⟨14, [ns 176], bs 144⟩, ⟨22, [], .b true⟩]
theorem powY_says : says noFacts tree powY' 400 6 4 [bs 0, bs 32] (heap0 [] gmax) (.b true) = true := by kernel_rfl
theorem powN_says : says noFacts tree powN' 400 6 4 [bs 0, bs 32] (heap0 [] gmax) (.b true) = true := by kernel_rfl
theorem powY_core (a e y w v : Nat) (ha : a < B4) (he : e < B4) (hy : rootBy e8 e4 a = some y) (ew : w = a ^ e % prime) (ev : v = a ^ expInv % prime) : Pure Try.prog 4 [byt a, byt e] (.bool true) := by
  refine pure_of (ν := nu (byL a ++ (byL e ++ (numL a ++ (byL y ++ (numL y ++ (byL w ++ (numL e ++ (numL w ++ (byL v ++ numL v)))))))))) (noFacts_hold _) mixed tab_ok (fun r hr => ?_) powY_says (by kernel_rfl) rfl
  simp only [powY', List.mem_cons, List.not_mem_nil, or_false] at hr
  rcases hr with rfl | rfl | rfl | rfl | rfl | rfl | rfl | rfl | rfl | rfl | rfl | rfl
  · exact rowOf (x := a) (by kernel_rfl) (by kernel_rfl)
  · exact rowRootY ha hy (by kernel_rfl) (by kernel_rfl)
  · exact rowRootPY ha hy (by kernel_rfl) (by kernel_rfl)
  · exact rowBytes (x := y) (by kernel_rfl) (by kernel_rfl)
  · exact rowPowB ha he (by kernel_rfl) (by kernel_rfl) (by rw [← ew]; kernel_rfl)
  · exact rowOf (x := e) (by kernel_rfl) (by kernel_rfl)
  · exact rowPowP ha he (by kernel_rfl) (by kernel_rfl) (by rw [← ew]; kernel_rfl)
  · exact rowBytes (x := w) (by kernel_rfl) (by kernel_rfl)
  · exact rowInvB ha (by kernel_rfl) (by rw [← ev]; kernel_rfl)
  · exact rowInvP ha (by kernel_rfl) (by rw [← ev]; kernel_rfl)
  · exact rowBytes (x := v) (by kernel_rfl) (by kernel_rfl)
  · exact rowWakes

theorem powN_core (a e y w v : Nat) (ha : a < B4) (he : e < B4) (hy : rootBy e8 e4 a = none) (ew : w = a ^ e % prime) (ev : v = a ^ expInv % prime) : Pure Try.prog 4 [byt a, byt e] (.bool true) := by
  refine pure_of (ν := nu (byL a ++ (byL e ++ (numL a ++ (byL y ++ (numL y ++ (byL w ++ (numL e ++ (numL w ++ (byL v ++ numL v)))))))))) (noFacts_hold _) mixed tab_ok (fun r hr => ?_) powN_says (by kernel_rfl) rfl
  simp only [powN', List.mem_cons, List.not_mem_nil, or_false] at hr
  rcases hr with rfl | rfl | rfl | rfl | rfl | rfl | rfl | rfl | rfl | rfl | rfl | rfl
  · exact rowOf (x := a) (by kernel_rfl) (by kernel_rfl)
  · exact rowRootN ha hy (by kernel_rfl) (by kernel_rfl)
  · exact rowRootPN ha hy (by kernel_rfl) (by kernel_rfl)
  · exact rowBytes (x := 0) (smC_conc _ 0 (by decide)) (by kernel_rfl)
  · exact rowPowB ha he (by kernel_rfl) (by kernel_rfl) (by rw [← ew]; kernel_rfl)
  · exact rowOf (x := e) (by kernel_rfl) (by kernel_rfl)
  · exact rowPowP ha he (by kernel_rfl) (by kernel_rfl) (by rw [← ew]; kernel_rfl)
  · exact rowBytes (x := w) (by kernel_rfl) (by kernel_rfl)
  · exact rowInvB ha (by kernel_rfl) (by rw [← ev]; kernel_rfl)
  · exact rowInvP ha (by kernel_rfl) (by rw [← ev]; kernel_rfl)
  · exact rowBytes (x := v) (by kernel_rfl) (by kernel_rfl)
  · exact rowWakes

theorem fieldPowers_law (a e : Nat) (ha : a < B4) (he : e < B4) : Pure Try.prog 4 [byt a, byt e] (.bool true) := by
  cases hy : rootBy e8 e4 a with
  | some y => exact powY_core a e y _ _ ha he hy rfl rfl
  | none => exact powN_core a e 0 _ _ ha he hy rfl rfl

theorem fieldPowers_lifted (os : Os) (started : os.Started) (H : Type) (enc : TypeId × Value → H) :
    ReturnsInHanded {} Try.checked os 4 .any (Rows.fieldPowersSpec.pre6 enc Try.prog Try.f4 Rows.fieldPowersRow.domain false) (Rows.fieldPowersSpec.post enc Try.prog Try.f4 false true false false) := by
  refine returnsInHanded_of_change (C := Try.checked) own started (by kernel_rfl) Try.func4
    (ChangeSpec.witness6 (enc := enc) (C := Try.checked) false ⟨#[], #[byt 0, byt 0], []⟩ 8 (by kernel_rfl) (by kernel_rfl) (by kernel_rfl) (by kernel_rfl)) ?_
  intro W base args ds gs before hval0 hW hcnd _
  have hval : ∀ (j : Nat) t v, Try.f4.params[j]? = some t → args[j]? = some v → Value.okWide Try.prog W .any base t v := hval0
  have hW' := hW
  obtain ⟨p, q, hA0, hV, rfl, hfz, hnd⟩ := hW
  have hA : DataW.TrodAll enc Try.prog W 0 (fun _ => true) true Try.f4.params.toList args.toList ds p := hA0
  rw [Try.params4] at hA hval
  obtain ⟨v0, vs0, d0, ds0, p0, q0, hargs, rfl, rfl, h0, r0⟩ := trodAll_cons hA
  obtain ⟨v1, vs1, d1, ds1, p1, q1, rfl, rfl, rfl, h1, r1⟩ := trodAll_cons r0
  obtain ⟨rfl, rfl, rfl⟩ := trodAll_nil r1
  obtain rfl : args = #[v0, v1] := by cases args; simp_all
  obtain ⟨rfl, rfl⟩ := trodVars_none hV
  obtain ⟨a0, b0, rfl, rfl, s0⟩ := open_num (hval 0 _ v0 rfl rfl) h0
  obtain ⟨a1, b1, rfl, rfl, s1⟩ := open_num (hval 1 _ v1 rfl rfl) h1
  clear hA0 hval0
  simp only [List.append_nil] at hW'
  refine (Pure.calls (fieldPowers_law a0 a1 b0 b1) Try.func4 (by kernel_rfl) (by kernel_rfl) W).mono fun e W' ⟨he, hg⟩ => ?_
  subst he
  exact ⟨_, rfl, post_below (pa := []) (pv := []) hW' (fun _ _ _ => trodAll_cons_mk (shut_bool Try.underlying4 _) trodAll_mk0) (fun sp _ => (trodAll_cons_mk (s0 _ _ _ _ _) (trodAll_cons_mk (s1 _ _ _ _ _) trodAll_mk0))) (fun _ _ => rfl) rfl
    hg (ok_one (by kernel_rfl) rfl (okWide_bool_mk Try.underlying4 _))⟩

/-- THE STATEMENT. -/
theorem fieldPowers_holds : Rows.FieldPowersSaid :=
  OpenClaim.holds_of_wide 4 Try.f4 rfl rfl rfl rfl rfl rfl rfl ⟨rfl, rfl, rfl, rfl, rfl⟩ rfl rfl rfl rfl rfl (by kernel_rfl) Try.func4 (by kernel_rfl)
    (of_decide_eq_true (by kernel_rfl)) (by unfold Func.isWrapper; first | (rw [if_pos (by decide +kernel)]; kernel_rfl) | (rw [if_neg (by decide +kernel)]; exact ⟨rfl, rfl⟩))
    (fun os started H enc _ => fieldPowers_lifted os started H enc)
#print axioms fieldPowers_holds
end Go.Proofs.Ytdillfhieilgnaa
