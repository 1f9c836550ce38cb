/-
  FieldExact: for all its arguments the law returns true. Conditions: none.
-/
import Derived.Test.YtdillfhieilgnaaFl
namespace Go.Proofs.Ytdillfhieilgnaa
open Go.Sh
open Go.ChangeShapes Go.WideShapes Go.ChangeAt Go.RowKit
set_option maxRecDepth 100000

theorem rowOf {ν : Nat → Int} {p r : AV} {x : Nat} (h1 : conc2 ν p = some (byt x)) (h2 : conc ν r = some (num x)) : Row.Ok ν Try.prog ⟨12, [p], r⟩ := ⟨[byt x], num x, by simp [concT, h1], h2, Of_ok x⟩
theorem rowBytes {ν : Nat → Int} {p r : AV} {x : Nat} (h1 : conc2 ν p = some (num x)) (h2 : conc ν r = some (byt x)) : Row.Ok ν Try.prog ⟨14, [p], r⟩ := ⟨[num x], byt x, by simp [concT, h1], h2, Bytes_ok x⟩
theorem rowAddP {ν : Nat → Int} {p q r : AV} {x y : Nat} (hx : x < B4) (hy : y < B4) (h1 : conc2 ν p = some (num x)) (h2 : conc2 ν q = some (num y)) (h3 : conc ν r = some (num ((x + y) % prime))) : Row.Ok ν Try.prog ⟨17, [p, q], r⟩ := ⟨[num x, num y], _, by simp [concT, h1, h2], h3, rAdd_ok x y hx hy⟩
theorem rowSubP {ν : Nat → Int} {p q r : AV} {x y : Nat} (hx : x < B4) (hy : y < B4) (h1 : conc2 ν p = some (num x)) (h2 : conc2 ν q = some (num y)) (h3 : conc ν r = some (num ((x + (prime - y % prime)) % prime))) : Row.Ok ν Try.prog ⟨19, [p, q], r⟩ := ⟨[num x, num y], _, by simp [concT, h1, h2], h3, rSub_ok x y hx hy⟩
theorem rowMulP {ν : Nat → Int} {p q r : AV} {x y : Nat} (hx : x < B4) (hy : y < B4) (h1 : conc2 ν p = some (num x)) (h2 : conc2 ν q = some (num y)) (h3 : conc ν r = some (num (x * y % prime))) : Row.Ok ν Try.prog ⟨21, [p, q], r⟩ := ⟨[num x, num y], _, by simp [concT, h1, h2], h3, rMul_ok x y hx hy⟩

def exactT : List Row := [⟨12, [bs 0], ns 64⟩, ⟨12, [bs 32], ns 68⟩, ⟨13, [bs 0], bs 72⟩, ⟨15, [ns 64], ns 104⟩, ⟨14, [ns 104], bs 72⟩,
  ⟨16, [bs 0, bs 32], bs 108⟩, ⟨17, [ns 64, ns 68], ns 140⟩, ⟨14, [ns 140], bs 108⟩, ⟨18, [bs 0, bs 32], bs 144⟩, ⟨19, [ns 64, ns 68], ns 176⟩, ⟨14, [ns 176], bs 144⟩,
  ⟨20, [bs 0, bs 32], bs 180⟩, ⟨21, [ns 64, ns 68], ns 212⟩, ⟨14, [ns 212], bs 180⟩, ⟨22, [], .b true⟩]
theorem exact_says : says noFacts tree exactT 400 6 3 [bs 0, bs 32] (heap0 [] gmax) (.b true) = true := by kernel_rfl
theorem exact_core (a b m s d p : Nat) (ha : a < B4) (hb : b < B4) (em : m = a % prime) (es' : s = (a + b) % prime) (ed : d = (a + (prime - b % prime)) % prime) (ep : p = a * b % prime) : Pure Try.prog 3 [byt a, byt b] (.bool true) := by
  refine pure_of (ν := nu (byL a ++ (byL b ++ (numL a ++ (numL b ++ (byL m ++ (numL m ++ (byL s ++ (numL s ++ (byL d ++ (numL d ++ (byL p ++ numL p)))))))))))) (noFacts_hold _) mixed tab_ok (fun r hr => ?_) exact_says (by kernel_rfl) rfl
  simp only [exactT, List.mem_cons, List.not_mem_nil, or_false] at hr
  rcases hr with rfl | rfl | rfl | rfl | rfl | rfl | rfl | rfl | rfl | rfl | rfl | rfl | rfl | rfl | rfl
  · exact rowOf (x := a) (by kernel_rfl) (by kernel_rfl)
  · exact rowOf (x := b) (by kernel_rfl) (by kernel_rfl)
  · exact rowModB ha (by kernel_rfl) (by rw [← em]; kernel_rfl)
  · exact rowModR ha (by kernel_rfl) (by rw [← em]; kernel_rfl)
  · exact rowBytes (x := m) (by kernel_rfl) (by kernel_rfl)
  · exact rowAddB ha hb (by kernel_rfl) (by kernel_rfl) (by rw [← es']; kernel_rfl)
  · exact rowAddP ha hb (by kernel_rfl) (by kernel_rfl) (by rw [← es']; kernel_rfl)
  · exact rowBytes (x := s) (by kernel_rfl) (by kernel_rfl)
  · exact rowSubB ha hb (by kernel_rfl) (by kernel_rfl) (by rw [← ed]; kernel_rfl)
  · exact rowSubP ha hb (by kernel_rfl) (by kernel_rfl) (by rw [← ed]; kernel_rfl)
  · exact rowBytes (x := d) (by kernel_rfl) (by kernel_rfl)
  · exact rowMulB ha hb (by kernel_rfl) (by kernel_rfl) (by rw [← ep]; kernel_rfl)
  · exact rowMulP ha hb (by kernel_rfl) (by kernel_rfl) (by rw [← ep]; kernel_rfl)
  · exact rowBytes (x := p) (by kernel_rfl) (by kernel_rfl)
  · exact rowWakes

theorem fieldExact_law (a b : Nat) (ha : a < B4) (hb : b < B4) : Pure Try.prog 3 [byt a, byt b] (.bool true) := exact_core a b _ _ _ _ ha hb rfl rfl rfl rfl

theorem fieldExact_lifted (os : Os) (started : os.Started) (H : Type) (enc : TypeId × Value → H) :
    ReturnsInHanded {} Try.checked os 3 .any (Rows.fieldExactSpec.pre6 enc Try.prog Try.f3 Rows.fieldExactRow.domain false) (Rows.fieldExactSpec.post enc Try.prog Try.f3 false true false false) := by
  refine returnsInHanded_of_change (C := Try.checked) own started (by kernel_rfl) Try.func3
    (ChangeSpec.witness6 (enc := enc) (C := Try.checked) false ⟨#[], #[byt 0, byt 0], []⟩ 8 (by kernel_rfl) (by kernel_rfl) (by kernel_rfl) (by kernel_rfl)) ?_
  intro W base args ds gs before hval0 hW hcnd _
  have hval : ∀ (j : Nat) t v, Try.f3.params[j]? = some t → args[j]? = some v → Value.okWide Try.prog W .any base t v := hval0
  have hW' := hW
  obtain ⟨p, q, hA0, hV, rfl, hfz, hnd⟩ := hW
  have hA : DataW.TrodAll enc Try.prog W 0 (fun _ => true) true Try.f3.params.toList args.toList ds p := hA0
  rw [Try.params3] at hA hval
  obtain ⟨v0, vs0, d0, ds0, p0, q0, hargs, rfl, rfl, h0, r0⟩ := trodAll_cons hA
  obtain ⟨v1, vs1, d1, ds1, p1, q1, rfl, rfl, rfl, h1, r1⟩ := trodAll_cons r0
  obtain ⟨rfl, rfl, rfl⟩ := trodAll_nil r1
  obtain rfl : args = #[v0, v1] := by cases args; simp_all
  obtain ⟨rfl, rfl⟩ := trodVars_none hV
  obtain ⟨a0, b0, rfl, rfl, s0⟩ := open_num (hval 0 _ v0 rfl rfl) h0
  obtain ⟨a1, b1, rfl, rfl, s1⟩ := open_num (hval 1 _ v1 rfl rfl) h1
  clear hA0 hval0
  simp only [List.append_nil] at hW'
  refine (Pure.calls (fieldExact_law a0 a1 b0 b1) Try.func3 (by kernel_rfl) (by kernel_rfl) W).mono fun e W' ⟨he, hg⟩ => ?_
  subst he
  exact ⟨_, rfl, post_below (pa := []) (pv := []) hW' (fun _ _ _ => trodAll_cons_mk (shut_bool Try.underlying4 _) trodAll_mk0) (fun sp _ => (trodAll_cons_mk (s0 _ _ _ _ _) (trodAll_cons_mk (s1 _ _ _ _ _) trodAll_mk0))) (fun _ _ => rfl) rfl
    hg (ok_one (by kernel_rfl) rfl (okWide_bool_mk Try.underlying4 _))⟩

/-- THE STATEMENT. -/
theorem fieldExact_holds : Rows.FieldExactSaid :=
  OpenClaim.holds_of_wide 3 Try.f3 rfl rfl rfl rfl rfl rfl rfl ⟨rfl, rfl, rfl, rfl, rfl⟩ rfl rfl rfl rfl rfl (by kernel_rfl) Try.func3 (by kernel_rfl)
    (of_decide_eq_true (by kernel_rfl)) (by unfold Func.isWrapper; first | (rw [if_pos (by decide +kernel)]; kernel_rfl) | (rw [if_neg (by decide +kernel)]; exact ⟨rfl, rfl⟩))
    (fun os started H enc _ => fieldExact_lifted os started H enc)
#print axioms fieldExact_holds
end Go.Proofs.Ytdillfhieilgnaa
