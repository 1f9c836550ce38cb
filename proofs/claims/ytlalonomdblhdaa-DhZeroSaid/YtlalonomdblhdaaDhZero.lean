/-
  DhZero: for all its arguments the law returns true. Conditions: none.
-/
import Derived.Test.YtlalonomdblhdaaDg
namespace Go.Proofs.Ytlalonomdblhdaa
open Go.Sh
open Go.ChangeShapes Go.WideShapes Go.ChangeAt Go.RowKit
set_option maxRecDepth 100000

def zT : List Row := [⟨14, [.ag [cK 0, cK 0, cK 0, cK 0]], kB 0⟩, ⟨11, [rw8 0, kB 0], .tp [kB 0, eZero]⟩, ⟨14, [.ag [cK 1, cK 0, cK 0, cK 0]], kB 1⟩, ⟨11, [rw8 0, kB 1], .tp [kB 0, eZero]⟩,
  ⟨14, [.ag [cK 18446744073709551596, cK 18446744073709551615, cK 18446744073709551615, cK 9223372036854775807]], kB 57896044618658097711785492504343953926634992332820282019728792003956564819948⟩, ⟨11, [rw8 0, kB 57896044618658097711785492504343953926634992332820282019728792003956564819948], .tp [kB 0, eZero]⟩,
  ⟨14, [.ag [cK 18446744073709551597, cK 18446744073709551615, cK 18446744073709551615, cK 9223372036854775807]], kB 57896044618658097711785492504343953926634992332820282019728792003956564819949⟩, ⟨11, [rw8 0, kB 57896044618658097711785492504343953926634992332820282019728792003956564819949], .tp [kB 0, eZero]⟩,
  ⟨14, [.ag [cK 18446744073709551598, cK 18446744073709551615, cK 18446744073709551615, cK 9223372036854775807]], kB 57896044618658097711785492504343953926634992332820282019728792003956564819950⟩, ⟨11, [rw8 0, kB 57896044618658097711785492504343953926634992332820282019728792003956564819950], .tp [kB 0, eZero]⟩,
  ⟨12, [], .b true⟩]
theorem z_says : says noFacts tree zT 400 6 6 [rw8 0] (heap0 [] gmax) (.b true) = true := by kernel_rfl
theorem zBytes {ν : Nat → Int} {x a b c d : Nat} (h : num x = n4 a b c d) : Row.Ok ν Try.prog ⟨14, [.ag [cK a, cK b, cK c, cK d]], kB x⟩ := ⟨[num x], byt x, by simp [concT, cK4_conc h], kB_valc _ x, Bytes_ok x⟩
theorem zLad {k x : Nat} {u : F} (hu : em (pmask x) = u) (h : u = 0 ∨ u * u = 1) : (lad (kmask k) (em (pmask x))).val = 0 := by
  rw [hu]
  obtain ⟨h1, h2, _⟩ := kmask_lt k
  rcases h with rfl | h
  · rw [lad_zero]; rfl
  · rw [lad_one h h1 h2]; rfl

theorem dhZero_law (k : Nat) (hk : k < B4) : Pure Try.prog 6 [byt k] (.bool true) := by
  have _ := hk
  refine pure_of (ν := nub [k]) (args := [rw8 0]) (noFacts_hold _) mixed tab_ok (fun q hq => ?_) z_says (by simp [concT, nubR8]) rfl
  simp only [zT, List.mem_cons, List.not_mem_nil, or_false] at hq
  rcases hq with rfl | rfl | rfl | rfl | rfl | rfl | rfl | rfl | rfl | rfl | rfl
  · exact zBytes rfl
  · exact rowShared0 (k := k) (u := 0) (zLad (u := 0) (by decide +kernel) (.inl rfl)) (nubR8 _ 0) (kB_val _ _)
  · exact zBytes rfl
  · exact rowShared0 (k := k) (u := 1) (zLad (u := 1) (by decide +kernel) (.inr (by decide +kernel))) (nubR8 _ 0) (kB_val _ _)
  · exact zBytes rfl
  · exact rowShared0 (k := k) (zLad (u := -1) (by decide +kernel) (.inr (by decide +kernel))) (nubR8 _ 0) (kB_val _ _)
  · exact zBytes rfl
  · exact rowShared0 (k := k) (zLad (u := 0) (by decide +kernel) (.inl rfl)) (nubR8 _ 0) (kB_val _ _)
  · exact zBytes rfl
  · exact rowShared0 (k := k) (zLad (u := 1) (by decide +kernel) (.inr (by decide +kernel))) (nubR8 _ 0) (kB_val _ _)
  · exact rowWakes

theorem dhZero_lifted (os : Os) (started : os.Started) (H : Type) (enc : TypeId × Value → H) :
    ReturnsInHanded {} Try.checked os 6 .any (Rows.dhZeroSpec.pre6 enc Try.prog Try.f6 Rows.dhZeroRow.domain false) (Rows.dhZeroSpec.post enc Try.prog Try.f6 false true false false) := by
  refine returnsInHanded_of_change (C := Try.checked) own started (by kernel_rfl) Try.func6
    (ChangeSpec.witness6 (enc := enc) (C := Try.checked) false ⟨#[], #[byt 0], []⟩ 8 (by kernel_rfl) (by kernel_rfl) (by kernel_rfl) (by kernel_rfl)) ?_
  intro W base args ds gs before hval0 hW hcnd _
  have hval : ∀ (j : Nat) t v, Try.f6.params[j]? = some t → args[j]? = some v → Value.okWide Try.prog W .any base t v := hval0
  have hW' := hW
  obtain ⟨p, q, hA0, hV, rfl, hfz, hnd⟩ := hW
  have hA : DataW.TrodAll enc Try.prog W 0 (fun _ => true) true Try.f6.params.toList args.toList ds p := hA0
  rw [Try.params6] at hA hval
  obtain ⟨v0, vs0, d0, ds0, p0, q0, hargs, rfl, rfl, h0, r0⟩ := trodAll_cons hA
  obtain ⟨rfl, rfl, rfl⟩ := trodAll_nil r0
  obtain rfl : args = #[v0] := by cases args; simp_all
  obtain ⟨rfl, rfl⟩ := trodVars_none hV
  obtain ⟨a0, b0, rfl, rfl, s0⟩ := open_num (hval 0 _ v0 rfl rfl) h0
  clear hA0 hval0
  simp only [List.append_nil] at hW'
  refine (Pure.calls (dhZero_law a0 b0) Try.func6 (by kernel_rfl) (by kernel_rfl) W).mono fun e W' ⟨he, hg⟩ => ?_
  subst he
  exact ⟨_, rfl, post_below (pa := []) (pv := []) hW' (fun _ _ _ => trodAll_cons_mk (shut_bool Try.underlying4 _) trodAll_mk0) (fun sp _ => (trodAll_cons_mk (s0 _ _ _ _ _) trodAll_mk0)) (fun _ _ => rfl) rfl
    hg (ok_one (by kernel_rfl) rfl (okWide_bool_mk Try.underlying4 _))⟩

/-- THE STATEMENT. -/
theorem dhZero_holds : Rows.DhZeroSaid :=
  OpenClaim.holds_of_wide 6 Try.f6 rfl rfl rfl rfl rfl rfl rfl ⟨rfl, rfl, rfl, rfl, rfl⟩ rfl rfl rfl rfl rfl (by kernel_rfl) Try.func6 (by kernel_rfl)
    (of_decide_eq_true (by kernel_rfl)) (by unfold Func.isWrapper; first | (rw [if_pos (by decide +kernel)]; kernel_rfl) | (rw [if_neg (by decide +kernel)]; exact ⟨rfl, rfl⟩))
    (fun os started H enc _ => dhZero_lifted os started H enc)
#print axioms dhZero_holds
end Go.Proofs.Ytlalonomdblhdaa
