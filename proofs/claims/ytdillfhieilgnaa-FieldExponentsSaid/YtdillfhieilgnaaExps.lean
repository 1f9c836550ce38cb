/-
  FieldExponents: for all its arguments the law returns true. Conditions: none.
-/
import Derived.Test.YtdillfhieilgnaaFh
import Derived.Test.YtdillfhieilgnaaFi
namespace Go.Proofs.Ytdillfhieilgnaa
open Go.Sh
open Go.ChangeShapes Go.WideShapes Go.ChangeAt Go.RowKit
set_option maxRecDepth 100000

def fieldExponentsAT : List Row := [⟨29, [.i .u64 (.e .shr .u64 (.s 32) (.c (.ofNat 1)))], bs 34⟩, ⟨25, [bs 0, bs 34], bs 66⟩, ⟨29, [.i .u64 (.e .shr .u64 (.s 33) (.c (.ofNat 1)))], bs 98⟩, ⟨25, [bs 0, bs 98], bs 130⟩, ⟨20, [bs 66, bs 130], bs 162⟩, ⟨29, [.i .u64 (.e .add .u64 (.e .shr .u64 (.s 32) (.c (.ofNat 1))) (.e .shr .u64 (.s 33) (.c (.ofNat 1))))], bs 194⟩, ⟨25, [bs 0, bs 194], bs 162⟩, ⟨29, [.i .u64 (.c (.ofNat 0))], kB 0⟩, ⟨25, [bs 0, kB 0], kB 1⟩, ⟨29, [.i .u64 (.c (.ofNat 1))], kB 1⟩, ⟨25, [bs 0, kB 1], bs 226⟩, ⟨13, [bs 0], bs 226⟩, ⟨25, [bs 0, kB 57896044618658097711785492504343953926634992332820282019728792003956564819949], bs 226⟩, ⟨22, [], .b true⟩]
def fieldExponentsAF : Facts := ⟨[], []⟩
theorem fieldExponentsA_says : says fieldExponentsAF tree fieldExponentsAT 600 7 8 [bs 0, wd 32, wd 33] (heap0 [] gmax) (.b true) = true := by kernel_rfl
theorem fieldExponentsA_core (z0 z1 z2 z3 z4 z5 z6 z7 z8 z9 x12 : Nat) (b0 : z0 < B4) (b1 : z1 < 18446744073709551616) (b2 : z2 < 18446744073709551616) (q0 : z3 = (z1 / 2)) (s0 : z3 < 18446744073709551616) (v0 : ∀ ν : Nat → Int, ν 32 = ((z1 : Nat) : Int) → AI.val ν (.e .shr .u64 (.s 32) (.c (.ofNat 1))) = ((z3 : Nat) : Int)) (q1 : z4 = z0 ^ z3 % prime) (q2 : z5 = (z2 / 2)) (s2 : z5 < 18446744073709551616) (v2 : ∀ ν : Nat → Int, ν 33 = ((z2 : Nat) : Int) → AI.val ν (.e .shr .u64 (.s 33) (.c (.ofNat 1))) = ((z5 : Nat) : Int)) (q3 : z6 = z0 ^ z5 % prime) (q4 : z7 = z4 * z6 % prime) (q5 : z8 = ((z1 / 2) + (z2 / 2))) (s5 : z8 < 18446744073709551616) (v5 : ∀ ν : Nat → Int, ν 32 = ((z1 : Nat) : Int) → ν 33 = ((z2 : Nat) : Int) → AI.val ν (.e .add .u64 (.e .shr .u64 (.s 32) (.c (.ofNat 1))) (.e .shr .u64 (.s 33) (.c (.ofNat 1)))) = ((z8 : Nat) : Int)) (q6 : z7 = z0 ^ z8 % prime) (q7 : 0 = 0) (q8 : 1 = z0 ^ 0 % prime) (q9 : 1 = 1) (q10 : z9 = z0 ^ 1 % prime) (q11 : z9 = z0 % prime) (h12 : x12 = 57896044618658097711785492504343953926634992332820282019728792003956564819949) (q12 : z9 = z0 ^ x12 % prime) :
    Pure Try.prog 8 [byt z0, u64 z1, u64 z2] (.bool true) := by
  have b3 : z3 < B4 := Nat.lt_trans s0 (by decide)
  have b4 : z4 < B4 := by rw [q1]; exact prime_lt _
  have b5 : z5 < B4 := Nat.lt_trans s2 (by decide)
  have b6 : z6 < B4 := by rw [q3]; exact prime_lt _
  have b7 : z7 < B4 := by rw [q4]; exact prime_lt _
  have b8 : z8 < B4 := Nat.lt_trans s5 (by decide)
  have b9 : z9 < B4 := by rw [q10]; exact prime_lt _
  have hF : Facts.Hold fieldExponentsAF (nu (byL z0 ++ ([z1] ++ ([z2] ++ (byL z3 ++ (byL z4 ++ (byL z5 ++ (byL z6 ++ (byL z7 ++ (byL z8 ++ (byL z9))))))))))) := by
    refine ⟨fun p hp => (by cases hp), fun p hp => ?_⟩
    cases hp
  refine pure_of hF mixed tab_ok (fun r hr => ?_) fieldExponentsA_says (by kernel_rfl) rfl
  simp only [fieldExponentsAT, List.mem_cons, List.not_mem_nil, or_false] at hr
  rcases hr with rfl | rfl | rfl | rfl | rfl | rfl | rfl | rfl | rfl | rfl | rfl | rfl | rfl | rfl
  · exact rowSmall (x := z3) s0 (congrArg (fun z => some (Value.int .u64 z)) (v0 _ rfl)) (by kernel_rfl)
  · exact rowPowB (x := z0) (y := z3) b0 b3 (by kernel_rfl) (by kernel_rfl) (by rw [← q1]; kernel_rfl)
  · exact rowSmall (x := z5) s2 (congrArg (fun z => some (Value.int .u64 z)) (v2 _ rfl)) (by kernel_rfl)
  · exact rowPowB (x := z0) (y := z5) b0 b5 (by kernel_rfl) (by kernel_rfl) (by rw [← q3]; kernel_rfl)
  · exact rowMulB (x := z4) (y := z6) b4 b6 (by kernel_rfl) (by kernel_rfl) (by rw [← q4]; kernel_rfl)
  · exact rowSmall (x := z8) s5 (congrArg (fun z => some (Value.int .u64 z)) (v5 _ rfl rfl)) (by kernel_rfl)
  · exact rowPowB (x := z0) (y := z8) b0 b8 (by kernel_rfl) (by kernel_rfl) (by rw [← q6]; kernel_rfl)
  · exact rowSmall (x := 0) (by decide) (by kernel_rfl) (by kernel_rfl)
  · exact rowPowB (x := z0) (y := 0) b0 (by decide) (by kernel_rfl) (by kernel_rfl) (by rw [← q8]; kernel_rfl)
  · exact rowSmall (x := 1) (by decide) (by kernel_rfl) (by kernel_rfl)
  · exact rowPowB (x := z0) (y := 1) b0 (by decide) (by kernel_rfl) (by kernel_rfl) (by rw [← q10]; kernel_rfl)
  · exact rowModB (x := z0) b0 (by kernel_rfl) (by rw [← q11]; kernel_rfl)
  · exact rowPowB (x := z0) (y := x12) b0 (by rw [h12]; decide) (by kernel_rfl) (by rw [h12]; kernel_rfl) (by rw [← q12]; kernel_rfl)
  · exact rowWakes


theorem fieldExponents_law (a n m : Nat) (ha : a < B4) (hn : n < 18446744073709551616) (hm : m < 18446744073709551616) : Pure Try.prog 8 [byt a, u64 n, u64 m] (.bool true) := by
  have e1 : ∀ (ν : Nat → Int) (k x : Nat), ν k = ((x : Nat) : Int) → arith .shr .u64 (ν k) ((1 : Nat) : Int) = ((x / 2 : Nat) : Int) := by
    intro ν k x h
    rw [h, a_shr .u64 x 1 (by decide), Nat.pow_one]
  have l1 : n / 2 < 9223372036854775808 := by omega
  have l2 : m / 2 < 9223372036854775808 := by omega
  refine fieldExponentsA_core a n m (n / 2) _ (m / 2) _ _ (n / 2 + m / 2) (a % prime) prime ha hn hm rfl (by omega) (fun ν h => e1 ν 32 n h) rfl rfl (by omega) (fun ν h => e1 ν 33 m h) rfl rfl rfl (by omega) (fun ν h h' => ?_) ?_ rfl ?_ rfl ?_ rfl rfl ?_
  · show arith .add .u64 (arith .shr .u64 (ν 32) ((1 : Nat) : Int)) (arith .shr .u64 (ν 33) ((1 : Nat) : Int)) = _
    rw [e1 ν 32 n h, e1 ν 33 m h', a_add, Nat.mod_eq_of_lt (by omega)]
  · rw [← Nat.mul_mod, ← Nat.pow_add]
  · rw [Nat.pow_zero]; rfl
  · rw [Nat.pow_one]
  · exact (fermat prime_prime a).symm

theorem fieldExponents_lifted (os : Os) (started : os.Started) (H : Type) (enc : TypeId × Value → H) :
    ReturnsInHanded {} Try.checked os 8 .any (Rows.fieldExponentsSpec.pre6 enc Try.prog Try.f8 Rows.fieldExponentsRow.domain false) (Rows.fieldExponentsSpec.post enc Try.prog Try.f8 false true false false) := by
  refine returnsInHanded_of_change (C := Try.checked) own started (by kernel_rfl) Try.func8
    (ChangeSpec.witness6 (enc := enc) (C := Try.checked) false ⟨#[], #[byt 0, .int .u64 0, .int .u64 0], []⟩ 8 (by kernel_rfl) (by kernel_rfl) (by kernel_rfl) (by kernel_rfl)) ?_
  intro W base args ds gs before hval0 hW hcnd _
  have hval : ∀ (j : Nat) t v, Try.f8.params[j]? = some t → args[j]? = some v → Value.okWide Try.prog W .any base t v := hval0
  have hW' := hW
  obtain ⟨p, q, hA0, hV, rfl, hfz, hnd⟩ := hW
  have hA : DataW.TrodAll enc Try.prog W 0 (fun _ => true) true Try.f8.params.toList args.toList ds p := hA0
  rw [Try.params8] at hA hval
  obtain ⟨v0, vs0, d0, ds0, p0, q0, hargs, rfl, rfl, h0, r0⟩ := trodAll_cons hA
  obtain ⟨v1, vs1, d1, ds1, p1, q1, rfl, rfl, rfl, h1, r1⟩ := trodAll_cons r0
  obtain ⟨v2, vs2, d2, ds2, p2, q2, rfl, rfl, rfl, h2, r2⟩ := trodAll_cons r1
  obtain ⟨rfl, rfl, rfl⟩ := trodAll_nil r2
  obtain rfl : args = #[v0, v1, v2] := by cases args; simp_all
  obtain ⟨rfl, rfl⟩ := trodVars_none hV
  obtain ⟨a0, b0, rfl, rfl, s0⟩ := open_num (hval 0 _ v0 rfl rfl) h0
  obtain ⟨n1, rfl, rfl, rfl, w1⟩ := open_int Try.underlying23 (hval 1 _ v1 rfl rfl) h1
  have s1 := plain_int (H := H) Try.underlying23 w1
  obtain ⟨a1, rfl, b1⟩ := word_of w1
  obtain ⟨n2, rfl, rfl, rfl, w2⟩ := open_int Try.underlying23 (hval 2 _ v2 rfl rfl) h2
  have s2 := plain_int (H := H) Try.underlying23 w2
  obtain ⟨a2, rfl, b2⟩ := word_of w2
  clear hA0 hval0
  simp only [List.append_nil] at hW'
  refine (Pure.calls (fieldExponents_law a0 a1 a2 b0 b1 b2) Try.func8 (by kernel_rfl) (by kernel_rfl) W).mono fun e W' ⟨he, hg⟩ => ?_
  subst he
  exact ⟨_, rfl, post_below (pa := []) (pv := []) hW' (fun _ _ _ => trodAll_cons_mk (shut_bool Try.underlying4 _) trodAll_mk0) (fun sp _ => (trodAll_cons_mk (s0 _ _ _ _ _) (trodAll_cons_mk (s1 _ _ _ _ _) (trodAll_cons_mk (s2 _ _ _ _ _) trodAll_mk0)))) (fun _ _ => rfl) rfl
    hg (ok_one (by kernel_rfl) rfl (okWide_bool_mk Try.underlying4 _))⟩

/-- THE STATEMENT. -/
theorem fieldExponents_holds : Rows.FieldExponentsSaid :=
  OpenClaim.holds_of_wide 8 Try.f8 rfl rfl rfl rfl rfl rfl rfl ⟨rfl, rfl, rfl, rfl, rfl⟩ rfl rfl rfl rfl rfl (by kernel_rfl) Try.func8 (by kernel_rfl)
    (of_decide_eq_true (by kernel_rfl)) (by unfold Func.isWrapper; first | (rw [if_pos (by decide +kernel)]; kernel_rfl) | (rw [if_neg (by decide +kernel)]; exact ⟨rfl, rfl⟩))
    (fun os started H enc _ => fieldExponents_lifted os started H enc)
#print axioms fieldExponents_holds
end Go.Proofs.Ytdillfhieilgnaa
