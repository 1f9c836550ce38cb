/-
  FieldRing: for every a, b and c of thirty-two bytes the law returns true. Conditions: none.
-/
import Derived.Test.YtdillfhieilgnaaFh
namespace Go.Proofs.Ytdillfhieilgnaa
open Go.Sh
open Go.ChangeShapes Go.WideShapes Go.ChangeAt Go.RowKit
set_option maxRecDepth 100000

def ringT : List Row := [⟨16, [bs 0, bs 32], bs 96⟩, ⟨20, [bs 0, bs 32], bs 128⟩, ⟨16, [bs 32, bs 0], bs 96⟩, ⟨20, [bs 32, bs 0], bs 128⟩, ⟨16, [bs 96, bs 64], bs 160⟩, ⟨16, [bs 32, bs 64], bs 192⟩,
  ⟨16, [bs 0, bs 192], bs 160⟩, ⟨20, [bs 128, bs 64], bs 224⟩, ⟨20, [bs 32, bs 64], bs 256⟩, ⟨20, [bs 0, bs 256], bs 224⟩, ⟨20, [bs 96, bs 64], bs 288⟩, ⟨20, [bs 0, bs 64], bs 320⟩,
  ⟨16, [bs 320, bs 256], bs 288⟩, ⟨18, [bs 0, bs 32], bs 352⟩, ⟨16, [bs 352, bs 32], bs 384⟩, ⟨13, [bs 0], bs 384⟩, ⟨20, [bs 0, kB 1], bs 384⟩, ⟨16, [bs 0, kB 0], bs 384⟩, ⟨22, [], .b true⟩]
theorem ring_says : says noFacts tree ringT 300 6 5 [bs 0, bs 32, bs 64] (heap0 [] gmax) (.b true) = true := by kernel_rfl

theorem ring_core (a b c s p t u v w x y d m : Nat) (ha : a < B4) (hb : b < B4) (hc : c < B4) (s1 : s = (a + b) % prime) (s2 : s = (b + a) % prime) (p1 : p = a * b % prime) (p2 : p = b * a % prime) (t1 : t = (s + c) % prime) (u1 : u = (b + c) % prime) (t2 : t = (a + u) % prime)
    (v1 : v = p * c % prime) (w1' : w = b * c % prime) (v2 : v = a * w % prime) (x1 : x = s * c % prime) (y1' : y = a * c % prime) (x2 : x = (y + w) % prime) (d1 : d = (a + (prime - b % prime)) % prime) (m1 : m = (d + b) % prime) (m2 : m = a % prime) (m3 : m = a * 1 % prime) (m4 : m = (a + 0) % prime) :
    Pure Try.prog 5 [byt a, byt b, byt c] (.bool true) := by
  have bd : ∀ z, z % prime < B4 := prime_lt
  have hs : s < B4 := by rw [s1]; exact bd _
  have hp : p < B4 := by rw [p1]; exact bd _
  have hu : u < B4 := by rw [u1]; exact bd _
  have hw : w < B4 := by rw [w1']; exact bd _
  have hy : y < B4 := by rw [y1']; exact bd _
  have hd : d < B4 := by rw [d1]; exact bd _
  refine pure_of (ν := nu (byL a ++ (byL b ++ (byL c ++ (byL s ++ (byL p ++ (byL t ++ (byL u ++ (byL v ++ (byL w ++ (byL x ++ (byL y ++ (byL d ++ byL m))))))))))))) (noFacts_hold _) mixed tab_ok (fun r hr => ?_) ring_says (by kernel_rfl) rfl
  simp only [ringT, List.mem_cons, List.not_mem_nil, or_false] at hr
  rcases hr with rfl | rfl | rfl | rfl | rfl | rfl | rfl | rfl | rfl | rfl | rfl | rfl | rfl | rfl | rfl | rfl | rfl | rfl | rfl
  · exact rowAddB ha hb (by kernel_rfl) (by kernel_rfl) (by rw [← s1]; kernel_rfl)
  · exact rowMulB ha hb (by kernel_rfl) (by kernel_rfl) (by rw [← p1]; kernel_rfl)
  · exact rowAddB hb ha (by kernel_rfl) (by kernel_rfl) (by rw [← s2]; kernel_rfl)
  · exact rowMulB hb ha (by kernel_rfl) (by kernel_rfl) (by rw [← p2]; kernel_rfl)
  · exact rowAddB hs hc (by kernel_rfl) (by kernel_rfl) (by rw [← t1]; kernel_rfl)
  · exact rowAddB hb hc (by kernel_rfl) (by kernel_rfl) (by rw [← u1]; kernel_rfl)
  · exact rowAddB ha hu (by kernel_rfl) (by kernel_rfl) (by rw [← t2]; kernel_rfl)
  · exact rowMulB hp hc (by kernel_rfl) (by kernel_rfl) (by rw [← v1]; kernel_rfl)
  · exact rowMulB hb hc (by kernel_rfl) (by kernel_rfl) (by rw [← w1']; kernel_rfl)
  · exact rowMulB ha hw (by kernel_rfl) (by kernel_rfl) (by rw [← v2]; kernel_rfl)
  · exact rowMulB hs hc (by kernel_rfl) (by kernel_rfl) (by rw [← x1]; kernel_rfl)
  · exact rowMulB ha hc (by kernel_rfl) (by kernel_rfl) (by rw [← y1']; kernel_rfl)
  · exact rowAddB hy hw (by kernel_rfl) (by kernel_rfl) (by rw [← x2]; kernel_rfl)
  · exact rowSubB ha hb (by kernel_rfl) (by kernel_rfl) (by rw [← d1]; kernel_rfl)
  · exact rowAddB hd hb (by kernel_rfl) (by kernel_rfl) (by rw [← m1]; kernel_rfl)
  · exact rowModB ha (by kernel_rfl) (by rw [← m2]; kernel_rfl)
  · exact rowMulB (y := 1) ha (by decide) (by kernel_rfl) (by kernel_rfl) (by rw [← m3]; kernel_rfl)
  · exact rowAddB (y := 0) ha (by decide) (by kernel_rfl) (by kernel_rfl) (by rw [← m4]; kernel_rfl)
  · exact rowWakes

theorem ring_law (a b c : Nat) (ha : a < B4) (hb : b < B4) (hc : c < B4) : Pure Try.prog 5 [byt a, byt b, byt c] (.bool true) := by
  refine ring_core a b c _ _ _ _ _ _ _ _ _ _ ha hb hc rfl (by rw [Nat.add_comm]) rfl (by rw [Nat.mul_comm]) rfl rfl ?_ rfl rfl ?_ rfl rfl ?_ rfl ?_ rfl (by rw [Nat.mul_one]) (by rw [Nat.add_zero])
  · rw [Nat.mod_add_mod, Nat.add_mod_mod, Nat.add_assoc]
  · rw [Nat.mod_mul_mod, Nat.mul_mod_mod, Nat.mul_assoc]
  · rw [Nat.mod_mul_mod, Nat.mod_add_mod, Nat.add_mod_mod, Nat.add_mul]
  · rw [Nat.mod_add_mod]
    have h1 := Nat.mod_lt b prime_pos
    have h2 := Nat.div_add_mod' b prime
    have e : a + (prime - b % prime) + b = a + prime * (b / prime + 1) := by
      rw [Nat.mul_add, Nat.mul_one, Nat.mul_comm prime]
      omega
    rw [e, Nat.add_mul_mod_self_left]

theorem fieldRing_lifted (os : Os) (started : os.Started) (H : Type) (enc : TypeId × Value → H) :
    ReturnsInHanded {} Try.checked os 5 .any (Rows.fieldRingSpec.pre6 enc Try.prog Try.f5 Rows.fieldRingRow.domain false) (Rows.fieldRingSpec.post enc Try.prog Try.f5 false true false false) := by
  refine returnsInHanded_of_change (C := Try.checked) own started (by kernel_rfl) Try.func5
    (ChangeSpec.witness6 (enc := enc) (C := Try.checked) false ⟨#[], #[byt 0, byt 0, byt 0], []⟩ 8 (by kernel_rfl) (by kernel_rfl) (by kernel_rfl) (by kernel_rfl)) ?_
  intro W base args ds gs before hval0 hW hcnd _
  have hval : ∀ (j : Nat) t v, Try.f5.params[j]? = some t → args[j]? = some v → Value.okWide Try.prog W .any base t v := hval0
  have hW' := hW
  obtain ⟨p, q, hA0, hV, rfl, hfz, hnd⟩ := hW
  have hA : DataW.TrodAll enc Try.prog W 0 (fun _ => true) true Try.f5.params.toList args.toList ds p := hA0
  rw [Try.params5] at hA hval
  obtain ⟨v0, vs0, d0, ds0, p0, q0, hargs, rfl, rfl, h0, r0⟩ := trodAll_cons hA
  obtain ⟨v1, vs1, d1, ds1, p1, q1, rfl, rfl, rfl, h1, r1⟩ := trodAll_cons r0
  obtain ⟨v2, vs2, d2, ds2, p2, q2, rfl, rfl, rfl, h2, r2⟩ := trodAll_cons r1
  obtain ⟨rfl, rfl, rfl⟩ := trodAll_nil r2
  obtain rfl : args = #[v0, v1, v2] := by cases args; simp_all
  obtain ⟨rfl, rfl⟩ := trodVars_none hV
  obtain ⟨a0, b0, rfl, rfl, s0⟩ := open_num (hval 0 _ v0 rfl rfl) h0
  obtain ⟨a1, b1, rfl, rfl, s1⟩ := open_num (hval 1 _ v1 rfl rfl) h1
  obtain ⟨a2, b2, rfl, rfl, s2⟩ := open_num (hval 2 _ v2 rfl rfl) h2
  clear hA0 hval0
  simp only [List.append_nil] at hW'
  refine (Pure.calls (ring_law a0 a1 a2 b0 b1 b2) Try.func5 (by kernel_rfl) (by kernel_rfl) W).mono fun e W' ⟨he, hg⟩ => ?_
  subst he
  exact ⟨_, rfl, post_below (pa := []) (pv := []) hW' (fun _ _ _ => trodAll_cons_mk (shut_bool Try.underlying4 _) trodAll_mk0) (fun sp _ => trodAll_cons_mk (s0 _ _ _ _ _) (trodAll_cons_mk (s1 _ _ _ _ _) (trodAll_cons_mk (s2 _ _ _ _ _) trodAll_mk0))) (fun _ _ => rfl) rfl
    hg (ok_one (by kernel_rfl) rfl (okWide_bool_mk Try.underlying4 _))⟩

/-- THE STATEMENT. -/
theorem fieldRing_holds : Rows.FieldRingSaid :=
  OpenClaim.holds_of_wide 5 Try.f5 rfl rfl rfl rfl rfl rfl rfl ⟨rfl, rfl, rfl, rfl, rfl⟩ rfl rfl rfl rfl rfl (by kernel_rfl) Try.func5 (by kernel_rfl)
    (of_decide_eq_true (by kernel_rfl)) (by unfold Func.isWrapper; first | (rw [if_pos (by decide +kernel)]; kernel_rfl) | (rw [if_neg (by decide +kernel)]; exact ⟨rfl, rfl⟩))
    (fun os started H enc _ => fieldRing_lifted os started H enc)
#print axioms fieldRing_holds
end Go.Proofs.Ytdillfhieilgnaa
