/-
 NUMBERS MODULO L: what curve's readScalar, layScalar, minusL answer. Own work.
-/
import Derived.Test.YtheidgcgdkmmiaaDoorJc
namespace Go.Proofs.YtheidgcgdkmmiaaDoor
open Go.Sh
set_option maxRecDepth 100000
/-! readScalar, layScalar -/
theorem rdS_says : says qae tree [] 400 3 41 [bs 0] (qaA [] gmax) (.ag [.i .u64 (ofE 0), .i .u64 (ofE 8), .i .u64 (ofE 16), .i .u64 (ofE 24)]) = true := by kernel_rfl
theorem ReadS_ok (x : Nat) : Pure Tryd.prog 41 [byt x] (num x) := by
 obtain ⟨l0, l1, l2, l3⟩ := w_lt x
 refine qan (ν := nu (byL x)) (qab _) qak qaf (fun r hr => by cases hr) rdS_says rfl ?_
 have e0 : (ofE 0).val (nu (byL x)) = ((Sh.w0 x : Nat) : Int) := ofE_word l0 rfl rfl rfl rfl rfl rfl rfl rfl
 have e1 : (ofE 8).val (nu (byL x)) = ((w1 x : Nat) : Int) := ofE_word l1 rfl rfl rfl rfl rfl rfl rfl rfl
 have e2 : (ofE 16).val (nu (byL x)) = ((w2 x : Nat) : Int) := ofE_word l2 rfl rfl rfl rfl rfl rfl rfl rfl
 have e3 : (ofE 24).val (nu (byL x)) = ((w3 x : Nat) : Int) := ofE_word l3 rfl rfl rfl rfl rfl rfl rfl rfl
 show (qap _ [.i .u64 (ofE 0), .i .u64 (ofE 8), .i .u64 (ofE 16), .i .u64 (ofE 24)]).map (fun vs => Value.agg vs.toArray) = _
 simp only [qap, conc1, e0, e1, e2, e3, Option.map_some]
 rfl
theorem lyS_says : says qae tree [] 400 3 42 [ns 0] (qaA [] gmax) (.ag bytesR) = true := by kernel_rfl
theorem LayS_ok (x : Nat) : Pure Tryd.prog 42 [num x] (byt x) := by
 refine qan (ν := nu (numL x)) (qab _) qak qaf (fun r hr => by cases hr) lyS_says rfl ?_
 have f0 : nu (numL x) 0 = ((Sh.w0 x : Nat) : Int) := rfl
 have f1 : nu (numL x) 1 = ((w1 x : Nat) : Int) := rfl
 have f2 : nu (numL x) 2 = ((w2 x : Nat) : Int) := rfl
 have f3 : nu (numL x) 3 = ((w3 x : Nat) : Int) := rfl
 show (qap _ bytesR).map (fun vs => Value.agg vs.toArray) = _
 simp only [bytesR, qap, qal f0 0 (by decide), qal f0 8 (by decide), qal f0 16 (by decide), qal f0 24 (by decide), qal f0 32 (by decide), qal f0 40 (by decide), qal f0 48 (by decide), qal f0 56 (by decide),
  qal f1 0 (by decide), qal f1 8 (by decide), qal f1 16 (by decide), qal f1 24 (by decide), qal f1 32 (by decide), qal f1 40 (by decide), qal f1 48 (by decide), qal f1 56 (by decide),
  qal f2 0 (by decide), qal f2 8 (by decide), qal f2 16 (by decide), qal f2 24 (by decide), qal f2 32 (by decide), qal f2 40 (by decide), qal f2 48 (by decide), qal f2 56 (by decide),
  qal f3 0 (by decide), qal f3 8 (by decide), qal f3 16 (by decide), qal f3 24 (by decide), qal f3 32 (by decide), qal f3 40 (by decide), qal f3 48 (by decide), qal f3 56 (by decide), Option.map_some, Nat.pow_zero, Nat.div_one]
 rfl
/-! minusL -/
def glO : Gl := [(1, ⟨(numL ordL).map fun n => .i .u64 (.c (.ofNat n)), 38, true⟩)]
theorem glO_ok : GlOk glO := by
 intro p hp
 simp only [glO, List.mem_cons, List.not_mem_nil, or_false] at hp
 subst hp
 exact ⟨by decide, by decide, _, fun ν => known64 ν _⟩
def cW (n : Nat) : AV := .i .u64 (.c (.ofNat n))
def mnT (k : Nat) : List Row := [⟨79, [wd 0, cW 6346243789798364141, c0], .tp [wd 4, wd 5]⟩, ⟨79, [wd 1, cW 1503914060200516822, wd 5], .tp [wd 6, wd 7]⟩, ⟨79, [wd 2, cW 0, wd 7], .tp [wd 8, wd 9]⟩, ⟨79, [wd 3, cW 1152921504606846976, wd 9], .tp [wd 10, cW k]⟩]
def mnR (t : Bool) : AV := .tp [.ag [wd 4, wd 6, wd 8, wd 10], .b t]
theorem mnN_says : saysG qae tree (mnT 0) glO [] 200 4 40 [ns 0] (mnR false) = true := by kernel_rfl
theorem mnY_says : saysG qae tree (mnT 1) glO [] 200 4 40 [ns 0] (mnR true) = true := by kernel_rfl
theorem mn_core (t : Bool) (a b c d s0 k0 s1 k1 s2 k2 s3 k3 : Nat) (hs : saysG qae tree (mnT k3) glO [] 200 4 40 [ns 0] (mnR t) = true) (h0 : s0 = (a + 18446744073709551616 - 6346243789798364141 - 0) % 18446744073709551616) (g0 : k0 = if a < 6346243789798364141 + 0 then 1 else 0) (h1 : s1 = (b + 18446744073709551616 - 1503914060200516822 - k0) % 18446744073709551616) (g1 : k1 = if b < 1503914060200516822 + k0 then 1 else 0)
  (h2 : s2 = (c + 18446744073709551616 - 0 - k1) % 18446744073709551616) (g2 : k2 = if c < 0 + k1 then 1 else 0) (h3 : s3 = (d + 18446744073709551616 - 1152921504606846976 - k2) % 18446744073709551616) (g3 : k3 = if d < 1152921504606846976 + k2 then 1 else 0) (q0 : k0 ≤ 1) (q1 : k1 ≤ 1) (q2 : k2 ≤ 1) :
  qa4 Tryd.prog glO 40 [n4 a b c d] (.tuple #[n4 s0 s1 s2 s3, .bool t]) := by
 refine qaY (ν := nu [a, b, c, d, s0, k0, s1, k1, s2, k2, s3]) (args := [ns 0]) (qab _) qak qaf glO_ok (fun r hr => ?_) (fun r hr => by cases hr) hs rfl rfl
 simp only [mnT, List.mem_cons, List.not_mem_nil, or_false] at hr
 rcases hr with rfl | rfl | rfl | rfl
 ·exact rowS (x := a) (y := 6346243789798364141) (c := 0) (z := s0) (k := k0) rfl rfl rfl rfl rfl (by omega) h0 g0
 ·exact rowS (x := b) (y := 1503914060200516822) (c := k0) (z := s1) (k := k1) rfl rfl rfl rfl rfl q0 h1 g1
 ·exact rowS (x := c) (y := 0) (c := k1) (z := s2) (k := k2) rfl rfl rfl rfl rfl q1 h2 g2
 ·exact rowS (x := d) (y := 1152921504606846976) (c := k2) (z := s3) (k := k3) rfl rfl rfl rfl rfl q2 h3 g3
theorem ordL_split : ordL = 6346243789798364141 + 1503914060200516822 * 18446744073709551616 + 0 * 340282366920938463463374607431768211456 + 1152921504606846976 * 6277101735386680763835789423207666416102355444464034512896 + 0 * B4 := by decide +kernel
theorem mn_ok (x : Nat) (hx : x < B4) : ∃ s k, s < B4 ∧ k ≤ 1 ∧ s + ordL = x + k * B4 ∧ qa4 Tryd.prog glO 40 [num x] (.tuple #[num s, .bool (decide (k = 1))]) := by
 have sx := qbr x
 rw [Nat.div_eq_of_lt hx] at sx
 obtain ⟨l0, l1, l2, l3⟩ := w_lt x
 obtain ⟨a0, a1, a2⟩ := sub_step (Sh.w0 x) 6346243789798364141 0 _ _ l0 (by decide) (by decide) rfl rfl
 obtain ⟨b0, b1, b2⟩ := sub_step (w1 x) 1503914060200516822 _ _ _ l1 (by decide) a1 rfl rfl
 obtain ⟨c0, c1, c2⟩ := sub_step (w2 x) 0 _ _ _ l2 (by decide) b1 rfl rfl
 obtain ⟨d0, d1, d2⟩ := sub_step (w3 x) 1152921504606846976 _ _ _ l3 (by decide) c1 rfl rfl
 have key := sub_lin _ _ _ _ _ _ _ _ _ _ _ _ _ _ _ _ x ordL a0 b0 c0 d0 sx ordL_split
 have h := radd_of a2 b2 c2 d2
 refine ⟨_, _, h.2, d1, key, h.1 ▸ mn_core _ (Sh.w0 x) (w1 x) (w2 x) (w3 x) _ _ _ _ _ _ _ _ ?_ rfl rfl rfl rfl rfl rfl rfl rfl a1 b1 c1⟩
 revert d1
 generalize (if w3 x < _ then 1 else 0) = k
 intro d1
 rcases (by omega : k = 0 ∨ k = 1) with rfl | rfl
 ·exact mnN_says
 ·exact mnY_says
theorem minusL_ge (x : Nat) (hx : x < B4) (hl : ordL ≤ x) : qa4 Tryd.prog glO 40 [num x] (.tuple #[num (x - ordL), .bool false]) := by
 obtain ⟨s, k, h1, h2, h3, h4⟩ := mn_ok x hx
 have hk : k = 0 := by unfold B4 at *; omega
 subst hk
 have hs : s = x - ordL := by omega
 rwa [hs] at h4
theorem minusL_lt (x : Nat) (hl : x < ordL) : qa4 Tryd.prog glO 40 [num x] (.tuple #[num (x + B4 - ordL), .bool true]) := by
 have hL : ordL < B4 := by decide
 obtain ⟨s, k, h1, h2, h3, h4⟩ := mn_ok x (Nat.lt_trans hl hL)
 have hk : k = 1 := by
  by_cases h : k = 1
  ·exact h
  ·exfalso
   have : k = 0 := by omega
   subst this
   omega
 subst hk
 have hs : s = x + B4 - ordL := by omega
 rwa [hs] at h4
end Go.Proofs.YtheidgcgdkmmiaaDoor
