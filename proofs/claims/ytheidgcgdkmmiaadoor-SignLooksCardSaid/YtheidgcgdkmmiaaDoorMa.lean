/-
 THE PAGE's side: Hb. Own work.
-/
import Derived.Test.YtheidgcgdkmmiaaDoorMz
namespace Go.Proofs.YtheidgcgdkmmiaaDoor
open Go.Sh
open Go.ChangeShapes Go.WideShapes Go.ChangeAt Go.RowKit
set_option maxRecDepth 100000
/-! Of and Bytes -/
theorem of_says : says qae tree [] 400 3 53 [bs 0] (qaA [] gmax) (.ag [.i .u64 (ofE 0), .i .u64 (ofE 8), .i .u64 (ofE 16), .i .u64 (ofE 24)]) = true := by kernel_rfl
theorem Of_ok (x : Nat) : Pure Tryd.prog 53 [byt x] (num x) := by
 obtain ⟨l0, l1, l2, l3⟩ := w_lt x
 refine qan (ν := nu (byL x)) (qab _) qak qaf (fun r hr => by cases hr) of_says rfl ?_
 have e0 : (ofE 0).val (nu (byL x)) = ((Sh.w0 x : Nat) : Int) := ofE_word l0 rfl rfl rfl rfl rfl rfl rfl rfl
 have e1 : (ofE 8).val (nu (byL x)) = ((w1 x : Nat) : Int) := ofE_word l1 rfl rfl rfl rfl rfl rfl rfl rfl
 have e2 : (ofE 16).val (nu (byL x)) = ((w2 x : Nat) : Int) := ofE_word l2 rfl rfl rfl rfl rfl rfl rfl rfl
 have e3 : (ofE 24).val (nu (byL x)) = ((w3 x : Nat) : Int) := ofE_word l3 rfl rfl rfl rfl rfl rfl rfl rfl
 show (qap _ [.i .u64 (ofE 0), .i .u64 (ofE 8), .i .u64 (ofE 16), .i .u64 (ofE 24)]).map (fun vs => Value.agg vs.toArray) = _
 simp only [qap, conc1, e0, e1, e2, e3, Option.map_some]
 rfl
theorem bytes_says : says qae tree [] 400 3 19 [ns 0] (qaA [] gmax) (.ag bytesR) = true := by kernel_rfl
theorem Bytes_ok (x : Nat) : Pure Tryd.prog 19 [num x] (byt x) := by
 refine qan (ν := nu (numL x)) (qab _) qak qaf (fun r hr => by cases hr) bytes_says rfl ?_
 have f0 : nu (numL x) 0 = ((Sh.w0 x : Nat) : Int) := rfl
 have f1 : nu (numL x) 1 = ((w1 x : Nat) : Int) := rfl
 have f2 : nu (numL x) 2 = ((w2 x : Nat) : Int) := rfl
 have f3 : nu (numL x) 3 = ((w3 x : Nat) : Int) := rfl
 show (qap _ bytesR).map (fun vs => Value.agg vs.toArray) = _
 simp only [bytesR, qap, qal f0 0 (by decide), qal f0 8 (by decide), qal f0 16 (by decide), qal f0 24 (by decide), qal f0 32 (by decide), qal f0 40 (by decide), qal f0 48 (by decide), qal f0 56 (by decide),
  qal f1 0 (by decide), qal f1 8 (by decide), qal f1 16 (by decide), qal f1 24 (by decide), qal f1 32 (by decide), qal f1 40 (by decide), qal f1 48 (by decide), qal f1 56 (by decide),
  qal f2 0 (by decide), qal f2 8 (by decide), qal f2 16 (by decide), qal f2 24 (by decide), qal f2 32 (by decide), qal f2 40 (by decide), qal f2 48 (by decide), qal f2 56 (by decide),
  qal f3 0 (by decide), qal f3 8 (by decide), qal f3 16 (by decide), qal f3 24 (by decide), qal f3 32 (by decide), qal f3 40 (by decide), qal f3 48 (by decide), qal f3 56 (by decide), Option.map_some, Nat.pow_zero, Nat.div_one]
 rfl
/-! add and sub -/
def raddT : List Row := [⟨60, [wd 0, wd 4, c0], .tp [wd 8, wd 9]⟩, ⟨60, [wd 1, wd 5, wd 9], .tp [wd 10, wd 11]⟩, ⟨60, [wd 2, wd 6, wd 11], .tp [wd 12, wd 13]⟩, ⟨60, [wd 3, wd 7, wd 13], .tp [wd 14, wd 15]⟩]
theorem radd_says : says qae tree raddT 200 3 86 [ns 0, ns 4] (qaA [] gmax) (.tp [.ag [wd 8, wd 10, wd 12, wd 14], wd 15]) = true := by kernel_rfl
theorem radd_core (a b c d a' b' c' d' s0 k0 s1 k1 s2 k2 s3 k3 : Nat) (h0 : s0 = (a + a' + 0) % 18446744073709551616) (g0 : k0 = (a + a' + 0) / 18446744073709551616) (h1 : s1 = (b + b' + k0) % 18446744073709551616) (g1 : k1 = (b + b' + k0) / 18446744073709551616)
  (h2 : s2 = (c + c' + k1) % 18446744073709551616) (g2 : k2 = (c + c' + k1) / 18446744073709551616) (h3 : s3 = (d + d' + k2) % 18446744073709551616) (g3 : k3 = (d + d' + k2) / 18446744073709551616) (q0 : k0 ≤ 1) (q1 : k1 ≤ 1) (q2 : k2 ≤ 1) :
  Pure Tryd.prog 86 [n4 a b c d, n4 a' b' c' d'] (.tuple #[n4 s0 s1 s2 s3, u64 k3]) := by
 refine qan (ν := nu [a, b, c, d, a', b', c', d', s0, k0, s1, k1, s2, k2, s3, k3]) (qab _) qak qaf (fun r hr => ?_) radd_says rfl rfl
 simp only [raddT, List.mem_cons, List.not_mem_nil, or_false] at hr
 rcases hr with rfl | rfl | rfl | rfl
 ·exact rowA (x := a) (y := a') (c := 0) (z := s0) (k := k0) rfl rfl rfl rfl rfl (by omega) h0 g0
 ·exact rowA (x := b) (y := b') (c := k0) (z := s1) (k := k1) rfl rfl rfl rfl rfl q0 h1 g1
 ·exact rowA (x := c) (y := c') (c := k1) (z := s2) (k := k2) rfl rfl rfl rfl rfl q1 h2 g2
 ·exact rowA (x := d) (y := d') (c := k2) (z := s3) (k := k3) rfl rfl rfl rfl rfl q2 h3 g3
theorem add_step (a b c s k : Nat) (ha : a < 18446744073709551616) (hb : b < 18446744073709551616) (hc : c ≤ 1) (hs : s = (a + b + c) % 18446744073709551616) (hk : k = (a + b + c) / 18446744073709551616) : s + 18446744073709551616 * k = a + b + c ∧ k ≤ 1 ∧ s < 18446744073709551616 := by omega
theorem add_lin (a b c d a' b' c' d' s0 s1 s2 s3 k0 k1 k2 k3 x y : Nat) (h0 : s0 + 18446744073709551616 * k0 = a + a' + 0) (h1 : s1 + 18446744073709551616 * k1 = b + b' + k0) (h2 : s2 + 18446744073709551616 * k2 = c + c' + k1) (h3 : s3 + 18446744073709551616 * k3 = d + d' + k2)
  (hx : x = a + b * 18446744073709551616 + c * 340282366920938463463374607431768211456 + d * 6277101735386680763835789423207666416102355444464034512896 + 0 * B4) (hy : y = a' + b' * 18446744073709551616 + c' * 340282366920938463463374607431768211456 + d' * 6277101735386680763835789423207666416102355444464034512896 + 0 * B4) :
  x + y = s0 + s1 * 18446744073709551616 + s2 * 340282366920938463463374607431768211456 + s3 * 6277101735386680763835789423207666416102355444464034512896 + k3 * B4 := by
 unfold B4 at *
 omega
theorem radd_ok (x y : Nat) (hx : x < B4) (hy : y < B4) : Pure Tryd.prog 86 [num x, num y] (.tuple #[num (x + y), u64 ((x + y) / B4)]) := by
 have sx := qbr x
 rw [Nat.div_eq_of_lt hx] at sx
 have sy := qbr y
 rw [Nat.div_eq_of_lt hy] at sy
 obtain ⟨l0, l1, l2, l3⟩ := w_lt x
 obtain ⟨m0, m1, m2, m3⟩ := w_lt y
 obtain ⟨a0, a1, a2⟩ := add_step (Sh.w0 x) (Sh.w0 y) 0 _ _ l0 m0 (by decide) rfl rfl
 obtain ⟨b0, b1, b2⟩ := add_step (w1 x) (w1 y) _ _ _ l1 m1 a1 rfl rfl
 obtain ⟨c0, c1, c2⟩ := add_step (w2 x) (w2 y) _ _ _ l2 m2 b1 rfl rfl
 obtain ⟨d0, d1, d2⟩ := add_step (w3 x) (w3 y) _ _ _ l3 m3 c1 rfl rfl
 have key := add_lin _ _ _ _ _ _ _ _ _ _ _ _ _ _ _ _ x y a0 b0 c0 d0 sx sy
 refine Pure.to (radd_core (Sh.w0 x) (w1 x) (w2 x) (w3 x) (Sh.w0 y) (w1 y) (w2 y) (w3 y) _ _ _ _ _ _ _ _ rfl rfl rfl rfl rfl rfl rfl rfl a1 b1 c1) rfl ?_
 rw [num_of a2 b2 c2 d2 key, (dig4 a2 b2 c2 d2 key).2.2.2.2]
def rsubT : List Row := [⟨79, [wd 0, wd 4, c0], .tp [wd 8, wd 9]⟩, ⟨79, [wd 1, wd 5, wd 9], .tp [wd 10, wd 11]⟩, ⟨79, [wd 2, wd 6, wd 11], .tp [wd 12, wd 13]⟩, ⟨79, [wd 3, wd 7, wd 13], .tp [wd 14, wd 15]⟩]
theorem rsub_says : says qae tree rsubT 200 3 87 [ns 0, ns 4] (qaA [] gmax) (.tp [.ag [wd 8, wd 10, wd 12, wd 14], wd 15]) = true := by kernel_rfl
theorem rsub_core (a b c d a' b' c' d' s0 k0 s1 k1 s2 k2 s3 k3 : Nat) (h0 : s0 = (a + 18446744073709551616 - a' - 0) % 18446744073709551616) (g0 : k0 = if a < a' + 0 then 1 else 0) (h1 : s1 = (b + 18446744073709551616 - b' - k0) % 18446744073709551616) (g1 : k1 = if b < b' + k0 then 1 else 0)
  (h2 : s2 = (c + 18446744073709551616 - c' - k1) % 18446744073709551616) (g2 : k2 = if c < c' + k1 then 1 else 0) (h3 : s3 = (d + 18446744073709551616 - d' - k2) % 18446744073709551616) (g3 : k3 = if d < d' + k2 then 1 else 0) (q0 : k0 ≤ 1) (q1 : k1 ≤ 1) (q2 : k2 ≤ 1) :
  Pure Tryd.prog 87 [n4 a b c d, n4 a' b' c' d'] (.tuple #[n4 s0 s1 s2 s3, u64 k3]) := by
 refine qan (ν := nu [a, b, c, d, a', b', c', d', s0, k0, s1, k1, s2, k2, s3, k3]) (qab _) qak qaf (fun r hr => ?_) rsub_says rfl rfl
 simp only [rsubT, List.mem_cons, List.not_mem_nil, or_false] at hr
 rcases hr with rfl | rfl | rfl | rfl
 ·exact rowS (x := a) (y := a') (c := 0) (z := s0) (k := k0) rfl rfl rfl rfl rfl (by omega) h0 g0
 ·exact rowS (x := b) (y := b') (c := k0) (z := s1) (k := k1) rfl rfl rfl rfl rfl q0 h1 g1
 ·exact rowS (x := c) (y := c') (c := k1) (z := s2) (k := k2) rfl rfl rfl rfl rfl q1 h2 g2
 ·exact rowS (x := d) (y := d') (c := k2) (z := s3) (k := k3) rfl rfl rfl rfl rfl q2 h3 g3
theorem rsub_ok (x y : Nat) (hx : x < B4) (hy : y < B4) : ∃ s k, s < B4 ∧ k ≤ 1 ∧ s + y = x + k * B4 ∧ Pure Tryd.prog 87 [num x, num y] (.tuple #[num s, u64 k]) := by
 have sx := qbr x
 rw [Nat.div_eq_of_lt hx] at sx
 have sy := qbr y
 rw [Nat.div_eq_of_lt hy] at sy
 obtain ⟨l0, l1, l2, l3⟩ := w_lt x
 obtain ⟨m0, m1, m2, m3⟩ := w_lt y
 obtain ⟨a0, a1, a2⟩ := sub_step (Sh.w0 x) (Sh.w0 y) 0 _ _ l0 m0 (by decide) rfl rfl
 obtain ⟨b0, b1, b2⟩ := sub_step (w1 x) (w1 y) _ _ _ l1 m1 a1 rfl rfl
 obtain ⟨c0, c1, c2⟩ := sub_step (w2 x) (w2 y) _ _ _ l2 m2 b1 rfl rfl
 obtain ⟨d0, d1, d2⟩ := sub_step (w3 x) (w3 y) _ _ _ l3 m3 c1 rfl rfl
 have key := sub_lin _ _ _ _ _ _ _ _ _ _ _ _ _ _ _ _ x y a0 b0 c0 d0 sx sy
 have h := radd_of a2 b2 c2 d2
 exact ⟨_, _, h.2, d1, key, h.1 ▸ rsub_core (Sh.w0 x) (w1 x) (w2 x) (w3 x) (Sh.w0 y) (w1 y) (w2 y) (w3 y) _ _ _ _ _ _ _ _ rfl rfl rfl rfl rfl rfl rfl rfl a1 b1 c1⟩
theorem rsub_ge (x y : Nat) (hx : x < B4) (hl : y ≤ x) : Pure Tryd.prog 87 [num x, num y] (.tuple #[num (x - y), u64 0]) := by
 obtain ⟨s, k, h1, h2, h3, h4⟩ := rsub_ok x y hx (Nat.lt_of_le_of_lt hl hx)
 have hk : k = 0 := by unfold B4 at *; omega
 subst hk
 have hs : s = x - y := by omega
 rwa [hs] at h4
theorem rsub_lt (x y : Nat) (hy : y < B4) (hl : x < y) : Pure Tryd.prog 87 [num x, num y] (.tuple #[num (x + B4 - y), u64 1]) := by
 obtain ⟨s, k, h1, h2, h3, h4⟩ := rsub_ok x y (Nat.lt_trans hl hy) hy
 have hk : k = 1 := by unfold B4 at *; omega
 subst hk
 have hs : s = x + B4 - y := by omega
 rwa [hs] at h4
theorem rowSubGe {ν : Nat → Int} {p q r : AV} {x y : Nat} (hx : x < B4) (hl : y ≤ x) (h1 : qag ν p = some (num x)) (h2 : qag ν q = some (num y)) (h3 : qag ν r = some (num (x - y))) : Row.Ok ν Tryd.prog ⟨87, [p, q], .tp [r, cK 0]⟩ :=
 ⟨[num x, num y], .tuple #[num (x - y), u64 0], by simp [qai, h1, h2], by simp [conc, qai, h3]; rfl, rsub_ge x y hx hl⟩
theorem rowSubLt {ν : Nat → Int} {p q r : AV} {x y : Nat} (hy : y < B4) (hl : x < y) (h1 : qag ν p = some (num x)) (h2 : qag ν q = some (num y)) (h3 : qag ν r = some (num (x + B4 - y))) : Row.Ok ν Tryd.prog ⟨87, [p, q], .tp [r, cK 1]⟩ :=
 ⟨[num x, num y], .tuple #[num (x + B4 - y), u64 1], by simp [qai, h1, h2], by simp [conc, qai, h3]; rfl, rsub_lt x y hy hl⟩
theorem rowAddR {ν : Nat → Int} {p q r : AV} {x y : Nat} (hx : x < B4) (hy : y < B4) (hl : x + y < B4) (h1 : qag ν p = some (num x)) (h2 : qag ν q = some (num y)) (h3 : qag ν r = some (num (x + y))) : Row.Ok ν Tryd.prog ⟨86, [p, q], .tp [r, cK 0]⟩ :=
 ⟨[num x, num y], .tuple #[num (x + y), u64 0], by simp [qai, h1, h2], by simp [conc, qai, h3]; rfl, by have h := radd_ok x y hx hy; rwa [Nat.div_eq_of_lt hl] at h⟩
/-! Mod, Add and Sub -/
def prC : AV := .ag [cK 18446744073709551597, cK 18446744073709551615, cK 18446744073709551615, cK 9223372036854775807]
theorem qbm (ν : Nat → Int) : qag ν prC = some (num qaa) := by
 unfold num
 rw [show Sh.w0 qaa = 18446744073709551597 by decide, show w1 qaa = 18446744073709551615 by decide, show w2 qaa = 18446744073709551615 by decide, show w3 qaa = 9223372036854775807 by decide]
 rfl
def rmodT0 : List Row := [⟨87, [ns 0, prC], .tp [ns 4, cK 1]⟩]
def rmodT1 : List Row := [⟨87, [ns 0, prC], .tp [ns 4, cK 0]⟩, ⟨87, [ns 4, prC], .tp [ns 8, cK 1]⟩]
def rmodT2 : List Row := [⟨87, [ns 0, prC], .tp [ns 4, cK 0]⟩, ⟨87, [ns 4, prC], .tp [ns 8, cK 0]⟩, ⟨87, [ns 8, prC], .tp [ns 12, cK 1]⟩]
theorem rmod_says : says qae tree rmodT0 300 5 88 [ns 0] (qaA [] gmax) (ns 0) = true ∧ says qae tree rmodT1 300 5 88 [ns 0] (qaA [] gmax) (ns 4) = true ∧ says qae tree rmodT2 300 5 88 [ns 0] (qaA [] gmax) (ns 8) = true :=
 ⟨by kernel_rfl, by kernel_rfl, by kernel_rfl⟩
theorem rmod_core0 (x d : Nat) (c1 : x < qaa) (hd : d = x + B4 - qaa) : Pure Tryd.prog 88 [num x] (num x) := by
 refine qan (ν := nu (numL x ++ numL d)) (qab _) qak qaf (fun r hr => ?_) rmod_says.1 (by kernel_rfl) (by kernel_rfl)
 simp only [rmodT0, List.mem_cons, List.not_mem_nil, or_false] at hr
 subst hr
 exact rowSubLt (x := x) (y := qaa) (by decide) c1 (by kernel_rfl) (qbm _) (by rw [← hd]; kernel_rfl)
theorem rmod_core1 (x y d : Nat) (hx : x < B4) (c1 : qaa ≤ x) (hy : y = x - qaa) (c2 : y < qaa) (hd : d = y + B4 - qaa) : Pure Tryd.prog 88 [num x] (num y) := by
 refine qan (ν := nu (numL x ++ (numL y ++ numL d))) (qab _) qak qaf (fun r hr => ?_) rmod_says.2.1 (by kernel_rfl) (by kernel_rfl)
 simp only [rmodT1, List.mem_cons, List.not_mem_nil, or_false] at hr
 rcases hr with rfl | rfl
 ·exact rowSubGe (x := x) (y := qaa) hx c1 (by kernel_rfl) (qbm _) (by rw [← hy]; kernel_rfl)
 ·exact rowSubLt (x := y) (y := qaa) (by decide) c2 (by kernel_rfl) (qbm _) (by rw [← hd]; kernel_rfl)
theorem rmod_core2 (x y z d : Nat) (hx : x < B4) (c1 : qaa ≤ x) (hy : y = x - qaa) (c2 : qaa ≤ y) (hz : z = y - qaa) (c3 : z < qaa) (hd : d = z + B4 - qaa) : Pure Tryd.prog 88 [num x] (num z) := by
 refine qan (ν := nu (numL x ++ (numL y ++ (numL z ++ numL d)))) (qab _) qak qaf (fun r hr => ?_) rmod_says.2.2 (by kernel_rfl) (by kernel_rfl)
 simp only [rmodT2, List.mem_cons, List.not_mem_nil, or_false] at hr
 rcases hr with rfl | rfl | rfl
 ·exact rowSubGe (x := x) (y := qaa) hx c1 (by kernel_rfl) (qbm _) (by rw [← hy]; kernel_rfl)
 ·exact rowSubGe (x := y) (y := qaa) (by omega) c2 (by kernel_rfl) (qbm _) (by rw [← hz]; kernel_rfl)
 ·exact rowSubLt (x := z) (y := qaa) (by decide) c3 (by kernel_rfl) (qbm _) (by rw [← hd]; kernel_rfl)
theorem rMod_ok (x : Nat) (hx : x < B4) : Pure Tryd.prog 88 [num x] (num (x % qaa)) := by
 by_cases c1 : x < qaa
 ·rw [Nat.mod_eq_of_lt c1]
  exact rmod_core0 x _ c1 rfl
 ·by_cases c2 : x - qaa < qaa
  ·rw [show x % qaa = x - qaa by rw [Nat.mod_eq_sub_mod (by omega), Nat.mod_eq_of_lt c2]]
   exact rmod_core1 x _ _ hx (by omega) rfl c2 rfl
  ·have c3 : x - qaa - qaa < qaa := by unfold qaa B4 at *; omega
   rw [show x % qaa = x - qaa - qaa by rw [Nat.mod_eq_sub_mod (by omega), Nat.mod_eq_sub_mod (by omega), Nat.mod_eq_of_lt c3]]
   exact rmod_core2 x _ _ _ hx (by omega) rfl (by omega) rfl c3 rfl
theorem rowModR {ν : Nat → Int} {p r : AV} {x : Nat} (hx : x < B4) (h1 : qag ν p = some (num x)) (h3 : conc ν r = some (num (x % qaa))) : Row.Ok ν Tryd.prog ⟨88, [p], r⟩ := ⟨[num x], _, by simp [qai, h1], h3, rMod_ok x hx⟩
def rAddT : List Row := [⟨88, [ns 0], ns 8⟩, ⟨88, [ns 4], ns 12⟩, ⟨86, [ns 8, ns 12], .tp [ns 16, cK 0]⟩, ⟨88, [ns 16], ns 20⟩]
theorem rAdd_says : says qae tree rAddT 300 5 68 [ns 0, ns 4] (qaA [] gmax) (ns 20) = true := by kernel_rfl
theorem rAdd_core (x y x' y' s r : Nat) (hx : x < B4) (hy : y < B4) (e1 : x' = x % qaa) (e2 : y' = y % qaa) (e3 : s = x' + y') (e4 : r = s % qaa) : Pure Tryd.prog 68 [num x, num y] (num r) := by
 have l1 : x' < qaa := by rw [e1]; exact qar x
 have l2 : y' < qaa := by rw [e2]; exact qar y
 have l3 : x' + y' < B4 := by unfold qaa B4 at *; omega
 refine qan (ν := nu (numL x ++ (numL y ++ (numL x' ++ (numL y' ++ (numL s ++ numL r)))))) (qab _) qak qaf (fun q hq => ?_) rAdd_says (by kernel_rfl) (by kernel_rfl)
 simp only [rAddT, List.mem_cons, List.not_mem_nil, or_false] at hq
 rcases hq with rfl | rfl | rfl | rfl
 ·exact rowModR hx (by kernel_rfl) (by rw [← e1]; kernel_rfl)
 ·exact rowModR hy (by kernel_rfl) (by rw [← e2]; kernel_rfl)
 ·exact rowAddR (x := x') (y := y') (by omega) (by omega) l3 (by kernel_rfl) (by kernel_rfl) (by rw [← e3]; kernel_rfl)
 ·exact rowModR (x := s) (by omega) (by kernel_rfl) (by rw [← e4]; kernel_rfl)
theorem rAdd_ok (x y : Nat) (hx : x < B4) (hy : y < B4) : Pure Tryd.prog 68 [num x, num y] (num ((x + y) % qaa)) := rAdd_core x y _ _ _ _ hx hy rfl rfl rfl (Nat.add_mod x y qaa)
def rSubT : List Row := [⟨88, [ns 0], ns 8⟩, ⟨86, [ns 8, prC], .tp [ns 12, cK 0]⟩, ⟨88, [ns 4], ns 16⟩, ⟨87, [ns 12, ns 16], .tp [ns 20, cK 0]⟩, ⟨88, [ns 20], ns 24⟩]
theorem rSub_says : says qae tree rSubT 300 5 66 [ns 0, ns 4] (qaA [] gmax) (ns 24) = true := by kernel_rfl
theorem rSub_core (x y x' s y' t r : Nat) (hx : x < B4) (hy : y < B4) (e1 : x' = x % qaa) (e2 : s = x' + qaa) (e3 : y' = y % qaa) (e4 : t = s - y') (e5 : r = t % qaa) : Pure Tryd.prog 66 [num x, num y] (num r) := by
 have l1 : x' < qaa := by rw [e1]; exact qar x
 have l2 : y' < qaa := by rw [e3]; exact qar y
 have l3 : x' + qaa < B4 := by unfold qaa B4 at *; omega
 have l4 : y' ≤ s := by omega
 refine qan (ν := nu (numL x ++ (numL y ++ (numL x' ++ (numL s ++ (numL y' ++ (numL t ++ numL r))))))) (qab _) qak qaf (fun q hq => ?_) rSub_says (by kernel_rfl) (by kernel_rfl)
 simp only [rSubT, List.mem_cons, List.not_mem_nil, or_false] at hq
 rcases hq with rfl | rfl | rfl | rfl | rfl
 ·exact rowModR hx (by kernel_rfl) (by rw [← e1]; kernel_rfl)
 ·exact rowAddR (x := x') (y := qaa) (by omega) (by decide) l3 (by kernel_rfl) (qbm _) (by rw [← e2]; kernel_rfl)
 ·exact rowModR hy (by kernel_rfl) (by rw [← e3]; kernel_rfl)
 ·exact rowSubGe (x := s) (y := y') (by omega) l4 (by kernel_rfl) (by kernel_rfl) (by rw [← e4]; kernel_rfl)
 ·exact rowModR (x := t) (by omega) (by kernel_rfl) (by rw [← e5]; kernel_rfl)
theorem rSub_ok (x y : Nat) (hx : x < B4) (hy : y < B4) : Pure Tryd.prog 66 [num x, num y] (num ((x + (qaa - y % qaa)) % qaa)) := by
 refine Pure.to (rSub_core x y _ _ _ _ _ hx hy rfl rfl rfl rfl rfl) rfl ?_
 have h1 := qar y
 rw [Nat.add_sub_assoc (Nat.le_of_lt h1), Nat.mod_add_mod]
def timesT : List Row := [⟨80, [wd 0, wd 4], .tp [wd 8, wd 9]⟩, ⟨60, [wd 9, c0, c0], .tp [wd 10, wd 11]⟩, ⟨60, [wd 10, c0, c0], .tp [wd 12, wd 13]⟩, ⟨80, [wd 0, wd 5], .tp [wd 14, wd 15]⟩, ⟨60, [wd 15, c0, c0], .tp [wd 16, wd 17]⟩, ⟨60, [wd 16, kar 8, c0], .tp [wd 18, wd 19]⟩, ⟨80, [wd 0, wd 6], .tp [wd 20, wd 21]⟩, ⟨60, [wd 21, c0, c0], .tp [wd 22, wd 23]⟩, ⟨60, [wd 22, kar 14, c0], .tp [wd 24, wd 25]⟩, ⟨80, [wd 0, wd 7], .tp [wd 26, wd 27]⟩, ⟨60, [wd 27, c0, c0], .tp [wd 28, wd 29]⟩, ⟨60, [wd 28, kar 20, c0], .tp [wd 30, wd 31]⟩, ⟨80, [wd 1, wd 4], .tp [wd 32, wd 33]⟩, ⟨60, [wd 33, wd 18, c0], .tp [wd 34, wd 35]⟩, ⟨60, [wd 34, c0, c0], .tp [wd 36, wd 37]⟩, ⟨80, [wd 1, wd 5], .tp [wd 38, wd 39]⟩, ⟨60, [wd 39, wd 24, c0], .tp [wd 40, wd 41]⟩, ⟨60, [wd 40, kar 32, c0], .tp [wd 42, wd 43]⟩, ⟨80, [wd 1, wd 6], .tp [wd 44, wd 45]⟩, ⟨60, [wd 45, wd 30, c0], .tp [wd 46, wd 47]⟩, ⟨60, [wd 46, kar 38, c0], .tp [wd 48, wd 49]⟩, ⟨80, [wd 1, wd 7], .tp [wd 50, wd 51]⟩, ⟨60, [wd 51, kar 26, c0], .tp [wd 52, wd 53]⟩, ⟨60, [wd 52, kar 44, c0], .tp [wd 54, wd 55]⟩, ⟨80, [wd 2, wd 4], .tp [wd 56, wd 57]⟩, ⟨60, [wd 57, wd 42, c0], .tp [wd 58, wd 59]⟩, ⟨60, [wd 58, c0, c0], .tp [wd 60, wd 61]⟩, ⟨80, [wd 2, wd 5], .tp [wd 62, wd 63]⟩, ⟨60, [wd 63, wd 48, c0], .tp [wd 64, wd 65]⟩, ⟨60, [wd 64, kar 56, c0], .tp [wd 66, wd 67]⟩, ⟨80, [wd 2, wd 6], .tp [wd 68, wd 69]⟩, ⟨60, [wd 69, wd 54, c0], .tp [wd 70, wd 71]⟩, ⟨60, [wd 70, kar 62, c0], .tp [wd 72, wd 73]⟩, ⟨80, [wd 2, wd 7], .tp [wd 74, wd 75]⟩, ⟨60, [wd 75, kar 50, c0], .tp [wd 76, wd 77]⟩, ⟨60, [wd 76, kar 68, c0], .tp [wd 78, wd 79]⟩, ⟨80, [wd 3, wd 4], .tp [wd 80, wd 81]⟩, ⟨60, [wd 81, wd 66, c0], .tp [wd 82, wd 83]⟩, ⟨60, [wd 82, c0, c0], .tp [wd 84, wd 85]⟩, ⟨80, [wd 3, wd 5], .tp [wd 86, wd 87]⟩, ⟨60, [wd 87, wd 72, c0], .tp [wd 88, wd 89]⟩, ⟨60, [wd 88, kar 80, c0], .tp [wd 90, wd 91]⟩, ⟨80, [wd 3, wd 6], .tp [wd 92, wd 93]⟩, ⟨60, [wd 93, wd 78, c0], .tp [wd 94, wd 95]⟩, ⟨60, [wd 94, kar 86, c0], .tp [wd 96, wd 97]⟩, ⟨80, [wd 3, wd 7], .tp [wd 98, wd 99]⟩, ⟨60, [wd 99, kar 74, c0], .tp [wd 100, wd 101]⟩, ⟨60, [wd 100, kar 92, c0], .tp [wd 102, wd 103]⟩]
theorem rtimes_says : says qae tree timesT 900 3 59 [ns 0, ns 4] (qaA [] gmax) (.ag [wd 12, wd 36, wd 60, wd 84, wd 90, wd 96, wd 102, kar 98]) = true := by kernel_rfl
theorem rtimes_core (a0 a1 a2 a3 b0 b1 b2 b3 h00 l00 s00 c00 t00 d00 C00 h01 l01 s01 c01 t01 d01 C01 h02 l02 s02 c02 t02 d02 C02 h03 l03 s03 c03 t03 d03 C03 h10 l10 s10 c10 t10 d10 C10 h11 l11 s11 c11 t11 d11 C11 h12 l12 s12 c12 t12 d12 C12 h13 l13 s13 c13 t13 d13 C13 h20 l20 s20 c20 t20 d20 C20 h21 l21 s21 c21 t21 d21 C21 h22 l22 s22 c22 t22 d22 C22 h23 l23 s23 c23 t23 d23 C23 h30 l30 s30 c30 t30 d30 C30 h31 l31 s31 c31 t31 d31 C31 h32 l32 s32 c32 t32 d32 C32 h33 l33 s33 c33 t33 d33 C33 : Nat)
  (S00 : Step a0 b0 0 0 h00 l00 s00 c00 t00 d00 C00) (S01 : Step a0 b1 0 C00 h01 l01 s01 c01 t01 d01 C01) (S02 : Step a0 b2 0 C01 h02 l02 s02 c02 t02 d02 C02) (S03 : Step a0 b3 0 C02 h03 l03 s03 c03 t03 d03 C03) (S10 : Step a1 b0 t01 0 h10 l10 s10 c10 t10 d10 C10) (S11 : Step a1 b1 t02 C10 h11 l11 s11 c11 t11 d11 C11) (S12 : Step a1 b2 t03 C11 h12 l12 s12 c12 t12 d12 C12) (S13 : Step a1 b3 C03 C12 h13 l13 s13 c13 t13 d13 C13) (S20 : Step a2 b0 t11 0 h20 l20 s20 c20 t20 d20 C20) (S21 : Step a2 b1 t12 C20 h21 l21 s21 c21 t21 d21 C21) (S22 : Step a2 b2 t13 C21 h22 l22 s22 c22 t22 d22 C22) (S23 : Step a2 b3 C13 C22 h23 l23 s23 c23 t23 d23 C23) (S30 : Step a3 b0 t21 0 h30 l30 s30 c30 t30 d30 C30) (S31 : Step a3 b1 t22 C30 h31 l31 s31 c31 t31 d31 C31) (S32 : Step a3 b2 t23 C31 h32 l32 s32 c32 t32 d32 C32) (S33 : Step a3 b3 C23 C32 h33 l33 s33 c33 t33 d33 C33) :
  Pure Tryd.prog 59 [n4 a0 a1 a2 a3, n4 b0 b1 b2 b3] (.agg #[u64 t00, u64 t10, u64 t20, u64 t30, u64 t31, u64 t32, u64 t33, u64 C33]) := by
 refine Pure.to (u := .agg #[u64 t00, u64 t10, u64 t20, u64 t30, u64 t31, u64 t32, u64 t33, .int .u64 ((AI.e .add .u64 (.e .add .u64 (.s 98) (.s 101)) (.s 103)).val (nu [a0, a1, a2, a3, b0, b1, b2, b3, h00, l00, s00, c00, t00, d00, h01, l01, s01, c01, t01, d01, h02, l02, s02, c02, t02, d02, h03, l03, s03, c03, t03, d03, h10, l10, s10, c10, t10, d10, h11, l11, s11, c11, t11, d11, h12, l12, s12, c12, t12, d12, h13, l13, s13, c13, t13, d13, h20, l20, s20, c20, t20, d20, h21, l21, s21, c21, t21, d21, h22, l22, s22, c22, t22, d22, h23, l23, s23, c23, t23, d23, h30, l30, s30, c30, t30, d30, h31, l31, s31, c31, t31, d31, h32, l32, s32, c32, t32, d32, h33, l33, s33, c33, t33, d33]))]) (qan (ν := nu [a0, a1, a2, a3, b0, b1, b2, b3, h00, l00, s00, c00, t00, d00, h01, l01, s01, c01, t01, d01, h02, l02, s02, c02, t02, d02, h03, l03, s03, c03, t03, d03, h10, l10, s10, c10, t10, d10, h11, l11, s11, c11, t11, d11, h12, l12, s12, c12, t12, d12, h13, l13, s13, c13, t13, d13, h20, l20, s20, c20, t20, d20, h21, l21, s21, c21, t21, d21, h22, l22, s22, c22, t22, d22, h23, l23, s23, c23, t23, d23, h30, l30, s30, c30, t30, d30, h31, l31, s31, c31, t31, d31, h32, l32, s32, c32, t32, d32, h33, l33, s33, c33, t33, d33]) (qab _) qak qaf (fun r hr => ?_) rtimes_says (by kernel_rfl) (by kernel_rfl)) rfl ?_
 rotate_left
 ·have e : (AI.e .add .u64 (.e .add .u64 (.s 98) (.s 101)) (.s 103)).val (nu [a0, a1, a2, a3, b0, b1, b2, b3, h00, l00, s00, c00, t00, d00, h01, l01, s01, c01, t01, d01, h02, l02, s02, c02, t02, d02, h03, l03, s03, c03, t03, d03, h10, l10, s10, c10, t10, d10, h11, l11, s11, c11, t11, d11, h12, l12, s12, c12, t12, d12, h13, l13, s13, c13, t13, d13, h20, l20, s20, c20, t20, d20, h21, l21, s21, c21, t21, d21, h22, l22, s22, c22, t22, d22, h23, l23, s23, c23, t23, d23, h30, l30, s30, c30, t30, d30, h31, l31, s31, c31, t31, d31, h32, l32, s32, c32, t32, d32, h33, l33, s33, c33, t33, d33]) = (C33 : Int) := kar_val (n := 98) (h := h33) (c := c33) (d := d33) (by kernel_rfl) (by kernel_rfl) (by kernel_rfl) S33.eC S33.lC
  rw [e]
  rfl
 simp only [timesT, List.mem_cons, List.not_mem_nil, or_false] at hr
 rcases hr with rfl | rfl | rfl | rfl | rfl | rfl | rfl | rfl | rfl | rfl | rfl | rfl | rfl | rfl | rfl | rfl | rfl | rfl | rfl | rfl | rfl | rfl | rfl | rfl | rfl | rfl | rfl | rfl | rfl | rfl | rfl | rfl | rfl | rfl | rfl | rfl | rfl | rfl | rfl | rfl | rfl | rfl | rfl | rfl | rfl | rfl | rfl | rfl
 ·exact rowM (x := a0) (y := b0) (z := h00) (k := l00) (by kernel_rfl) (by kernel_rfl) (by kernel_rfl) (by kernel_rfl) S00.ha S00.hb S00.eh S00.el
 ·exact rowA (x := l00) (y := 0) (c := 0) (z := s00) (k := c00) (by kernel_rfl) (by kernel_rfl) (by kernel_rfl) (by kernel_rfl) (by kernel_rfl) (by decide) S00.es S00.ec
 ·exact rowA (x := s00) (y := 0) (c := 0) (z := t00) (k := d00) (by kernel_rfl) (by kernel_rfl) (by kernel_rfl) (by kernel_rfl) (by kernel_rfl) (by decide) S00.et S00.ed
 ·exact rowM (x := a0) (y := b1) (z := h01) (k := l01) (by kernel_rfl) (by kernel_rfl) (by kernel_rfl) (by kernel_rfl) S01.ha S01.hb S01.eh S01.el
 ·exact rowA (x := l01) (y := 0) (c := 0) (z := s01) (k := c01) (by kernel_rfl) (by kernel_rfl) (by kernel_rfl) (by kernel_rfl) (by kernel_rfl) (by decide) S01.es S01.ec
 ·exact rowA (x := s01) (y := C00) (c := 0) (z := t01) (k := d01) (by kernel_rfl) (qaz (h := h00) (c := c00) (d := d00) (by kernel_rfl) (by kernel_rfl) (by kernel_rfl) S00.eC S00.lC) (by kernel_rfl) (by kernel_rfl) (by kernel_rfl) (by decide) S01.et S01.ed
 ·exact rowM (x := a0) (y := b2) (z := h02) (k := l02) (by kernel_rfl) (by kernel_rfl) (by kernel_rfl) (by kernel_rfl) S02.ha S02.hb S02.eh S02.el
 ·exact rowA (x := l02) (y := 0) (c := 0) (z := s02) (k := c02) (by kernel_rfl) (by kernel_rfl) (by kernel_rfl) (by kernel_rfl) (by kernel_rfl) (by decide) S02.es S02.ec
 ·exact rowA (x := s02) (y := C01) (c := 0) (z := t02) (k := d02) (by kernel_rfl) (qaz (h := h01) (c := c01) (d := d01) (by kernel_rfl) (by kernel_rfl) (by kernel_rfl) S01.eC S01.lC) (by kernel_rfl) (by kernel_rfl) (by kernel_rfl) (by decide) S02.et S02.ed
 ·exact rowM (x := a0) (y := b3) (z := h03) (k := l03) (by kernel_rfl) (by kernel_rfl) (by kernel_rfl) (by kernel_rfl) S03.ha S03.hb S03.eh S03.el
 ·exact rowA (x := l03) (y := 0) (c := 0) (z := s03) (k := c03) (by kernel_rfl) (by kernel_rfl) (by kernel_rfl) (by kernel_rfl) (by kernel_rfl) (by decide) S03.es S03.ec
 ·exact rowA (x := s03) (y := C02) (c := 0) (z := t03) (k := d03) (by kernel_rfl) (qaz (h := h02) (c := c02) (d := d02) (by kernel_rfl) (by kernel_rfl) (by kernel_rfl) S02.eC S02.lC) (by kernel_rfl) (by kernel_rfl) (by kernel_rfl) (by decide) S03.et S03.ed
 ·exact rowM (x := a1) (y := b0) (z := h10) (k := l10) (by kernel_rfl) (by kernel_rfl) (by kernel_rfl) (by kernel_rfl) S10.ha S10.hb S10.eh S10.el
 ·exact rowA (x := l10) (y := t01) (c := 0) (z := s10) (k := c10) (by kernel_rfl) (by kernel_rfl) (by kernel_rfl) (by kernel_rfl) (by kernel_rfl) (by decide) S10.es S10.ec
 ·exact rowA (x := s10) (y := 0) (c := 0) (z := t10) (k := d10) (by kernel_rfl) (by kernel_rfl) (by kernel_rfl) (by kernel_rfl) (by kernel_rfl) (by decide) S10.et S10.ed
 ·exact rowM (x := a1) (y := b1) (z := h11) (k := l11) (by kernel_rfl) (by kernel_rfl) (by kernel_rfl) (by kernel_rfl) S11.ha S11.hb S11.eh S11.el
 ·exact rowA (x := l11) (y := t02) (c := 0) (z := s11) (k := c11) (by kernel_rfl) (by kernel_rfl) (by kernel_rfl) (by kernel_rfl) (by kernel_rfl) (by decide) S11.es S11.ec
 ·exact rowA (x := s11) (y := C10) (c := 0) (z := t11) (k := d11) (by kernel_rfl) (qaz (h := h10) (c := c10) (d := d10) (by kernel_rfl) (by kernel_rfl) (by kernel_rfl) S10.eC S10.lC) (by kernel_rfl) (by kernel_rfl) (by kernel_rfl) (by decide) S11.et S11.ed
 ·exact rowM (x := a1) (y := b2) (z := h12) (k := l12) (by kernel_rfl) (by kernel_rfl) (by kernel_rfl) (by kernel_rfl) S12.ha S12.hb S12.eh S12.el
 ·exact rowA (x := l12) (y := t03) (c := 0) (z := s12) (k := c12) (by kernel_rfl) (by kernel_rfl) (by kernel_rfl) (by kernel_rfl) (by kernel_rfl) (by decide) S12.es S12.ec
 ·exact rowA (x := s12) (y := C11) (c := 0) (z := t12) (k := d12) (by kernel_rfl) (qaz (h := h11) (c := c11) (d := d11) (by kernel_rfl) (by kernel_rfl) (by kernel_rfl) S11.eC S11.lC) (by kernel_rfl) (by kernel_rfl) (by kernel_rfl) (by decide) S12.et S12.ed
 ·exact rowM (x := a1) (y := b3) (z := h13) (k := l13) (by kernel_rfl) (by kernel_rfl) (by kernel_rfl) (by kernel_rfl) S13.ha S13.hb S13.eh S13.el
 ·exact rowA (x := l13) (y := C03) (c := 0) (z := s13) (k := c13) (by kernel_rfl) (qaz (h := h03) (c := c03) (d := d03) (by kernel_rfl) (by kernel_rfl) (by kernel_rfl) S03.eC S03.lC) (by kernel_rfl) (by kernel_rfl) (by kernel_rfl) (by decide) S13.es S13.ec
 ·exact rowA (x := s13) (y := C12) (c := 0) (z := t13) (k := d13) (by kernel_rfl) (qaz (h := h12) (c := c12) (d := d12) (by kernel_rfl) (by kernel_rfl) (by kernel_rfl) S12.eC S12.lC) (by kernel_rfl) (by kernel_rfl) (by kernel_rfl) (by decide) S13.et S13.ed
 ·exact rowM (x := a2) (y := b0) (z := h20) (k := l20) (by kernel_rfl) (by kernel_rfl) (by kernel_rfl) (by kernel_rfl) S20.ha S20.hb S20.eh S20.el
 ·exact rowA (x := l20) (y := t11) (c := 0) (z := s20) (k := c20) (by kernel_rfl) (by kernel_rfl) (by kernel_rfl) (by kernel_rfl) (by kernel_rfl) (by decide) S20.es S20.ec
 ·exact rowA (x := s20) (y := 0) (c := 0) (z := t20) (k := d20) (by kernel_rfl) (by kernel_rfl) (by kernel_rfl) (by kernel_rfl) (by kernel_rfl) (by decide) S20.et S20.ed
 ·exact rowM (x := a2) (y := b1) (z := h21) (k := l21) (by kernel_rfl) (by kernel_rfl) (by kernel_rfl) (by kernel_rfl) S21.ha S21.hb S21.eh S21.el
 ·exact rowA (x := l21) (y := t12) (c := 0) (z := s21) (k := c21) (by kernel_rfl) (by kernel_rfl) (by kernel_rfl) (by kernel_rfl) (by kernel_rfl) (by decide) S21.es S21.ec
 ·exact rowA (x := s21) (y := C20) (c := 0) (z := t21) (k := d21) (by kernel_rfl) (qaz (h := h20) (c := c20) (d := d20) (by kernel_rfl) (by kernel_rfl) (by kernel_rfl) S20.eC S20.lC) (by kernel_rfl) (by kernel_rfl) (by kernel_rfl) (by decide) S21.et S21.ed
 ·exact rowM (x := a2) (y := b2) (z := h22) (k := l22) (by kernel_rfl) (by kernel_rfl) (by kernel_rfl) (by kernel_rfl) S22.ha S22.hb S22.eh S22.el
 ·exact rowA (x := l22) (y := t13) (c := 0) (z := s22) (k := c22) (by kernel_rfl) (by kernel_rfl) (by kernel_rfl) (by kernel_rfl) (by kernel_rfl) (by decide) S22.es S22.ec
 ·exact rowA (x := s22) (y := C21) (c := 0) (z := t22) (k := d22) (by kernel_rfl) (qaz (h := h21) (c := c21) (d := d21) (by kernel_rfl) (by kernel_rfl) (by kernel_rfl) S21.eC S21.lC) (by kernel_rfl) (by kernel_rfl) (by kernel_rfl) (by decide) S22.et S22.ed
 ·exact rowM (x := a2) (y := b3) (z := h23) (k := l23) (by kernel_rfl) (by kernel_rfl) (by kernel_rfl) (by kernel_rfl) S23.ha S23.hb S23.eh S23.el
 ·exact rowA (x := l23) (y := C13) (c := 0) (z := s23) (k := c23) (by kernel_rfl) (qaz (h := h13) (c := c13) (d := d13) (by kernel_rfl) (by kernel_rfl) (by kernel_rfl) S13.eC S13.lC) (by kernel_rfl) (by kernel_rfl) (by kernel_rfl) (by decide) S23.es S23.ec
 ·exact rowA (x := s23) (y := C22) (c := 0) (z := t23) (k := d23) (by kernel_rfl) (qaz (h := h22) (c := c22) (d := d22) (by kernel_rfl) (by kernel_rfl) (by kernel_rfl) S22.eC S22.lC) (by kernel_rfl) (by kernel_rfl) (by kernel_rfl) (by decide) S23.et S23.ed
 ·exact rowM (x := a3) (y := b0) (z := h30) (k := l30) (by kernel_rfl) (by kernel_rfl) (by kernel_rfl) (by kernel_rfl) S30.ha S30.hb S30.eh S30.el
 ·exact rowA (x := l30) (y := t21) (c := 0) (z := s30) (k := c30) (by kernel_rfl) (by kernel_rfl) (by kernel_rfl) (by kernel_rfl) (by kernel_rfl) (by decide) S30.es S30.ec
 ·exact rowA (x := s30) (y := 0) (c := 0) (z := t30) (k := d30) (by kernel_rfl) (by kernel_rfl) (by kernel_rfl) (by kernel_rfl) (by kernel_rfl) (by decide) S30.et S30.ed
 ·exact rowM (x := a3) (y := b1) (z := h31) (k := l31) (by kernel_rfl) (by kernel_rfl) (by kernel_rfl) (by kernel_rfl) S31.ha S31.hb S31.eh S31.el
 ·exact rowA (x := l31) (y := t22) (c := 0) (z := s31) (k := c31) (by kernel_rfl) (by kernel_rfl) (by kernel_rfl) (by kernel_rfl) (by kernel_rfl) (by decide) S31.es S31.ec
 ·exact rowA (x := s31) (y := C30) (c := 0) (z := t31) (k := d31) (by kernel_rfl) (qaz (h := h30) (c := c30) (d := d30) (by kernel_rfl) (by kernel_rfl) (by kernel_rfl) S30.eC S30.lC) (by kernel_rfl) (by kernel_rfl) (by kernel_rfl) (by decide) S31.et S31.ed
 ·exact rowM (x := a3) (y := b2) (z := h32) (k := l32) (by kernel_rfl) (by kernel_rfl) (by kernel_rfl) (by kernel_rfl) S32.ha S32.hb S32.eh S32.el
 ·exact rowA (x := l32) (y := t23) (c := 0) (z := s32) (k := c32) (by kernel_rfl) (by kernel_rfl) (by kernel_rfl) (by kernel_rfl) (by kernel_rfl) (by decide) S32.es S32.ec
 ·exact rowA (x := s32) (y := C31) (c := 0) (z := t32) (k := d32) (by kernel_rfl) (qaz (h := h31) (c := c31) (d := d31) (by kernel_rfl) (by kernel_rfl) (by kernel_rfl) S31.eC S31.lC) (by kernel_rfl) (by kernel_rfl) (by kernel_rfl) (by decide) S32.et S32.ed
 ·exact rowM (x := a3) (y := b3) (z := h33) (k := l33) (by kernel_rfl) (by kernel_rfl) (by kernel_rfl) (by kernel_rfl) S33.ha S33.hb S33.eh S33.el
 ·exact rowA (x := l33) (y := C23) (c := 0) (z := s33) (k := c33) (by kernel_rfl) (qaz (h := h23) (c := c23) (d := d23) (by kernel_rfl) (by kernel_rfl) (by kernel_rfl) S23.eC S23.lC) (by kernel_rfl) (by kernel_rfl) (by kernel_rfl) (by decide) S33.es S33.ec
 ·exact rowA (x := s33) (y := C32) (c := 0) (z := t33) (k := d33) (by kernel_rfl) (qaz (h := h32) (c := c32) (d := d32) (by kernel_rfl) (by kernel_rfl) (by kernel_rfl) S32.eC S32.lC) (by kernel_rfl) (by kernel_rfl) (by kernel_rfl) (by decide) S33.et S33.ed
theorem row_lin (P0 P1 P2 P3 o0 o1 o2 o3 t0 t1 t2 t3 C0 C1 C2 C3 : Nat) (h0 : t0 + 18446744073709551616 * C0 = P0 + o0 + 0) (h1 : t1 + 18446744073709551616 * C1 = P1 + o1 + C0) (h2 : t2 + 18446744073709551616 * C2 = P2 + o2 + C1) (h3 : t3 + 18446744073709551616 * C3 = P3 + o3 + C2) :
  P0 + P1 * 18446744073709551616 + P2 * 340282366920938463463374607431768211456 + P3 * 6277101735386680763835789423207666416102355444464034512896 + (o0 + o1 * 18446744073709551616 + o2 * 340282366920938463463374607431768211456 + o3 * 6277101735386680763835789423207666416102355444464034512896) = t0 + t1 * 18446744073709551616 + t2 * 340282366920938463463374607431768211456 + t3 * 6277101735386680763835789423207666416102355444464034512896 + C3 * B4 := by
 unfold B4
 omega
theorem all_lin (Y0 Y1 Y2 Y3 t00 t01 t02 t03 C03 t10 t11 t12 t13 C13 t20 t21 t22 t23 C23 t30 t31 t32 t33 C33 : Nat) (h0 : Y0 + (0 + 0 * 18446744073709551616 + 0 * 340282366920938463463374607431768211456 + 0 * 6277101735386680763835789423207666416102355444464034512896) = t00 + t01 * 18446744073709551616 + t02 * 340282366920938463463374607431768211456 + t03 * 6277101735386680763835789423207666416102355444464034512896 + C03 * B4) (h1 : Y1 + (t01 + t02 * 18446744073709551616 + t03 * 340282366920938463463374607431768211456 + C03 * 6277101735386680763835789423207666416102355444464034512896) = t10 + t11 * 18446744073709551616 + t12 * 340282366920938463463374607431768211456 + t13 * 6277101735386680763835789423207666416102355444464034512896 + C13 * B4)
  (h2 : Y2 + (t11 + t12 * 18446744073709551616 + t13 * 340282366920938463463374607431768211456 + C13 * 6277101735386680763835789423207666416102355444464034512896) = t20 + t21 * 18446744073709551616 + t22 * 340282366920938463463374607431768211456 + t23 * 6277101735386680763835789423207666416102355444464034512896 + C23 * B4) (h3 : Y3 + (t21 + t22 * 18446744073709551616 + t23 * 340282366920938463463374607431768211456 + C23 * 6277101735386680763835789423207666416102355444464034512896) = t30 + t31 * 18446744073709551616 + t32 * 340282366920938463463374607431768211456 + t33 * 6277101735386680763835789423207666416102355444464034512896 + C33 * B4) :
  Y0 + Y1 * 18446744073709551616 + Y2 * 340282366920938463463374607431768211456 + Y3 * 6277101735386680763835789423207666416102355444464034512896 = t00 + t10 * 18446744073709551616 + t20 * 340282366920938463463374607431768211456 + t30 * 6277101735386680763835789423207666416102355444464034512896 + (t31 + t32 * 18446744073709551616 + t33 * 340282366920938463463374607431768211456 + C33 * 6277101735386680763835789423207666416102355444464034512896) * B4 := by
 unfold B4 at *
 omega
theorem times_ok (x y : Nat) (hx : x < B4) (hy : y < B4) : Pure Tryd.prog 59 [num x, num y] (num8 (x * y)) := by
 obtain ⟨l0, l1, l2, l3⟩ := w_lt x
 obtain ⟨m0, m1, m2, m3⟩ := w_lt y
 have z0 : 0 < 18446744073709551616 := by decide
 obtain ⟨h00, l00, s00, c00, t00, d00, C00, S00⟩ := qaC (Sh.w0 x) (Sh.w0 y) 0 0 l0 m0 z0 z0
 obtain ⟨h01, l01, s01, c01, t01, d01, C01, S01⟩ := qaC (Sh.w0 x) (w1 y) 0 C00 l0 m1 z0 S00.lC
 obtain ⟨h02, l02, s02, c02, t02, d02, C02, S02⟩ := qaC (Sh.w0 x) (w2 y) 0 C01 l0 m2 z0 S01.lC
 obtain ⟨h03, l03, s03, c03, t03, d03, C03, S03⟩ := qaC (Sh.w0 x) (w3 y) 0 C02 l0 m3 z0 S02.lC
 obtain ⟨h10, l10, s10, c10, t10, d10, C10, S10⟩ := qaC (w1 x) (Sh.w0 y) t01 0 l1 m0 S01.lt z0
 obtain ⟨h11, l11, s11, c11, t11, d11, C11, S11⟩ := qaC (w1 x) (w1 y) t02 C10 l1 m1 S02.lt S10.lC
 obtain ⟨h12, l12, s12, c12, t12, d12, C12, S12⟩ := qaC (w1 x) (w2 y) t03 C11 l1 m2 S03.lt S11.lC
 obtain ⟨h13, l13, s13, c13, t13, d13, C13, S13⟩ := qaC (w1 x) (w3 y) C03 C12 l1 m3 S03.lC S12.lC
 obtain ⟨h20, l20, s20, c20, t20, d20, C20, S20⟩ := qaC (w2 x) (Sh.w0 y) t11 0 l2 m0 S11.lt z0
 obtain ⟨h21, l21, s21, c21, t21, d21, C21, S21⟩ := qaC (w2 x) (w1 y) t12 C20 l2 m1 S12.lt S20.lC
 obtain ⟨h22, l22, s22, c22, t22, d22, C22, S22⟩ := qaC (w2 x) (w2 y) t13 C21 l2 m2 S13.lt S21.lC
 obtain ⟨h23, l23, s23, c23, t23, d23, C23, S23⟩ := qaC (w2 x) (w3 y) C13 C22 l2 m3 S13.lC S22.lC
 obtain ⟨h30, l30, s30, c30, t30, d30, C30, S30⟩ := qaC (w3 x) (Sh.w0 y) t21 0 l3 m0 S21.lt z0
 obtain ⟨h31, l31, s31, c31, t31, d31, C31, S31⟩ := qaC (w3 x) (w1 y) t22 C30 l3 m1 S22.lt S30.lC
 obtain ⟨h32, l32, s32, c32, t32, d32, C32, S32⟩ := qaC (w3 x) (w2 y) t23 C31 l3 m2 S23.lt S31.lC
 obtain ⟨h33, l33, s33, c33, t33, d33, C33, S33⟩ := qaC (w3 x) (w3 y) C23 C32 l3 m3 S23.lC S32.lC
 have hc := rtimes_core (Sh.w0 x) (w1 x) (w2 x) (w3 x) (Sh.w0 y) (w1 y) (w2 y) (w3 y) _ _ _ _ _ _ _ _ _ _ _ _ _ _ _ _ _ _ _ _ _ _ _ _ _ _ _ _ _ _ _ _ _ _ _ _ _ _ _ _ _ _ _ _ _ _ _ _ _ _ _ _ _ _ _ _ _ _ _ _ _ _ _ _ _ _ _ _ _ _ _ _ _ _ _ _ _ _ _ _ _ _ _ _ _ _ _ _ _ _ _ _ _ _ _ _ _ _ _ _ _ _ _ _ _ _ _ _ _ _ _ _ S00 S01 S02 S03 S10 S11 S12 S13 S20 S21 S22 S23 S30 S31 S32 S33
 have r0 := row_lin (Sh.w0 x * Sh.w0 y) (Sh.w0 x * w1 y) (Sh.w0 x * w2 y) (Sh.w0 x * w3 y) 0 0 0 0 t00 t01 t02 t03 C00 C01 C02 C03 S00.all S01.all S02.all S03.all
 have r1 := row_lin (w1 x * Sh.w0 y) (w1 x * w1 y) (w1 x * w2 y) (w1 x * w3 y) t01 t02 t03 C03 t10 t11 t12 t13 C10 C11 C12 C13 S10.all S11.all S12.all S13.all
 have r2 := row_lin (w2 x * Sh.w0 y) (w2 x * w1 y) (w2 x * w2 y) (w2 x * w3 y) t11 t12 t13 C13 t20 t21 t22 t23 C20 C21 C22 C23 S20.all S21.all S22.all S23.all
 have r3 := row_lin (w3 x * Sh.w0 y) (w3 x * w1 y) (w3 x * w2 y) (w3 x * w3 y) t21 t22 t23 C23 t30 t31 t32 t33 C30 C31 C32 C33 S30.all S31.all S32.all S33.all
 have y0 := qa0 y (Sh.w0 x) hy
 rw [Nat.mul_comm y, Nat.mul_comm (Sh.w0 y), Nat.mul_comm (w1 y), Nat.mul_comm (w2 y), Nat.mul_comm (w3 y)] at y0
 rw [← y0] at r0
 have y1 := qa0 y (w1 x) hy
 rw [Nat.mul_comm y, Nat.mul_comm (Sh.w0 y), Nat.mul_comm (w1 y), Nat.mul_comm (w2 y), Nat.mul_comm (w3 y)] at y1
 rw [← y1] at r1
 have y2 := qa0 y (w2 x) hy
 rw [Nat.mul_comm y, Nat.mul_comm (Sh.w0 y), Nat.mul_comm (w1 y), Nat.mul_comm (w2 y), Nat.mul_comm (w3 y)] at y2
 rw [← y2] at r2
 have y3 := qa0 y (w3 x) hy
 rw [Nat.mul_comm y, Nat.mul_comm (Sh.w0 y), Nat.mul_comm (w1 y), Nat.mul_comm (w2 y), Nat.mul_comm (w3 y)] at y3
 rw [← y3] at r3
 have key := all_lin (Sh.w0 x * y) (w1 x * y) (w2 x * y) (w3 x * y) t00 t01 t02 t03 C03 t10 t11 t12 t13 C13 t20 t21 t22 t23 C23 t30 t31 t32 t33 C33 r0 r1 r2 r3
 rw [← qa0 x y hx] at key
 obtain ⟨f0, f1, f2, f3, f4⟩ := dig4 S00.lt S10.lt S20.lt S30.lt key
 obtain ⟨g0, g1, g2, g3, _⟩ := dig4 (e := 0) S31.lt S32.lt S33.lt S33.lC (by rw [Nat.zero_mul, Nat.add_zero])
 refine Pure.to hc rfl ?_
 unfold num8
 rw [f0, f1, f2, f3, f4, g0, g1, g2, g3]
def n8 (L H : Nat) : Value := .agg #[u64 (Sh.w0 L), u64 (w1 L), u64 (w2 L), u64 (w3 L), u64 (Sh.w0 H), u64 (w1 H), u64 (w2 H), u64 (w3 H)]
def es (k : Nat) : AV := .ag [wd k, wd (k + 1), wd (k + 2), wd (k + 3), wd (k + 4), wd (k + 5), wd (k + 6), wd (k + 7)]
def c38 : AV := .ag [cK 38, c0, c0, c0]
def sumE (i j : Nat) : AI := .e .add .u64 (.s i) (.s j)
def sumV (i j : Nat) : AV := .ag [.i .u64 (sumE i j), c0, c0, c0]
theorem rowTimes {ν : Nat → Int} {p q r : AV} {x y T H : Nat} (hx : x < B4) (hy : y < B4) (hT : T = x * y) (hH : H = T / B4) (h1 : qag ν p = some (num x)) (h2 : qag ν q = some (num y)) (h3 : conc ν r = some (n8 T H)) : Row.Ok ν Tryd.prog ⟨59, [p, q], r⟩ := by
 refine ⟨[num x, num y], n8 T H, by simp [qai, h1, h2], h3, ?_⟩
 rw [hH, hT]
 exact times_ok x y hx hy
theorem rowAddC {ν : Nat → Int} {p q r s : AV} {x y V c : Nat} (hx : x < B4) (hy : y < B4) (hV : V = x + y) (hc : c = V / B4) (h1 : qag ν p = some (num x)) (h2 : qag ν q = some (num y)) (h3 : qag ν r = some (num V)) (h4 : qag ν s = some (u64 c)) : Row.Ok ν Tryd.prog ⟨86, [p, q], .tp [r, s]⟩ := by
 refine ⟨[num x, num y], .tuple #[num V, u64 c], by simp [qai, h1, h2], by simp [conc, qai, h3, h4], ?_⟩
 rw [hc, hV]
 exact radd_ok x y hx hy
theorem sum_val {ν : Nat → Int} {i j a b C : Nat} (h1 : ν i = ((Sh.w0 a : Nat) : Int)) (h2 : ν j = (b : Int)) (ha : a < 1000) (hC : C = a + b) (hl : C < 1000) : (sumE i j).val ν = (C : Int) := by
 show qaj .add .u64 (ν i) (ν j) = _
 have : Sh.w0 a = a := Nat.mod_eq_of_lt (by omega)
 rw [h1, h2, this, a_add, hC, Nat.mod_eq_of_lt (by omega)]
theorem small_num (C : Nat) (hl : C < 1000) : num C = n4 C 0 0 0 := by
 have g0 : Sh.w0 C = C := Nat.mod_eq_of_lt (by omega)
 have g1 : w1 C = 0 := by unfold w1; omega
 have g2 : w2 C = 0 := by unfold w2; omega
 have g3 : w3 C = 0 := by unfold w3; omega
 unfold num
 rw [g0, g1, g2, g3]
theorem sumV_conc {ν : Nat → Int} {i j C : Nat} (h : (sumE i j).val ν = (C : Int)) (hl : C < 1000) : qag ν (sumV i j) = some (num C) := by
 rw [small_num C hl]
 show (qap ν [.i .u64 (sumE i j), c0, c0, c0]).map (fun vs => Value.agg vs.toArray) = _
 simp only [qap, conc1, h, c0, Option.map_some]
 rfl
theorem c38_conc (ν : Nat → Int) : qag ν c38 = some (num 38) := by
 rw [small_num 38 (by decide)]
 rfl
def neS (i j : Nat) (b : Bool) : BinOp × AI × AI × Bool := (.neq, sumE i j, .c (.ofNat 0), b)
theorem neS_holds {ν : Nat → Int} {i j C : Nat} {b : Bool} (h : (sumE i j).val ν = (C : Int)) (hb : decide (C ≠ 0) = b) : qaE (neS i j b).1 ((neS i j b).2.1.val ν) ((neS i j b).2.2.1.val ν) = (neS i j b).2.2.2 := by
 show ((sumE i j).val ν != ((0 : Nat) : Int)) = b
 rw [h, ← hb]
 by_cases hc : C = 0 <;> simp [hc]
def rmT0 : List Row := [⟨59, [ns 0, ns 4], es 8⟩, ⟨59, [ns 12, c38], es 16⟩, ⟨86, [ns 8, ns 16], .tp [ns 24, wd 28]⟩]
def rmT1 : List Row := rmT0 ++ [⟨88, [ns 24], ns 29⟩]
def rmT2' : List Row := rmT0 ++ [⟨59, [sumV 20 28, c38], es 29⟩, ⟨86, [ns 24, ns 29], .tp [ns 37, wd 41]⟩]
def rmT2 : List Row := rmT2' ++ [⟨88, [ns 37], ns 42⟩]
def rmT3 : List Row := rmT2' ++ [⟨59, [sumV 33 41, c38], es 42⟩, ⟨86, [ns 37, ns 42], .tp [ns 50, wd 54]⟩, ⟨88, [ns 50], ns 55⟩]
def rmF1 : Facts := ⟨[], [neS 20 28 false], []⟩
def rmF2 : Facts := ⟨[], [neS 20 28 true, neS 33 41 false], []⟩
def rmF3 : Facts := ⟨[], [neS 20 28 true, neS 33 41 true, neS 46 54 false], []⟩
theorem rm_says1 : says rmF1 tree rmT1 600 5 64 [ns 0, ns 4] (qaA [] gmax) (ns 29) = true := by kernel_rfl
theorem rm_says2 : says rmF2 tree rmT2 600 5 64 [ns 0, ns 4] (qaA [] gmax) (ns 42) = true := by kernel_rfl
theorem rm_says3 : says rmF3 tree rmT3 600 5 64 [ns 0, ns 4] (qaA [] gmax) (ns 55) = true := by kernel_rfl
theorem mB (x : Nat) : x % B4 < B4 := Nat.mod_lt _ (by decide)
theorem rm_core1 (x y T H0 X0 K0 V1 c1 H1 r : Nat) (hx : x < B4) (hy : y < B4) (hT : T = x * y) (hH0 : H0 = T / B4) (bH0 : H0 < B4) (hX0 : X0 = H0 * 38) (hK0 : K0 = X0 / B4) (hV1 : V1 = T % B4 + X0 % B4) (hc1 : c1 = V1 / B4) (hH1 : H1 = K0 + c1) (bK0 : K0 < 1000) (bH1 : H1 < 1000)
  (z1 : H1 = 0) (bV1 : V1 < B4) (hr : r = V1 % qaa) : Pure Tryd.prog 64 [num x, num y] (num r) := by
 have v1 : (sumE 20 28).val (nu (numL x ++ (numL y ++ (numL T ++ (numL H0 ++ (numL X0 ++ (numL K0 ++ (numL V1 ++ ([c1] ++ numL r))))))))) = (H1 : Int) := sum_val (a := K0) (b := c1) (by kernel_rfl) (by kernel_rfl) bK0 hH1 bH1
 have hF : Facts.Hold rmF1 (nu (numL x ++ (numL y ++ (numL T ++ (numL H0 ++ (numL X0 ++ (numL K0 ++ (numL V1 ++ ([c1] ++ numL r))))))))) := by
  refine ⟨fun p hp => (by cases hp), fun p hp => ?_, fun p hp => by cases hp⟩
  simp only [rmF1, List.mem_cons, List.not_mem_nil, or_false] at hp
  subst hp
  exact neS_holds v1 (by rw [z1]; rfl)
 refine qan hF qak qaf (fun q hq => ?_) rm_says1 (by kernel_rfl) (by kernel_rfl)
 simp only [rmT1, rmT0, List.cons_append, List.nil_append, List.mem_cons, List.not_mem_nil, or_false] at hq
 rcases hq with rfl | rfl | rfl | rfl
 ·exact rowTimes hx hy hT hH0 (by kernel_rfl) (by kernel_rfl) (by kernel_rfl)
 ·exact rowTimes (x := H0) (y := 38) bH0 (by decide) hX0 hK0 (by kernel_rfl) (c38_conc _) (by kernel_rfl)
 ·exact rowAddC (x := T % B4) (y := X0 % B4) (mB _) (mB _) hV1 hc1 (by rw [qbE]; kernel_rfl) (by rw [qbE]; kernel_rfl) (by kernel_rfl) (by kernel_rfl)
 ·exact rowModR (x := V1) bV1 (by kernel_rfl) (by rw [← hr]; kernel_rfl)
theorem rm_core2 (x y T H0 X0 K0 V1 c1 H1 X1 K1 V2 c2 H2 r : Nat) (hx : x < B4) (hy : y < B4) (hT : T = x * y) (hH0 : H0 = T / B4) (bH0 : H0 < B4) (hX0 : X0 = H0 * 38) (hK0 : K0 = X0 / B4) (hV1 : V1 = T % B4 + X0 % B4) (hc1 : c1 = V1 / B4) (hH1 : H1 = K0 + c1) (bK0 : K0 < 1000) (bH1 : H1 < 1000)
  (z1 : H1 ≠ 0) (hX1 : X1 = H1 * 38) (hK1 : K1 = X1 / B4) (hV2 : V2 = V1 % B4 + X1 % B4) (hc2 : c2 = V2 / B4) (hH2 : H2 = K1 + c2) (bK1 : K1 < 1000) (bH2 : H2 < 1000) (z2 : H2 = 0) (bV2 : V2 < B4) (hr : r = V2 % qaa) : Pure Tryd.prog 64 [num x, num y] (num r) := by
 have bB : H1 < B4 := Nat.lt_trans bH1 (by decide)
 have v1 : (sumE 20 28).val (nu (numL x ++ (numL y ++ (numL T ++ (numL H0 ++ (numL X0 ++ (numL K0 ++ (numL V1 ++ ([c1] ++ (numL X1 ++ (numL K1 ++ (numL V2 ++ ([c2] ++ numL r))))))))))))) = (H1 : Int) := sum_val (a := K0) (b := c1) (by kernel_rfl) (by kernel_rfl) bK0 hH1 bH1
 have v2 : (sumE 33 41).val (nu (numL x ++ (numL y ++ (numL T ++ (numL H0 ++ (numL X0 ++ (numL K0 ++ (numL V1 ++ ([c1] ++ (numL X1 ++ (numL K1 ++ (numL V2 ++ ([c2] ++ numL r))))))))))))) = (H2 : Int) := sum_val (a := K1) (b := c2) (by kernel_rfl) (by kernel_rfl) bK1 hH2 bH2
 have hF : Facts.Hold rmF2 (nu (numL x ++ (numL y ++ (numL T ++ (numL H0 ++ (numL X0 ++ (numL K0 ++ (numL V1 ++ ([c1] ++ (numL X1 ++ (numL K1 ++ (numL V2 ++ ([c2] ++ numL r))))))))))))) := by
  refine ⟨fun p hp => (by cases hp), fun p hp => ?_, fun p hp => by cases hp⟩
  simp only [rmF2, List.mem_cons, List.not_mem_nil, or_false] at hp
  rcases hp with rfl | rfl
  ·exact neS_holds v1 (decide_eq_true z1)
  ·exact neS_holds v2 (by rw [z2]; rfl)
 refine qan hF qak qaf (fun q hq => ?_) rm_says2 (by kernel_rfl) (by kernel_rfl)
 simp only [rmT2, rmT2', rmT0, List.cons_append, List.nil_append, List.mem_cons, List.not_mem_nil, or_false] at hq
 rcases hq with rfl | rfl | rfl | rfl | rfl | rfl
 ·exact rowTimes hx hy hT hH0 (by kernel_rfl) (by kernel_rfl) (by kernel_rfl)
 ·exact rowTimes (x := H0) (y := 38) bH0 (by decide) hX0 hK0 (by kernel_rfl) (c38_conc _) (by kernel_rfl)
 ·exact rowAddC (x := T % B4) (y := X0 % B4) (mB _) (mB _) hV1 hc1 (by rw [qbE]; kernel_rfl) (by rw [qbE]; kernel_rfl) (by kernel_rfl) (by kernel_rfl)
 ·exact rowTimes (x := H1) (y := 38) bB (by decide) hX1 hK1 (sumV_conc v1 bH1) (c38_conc _) (by kernel_rfl)
 ·exact rowAddC (x := V1 % B4) (y := X1 % B4) (mB _) (mB _) hV2 hc2 (by rw [qbE]; kernel_rfl) (by rw [qbE]; kernel_rfl) (by kernel_rfl) (by kernel_rfl)
 ·exact rowModR (x := V2) bV2 (by kernel_rfl) (by rw [← hr]; kernel_rfl)
theorem rm_core3 (x y T H0 X0 K0 V1 c1 H1 X1 K1 V2 c2 H2 X2 K2 V3 c3 H3 r : Nat) (hx : x < B4) (hy : y < B4) (hT : T = x * y) (hH0 : H0 = T / B4) (bH0 : H0 < B4) (hX0 : X0 = H0 * 38) (hK0 : K0 = X0 / B4) (hV1 : V1 = T % B4 + X0 % B4) (hc1 : c1 = V1 / B4) (hH1 : H1 = K0 + c1) (bK0 : K0 < 1000) (bH1 : H1 < 1000)
  (z1 : H1 ≠ 0) (hX1 : X1 = H1 * 38) (hK1 : K1 = X1 / B4) (hV2 : V2 = V1 % B4 + X1 % B4) (hc2 : c2 = V2 / B4) (hH2 : H2 = K1 + c2) (bK1 : K1 < 1000) (bH2 : H2 < 1000) (z2 : H2 ≠ 0)
  (hX2 : X2 = H2 * 38) (hK2 : K2 = X2 / B4) (hV3 : V3 = V2 % B4 + X2 % B4) (hc3 : c3 = V3 / B4) (hH3 : H3 = K2 + c3) (bK2 : K2 < 1000) (bH3 : H3 < 1000) (z3 : H3 = 0) (bV3 : V3 < B4) (hr : r = V3 % qaa) : Pure Tryd.prog 64 [num x, num y] (num r) := by
 have bB : H1 < B4 := Nat.lt_trans bH1 (by decide)
 have bB2 : H2 < B4 := Nat.lt_trans bH2 (by decide)
 have v1 : (sumE 20 28).val (nu (numL x ++ (numL y ++ (numL T ++ (numL H0 ++ (numL X0 ++ (numL K0 ++ (numL V1 ++ ([c1] ++ (numL X1 ++ (numL K1 ++ (numL V2 ++ ([c2] ++ (numL X2 ++ (numL K2 ++ (numL V3 ++ ([c3] ++ numL r))))))))))))))))) = (H1 : Int) := sum_val (a := K0) (b := c1) (by kernel_rfl) (by kernel_rfl) bK0 hH1 bH1
 have v2 : (sumE 33 41).val (nu (numL x ++ (numL y ++ (numL T ++ (numL H0 ++ (numL X0 ++ (numL K0 ++ (numL V1 ++ ([c1] ++ (numL X1 ++ (numL K1 ++ (numL V2 ++ ([c2] ++ (numL X2 ++ (numL K2 ++ (numL V3 ++ ([c3] ++ numL r))))))))))))))))) = (H2 : Int) := sum_val (a := K1) (b := c2) (by kernel_rfl) (by kernel_rfl) bK1 hH2 bH2
 have v3 : (sumE 46 54).val (nu (numL x ++ (numL y ++ (numL T ++ (numL H0 ++ (numL X0 ++ (numL K0 ++ (numL V1 ++ ([c1] ++ (numL X1 ++ (numL K1 ++ (numL V2 ++ ([c2] ++ (numL X2 ++ (numL K2 ++ (numL V3 ++ ([c3] ++ numL r))))))))))))))))) = (H3 : Int) := sum_val (a := K2) (b := c3) (by kernel_rfl) (by kernel_rfl) bK2 hH3 bH3
 have hF : Facts.Hold rmF3 (nu (numL x ++ (numL y ++ (numL T ++ (numL H0 ++ (numL X0 ++ (numL K0 ++ (numL V1 ++ ([c1] ++ (numL X1 ++ (numL K1 ++ (numL V2 ++ ([c2] ++ (numL X2 ++ (numL K2 ++ (numL V3 ++ ([c3] ++ numL r))))))))))))))))) := by
  refine ⟨fun p hp => (by cases hp), fun p hp => ?_, fun p hp => by cases hp⟩
  simp only [rmF3, List.mem_cons, List.not_mem_nil, or_false] at hp
  rcases hp with rfl | rfl | rfl
  ·exact neS_holds v1 (decide_eq_true z1)
  ·exact neS_holds v2 (decide_eq_true z2)
  ·exact neS_holds v3 (by rw [z3]; rfl)
 refine qan hF qak qaf (fun q hq => ?_) rm_says3 (by kernel_rfl) (by kernel_rfl)
 simp only [rmT3, rmT2', rmT0, List.cons_append, List.nil_append, List.mem_cons, List.not_mem_nil, or_false] at hq
 rcases hq with rfl | rfl | rfl | rfl | rfl | rfl | rfl | rfl
 ·exact rowTimes hx hy hT hH0 (by kernel_rfl) (by kernel_rfl) (by kernel_rfl)
 ·exact rowTimes (x := H0) (y := 38) bH0 (by decide) hX0 hK0 (by kernel_rfl) (c38_conc _) (by kernel_rfl)
 ·exact rowAddC (x := T % B4) (y := X0 % B4) (mB _) (mB _) hV1 hc1 (by rw [qbE]; kernel_rfl) (by rw [qbE]; kernel_rfl) (by kernel_rfl) (by kernel_rfl)
 ·exact rowTimes (x := H1) (y := 38) bB (by decide) hX1 hK1 (sumV_conc v1 bH1) (c38_conc _) (by kernel_rfl)
 ·exact rowAddC (x := V1 % B4) (y := X1 % B4) (mB _) (mB _) hV2 hc2 (by rw [qbE]; kernel_rfl) (by rw [qbE]; kernel_rfl) (by kernel_rfl) (by kernel_rfl)
 ·exact rowTimes (x := H2) (y := 38) bB2 (by decide) hX2 hK2 (sumV_conc v2 bH2) (c38_conc _) (by kernel_rfl)
 ·exact rowAddC (x := V2 % B4) (y := X2 % B4) (mB _) (mB _) hV3 hc3 (by rw [qbE]; kernel_rfl) (by rw [qbE]; kernel_rfl) (by kernel_rfl) (by kernel_rfl)
 ·exact rowModR (x := V3) bV3 (by kernel_rfl) (by rw [← hr]; kernel_rfl)
theorem fold38 (L H : Nat) : (L + H * B4) % qaa = (L + H * 38) % qaa := by
 have e : L + H * B4 = L + H * 38 + qaa * (2 * H) := by unfold B4 qaa; omega
 rw [e, Nat.add_mul_mod_self_left]
theorem rm_bound1 (H0 T X0 K0 V1 c1 H1 : Nat) (bH0 : H0 < B4) (hX0 : X0 = H0 * 38) (hK0 : K0 = X0 / B4) (hV1 : V1 = T % B4 + X0 % B4) (hc1 : c1 = V1 / B4) (hH1 : H1 = K0 + c1) : K0 < 1000 ∧ H1 < 1000 ∧ H1 ≤ 38 ∧ T % B4 + H0 * 38 = V1 % B4 + H1 * B4 := by
 have h1 := mB T
 generalize T % B4 = t at *
 unfold B4 at *
 omega
theorem rm_bound2 (V1 H1 X1 K1 V2 c2 H2 : Nat) (b : H1 ≤ 38) (hX1 : X1 = H1 * 38) (hK1 : K1 = X1 / B4) (hV2 : V2 = V1 % B4 + X1 % B4) (hc2 : c2 = V2 / B4) (hH2 : H2 = K1 + c2) : K1 < 1000 ∧ H2 < 1000 ∧ H2 ≤ 1 ∧ (H2 ≠ 0 → V2 % B4 ≤ 1444) ∧ V2 = V1 % B4 + H1 * 38 ∧ V2 = V2 % B4 + H2 * B4 := by
 have h1 := mB V1
 generalize V1 % B4 = t at *
 unfold B4 at *
 omega
theorem rm_bound3 (V2 H2 X2 K2 V3 c3 H3 : Nat) (b : H2 ≤ 1) (bv : V2 % B4 ≤ 1444) (hX2 : X2 = H2 * 38) (hK2 : K2 = X2 / B4) (hV3 : V3 = V2 % B4 + X2 % B4) (hc3 : c3 = V3 / B4) (hH3 : H3 = K2 + c3) : K2 < 1000 ∧ H3 < 1000 ∧ H3 = 0 ∧ V3 < B4 ∧ V3 = V2 % B4 + H2 * 38 := by
 generalize V2 % B4 = t at *
 unfold B4 at *
 omega
theorem rMul_ok (x y : Nat) (hx : x < B4) (hy : y < B4) : Pure Tryd.prog 64 [num x, num y] (num (x * y % qaa)) := by
 obtain ⟨T, hT⟩ : ∃ T, T = x * y := ⟨_, rfl⟩
 obtain ⟨H0, hH0⟩ : ∃ H, H = T / B4 := ⟨_, rfl⟩
 have bH0 : H0 < B4 := by
  rw [hH0, hT]
  exact Nat.div_lt_of_lt_mul (Nat.mul_lt_mul'' hx hy)
 have eT : T = T % B4 + H0 * B4 := by rw [hH0]; exact (Nat.mod_add_div' T B4).symm
 obtain ⟨X0, hX0⟩ : ∃ X, X = H0 * 38 := ⟨_, rfl⟩
 obtain ⟨K0, hK0⟩ : ∃ K, K = X0 / B4 := ⟨_, rfl⟩
 obtain ⟨V1, hV1⟩ : ∃ V, V = T % B4 + X0 % B4 := ⟨_, rfl⟩
 obtain ⟨c1, hc1⟩ : ∃ c, c = V1 / B4 := ⟨_, rfl⟩
 obtain ⟨H1, hH1⟩ : ∃ H, H = K0 + c1 := ⟨_, rfl⟩
 obtain ⟨p1, p2, p3, p4⟩ := rm_bound1 H0 T X0 K0 V1 c1 H1 bH0 hX0 hK0 hV1 hc1 hH1
 have m1 : T % qaa = (V1 % B4 + H1 * B4) % qaa := by
  rw [← p4, ← fold38, ← eT]
 rw [← hT]
 by_cases z1 : H1 = 0
 ·have hv : c1 = 0 := by omega
  have bV1 : V1 < B4 := by
   rw [hc1] at hv
   exact (Nat.div_eq_zero_iff_lt (by decide)).1 hv
  rw [z1, Nat.zero_mul, Nat.add_zero, Nat.mod_eq_of_lt bV1] at m1
  exact rm_core1 x y T H0 X0 K0 V1 c1 H1 _ hx hy hT hH0 bH0 hX0 hK0 hV1 hc1 hH1 p1 p2 z1 bV1 m1
 ·obtain ⟨X1, hX1⟩ : ∃ X, X = H1 * 38 := ⟨_, rfl⟩
  obtain ⟨K1, hK1⟩ : ∃ K, K = X1 / B4 := ⟨_, rfl⟩
  obtain ⟨V2, hV2⟩ : ∃ V, V = V1 % B4 + X1 % B4 := ⟨_, rfl⟩
  obtain ⟨c2, hc2⟩ : ∃ c, c = V2 / B4 := ⟨_, rfl⟩
  obtain ⟨H2, hH2⟩ : ∃ H, H = K1 + c2 := ⟨_, rfl⟩
  obtain ⟨q1, q2, q3, q4, q5, q6⟩ := rm_bound2 V1 H1 X1 K1 V2 c2 H2 p3 hX1 hK1 hV2 hc2 hH2
  have m2 : T % qaa = V2 % qaa := by rw [m1, fold38, ← q5]
  by_cases z2 : H2 = 0
  ·have bV2 : V2 < B4 := by
    rw [z2, Nat.zero_mul, Nat.add_zero] at q6
    rw [q6]
    exact mB V2
   exact rm_core2 x y T H0 X0 K0 V1 c1 H1 X1 K1 V2 c2 H2 _ hx hy hT hH0 bH0 hX0 hK0 hV1 hc1 hH1 p1 p2 z1 hX1 hK1 hV2 hc2 hH2 q1 q2 z2 bV2 m2
  ·obtain ⟨X2, hX2⟩ : ∃ X, X = H2 * 38 := ⟨_, rfl⟩
   obtain ⟨K2, hK2⟩ : ∃ K, K = X2 / B4 := ⟨_, rfl⟩
   obtain ⟨V3, hV3⟩ : ∃ V, V = V2 % B4 + X2 % B4 := ⟨_, rfl⟩
   obtain ⟨c3, hc3⟩ : ∃ c, c = V3 / B4 := ⟨_, rfl⟩
   obtain ⟨H3, hH3⟩ : ∃ H, H = K2 + c3 := ⟨_, rfl⟩
   obtain ⟨r1, r2, r3, r4, r5⟩ := rm_bound3 V2 H2 X2 K2 V3 c3 H3 q3 (q4 z2) hX2 hK2 hV3 hc3 hH3
   have m3 : T % qaa = V3 % qaa := by
    rw [m2, r5, ← fold38, ← q6]
   exact rm_core3 x y T H0 X0 K0 V1 c1 H1 X1 K1 V2 c2 H2 X2 K2 V3 c3 H3 _ hx hy hT hH0 bH0 hX0 hK0 hV1 hc1 hH1 p1 p2 z1 hX1 hK1 hV2 hc2 hH2 q1 q2 z2 hX2 hK2 hV3 hc3 hH3 r1 r2 r3 r4 m3
theorem qaH {ν : Nat → Int} {p q r : AV} {x y : Nat} (hx : x < B4) (hy : y < B4) (h1 : qag ν p = some (num x)) (h2 : qag ν q = some (num y)) (h3 : conc ν r = some (num (x * y % qaa))) : Row.Ok ν Tryd.prog ⟨64, [p, q], r⟩ := ⟨[num x, num y], _, by simp [qai, h1, h2], h3, rMul_ok x y hx hy⟩
/-! its pieces -/
def rpw : IC := t89.body
def rpA : IC := rpw.sub [false]
def rpB : IC := rpw.sub [true, false]
def rpC : IC := rpw.sub [true, true, false, false]
def rBody : IC := rpw.sub [true, true, false, true, false, false]
def rpE : IC := rpw.sub [true, true, true]
theorem rpow_shape : t89 = ⟨.seq rpA (.seq rpB (.seq (.seq rpC (.block 0 (.loop rBody))) rpE)), [.c 4 (some 4)], 29⟩ := by kernel_rfl
def rblk (cs : List AV) : ABlk := ⟨cs, 39, true⟩
def rbaseE : List (Nat × AV) := [(2, .p 64 0), (3, .p 65 0), (4, .p 66 0), (5, .p 67 0)]
def rbaseH (cs : List AV) : List (Nat × ABlk) := [(64, rblk (cellsOf 0)), (65, rblk (cellsOf 4)), (66, rblk zeroC), (67, rblk cs)]
def rN (k : Int) (cs : List AV) : Now := ⟨(6, .i .i64 (.c k)) :: rbaseE, rbaseH cs, 68⟩
def rbitF (k : Nat) (b : Bool) : Facts := ⟨[], [(.eql, .e .and .u64 (.e .shr .u64 (.s (4 + k / 64)) (.c (.ofNat (k % 64)))) (.c (.ofNat 1)), .c (.ofNat 1), b)], []⟩
def rT : List Row := [⟨64, [ns 8, ns 8], ns 12⟩, ⟨64, [ns 12, ns 0], ns 16⟩]
noncomputable def rGo (k : Nat) : Bool := goes (rbitF k true) tree rT 60 2 rBody (rN (.ofNat k) (cellsOf 8)) .normal (rN ((k : Int) - 1) (cellsOf 16)) && goes (rbitF k false) tree rT 60 2 rBody (rN (.ofNat k) (cellsOf 8)) .normal (rN ((k : Int) - 1) (cellsOf 12))
theorem r_goes0 : (List.range 64).all (fun k => rGo k) = true := by kernel_rfl
theorem r_goes1 : (List.range 64).all (fun k => rGo (64 + k)) = true := by kernel_rfl
theorem r_goes2 : (List.range 64).all (fun k => rGo (128 + k)) = true := by kernel_rfl
theorem r_goes3 : (List.range 64).all (fun k => rGo (192 + k)) = true := by kernel_rfl
theorem r_goes (k : Nat) (h : k < 256) : rGo k = true := by
 by_cases h0 : k < 64
 ·exact List.all_eq_true.1 r_goes0 k (List.mem_range.2 h0)
 ·by_cases h1 : k < 128
  ·have := List.all_eq_true.1 r_goes1 (k - 64) (List.mem_range.2 (by omega))
   rwa [show 64 + (k - 64) = k by omega] at this
  ·by_cases h2 : k < 192
   ·have := List.all_eq_true.1 r_goes2 (k - 128) (List.mem_range.2 (by omega))
    rwa [show 128 + (k - 128) = k by omega] at this
   ·have := List.all_eq_true.1 r_goes3 (k - 192) (List.mem_range.2 (by omega))
    rwa [show 192 + (k - 192) = k by omega] at this
theorem r_ends : goes qae tree [] 60 2 rBody (rN (-1) (cellsOf 8)) (.exit 0) (rN (-1) (cellsOf 8)) = true := by kernel_rfl
/-! the rounds -/
def nuRP (a e x : Nat) : Nat → Int := nu (numL a ++ numL e ++ numL x ++ numL (x * x % qaa) ++ numL (x * x % qaa * a % qaa))
def powZ (a e : Nat) (k : Nat) : Nat := a ^ (e / 2 ^ k) % qaa
theorem powZ_step (a e k : Nat) : powZ a e k = if e / 2 ^ k % 2 = 1 then powZ a e (k + 1) * powZ a e (k + 1) % qaa * a % qaa else powZ a e (k + 1) * powZ a e (k + 1) % qaa := by
 have e2 : e / 2 ^ k = e / 2 ^ (k + 1) + e / 2 ^ (k + 1) + e / 2 ^ k % 2 := by
  rw [Nat.pow_succ, ← Nat.div_div_eq_div_mul]; omega
 have e3 : ∀ b, e / 2 ^ k % 2 = b → powZ a e k = a ^ (e / 2 ^ (k + 1)) * a ^ (e / 2 ^ (k + 1)) * a ^ b % qaa := by
  intro b hb
  unfold powZ
  rw [hb] at e2
  rw [e2, Nat.pow_add, Nat.pow_add]
 split
 ·rename_i hb
  rw [e3 1 hb, Nat.pow_one]
  unfold powZ
  rw [← Nat.mul_mod, Nat.mod_mul_mod]
 ·rename_i hb
  rw [e3 0 (by omega), Nat.pow_zero, Nat.mul_one]
  unfold powZ
  rw [← Nat.mul_mod]
theorem rT_ok (a e x : Nat) (ha : a < B4) (hx : x < B4) : ∀ r ∈ rT, r.Ok (nuRP a e x) Tryd.prog := by
 intro r hr
 simp only [rT, List.mem_cons, List.not_mem_nil, or_false] at hr
 rcases hr with rfl | rfl
 ·exact qaH hx hx rfl rfl rfl
 ·exact qaH (qah _) ha rfl rfl rfl
theorem rword_at (a e x j : Nat) (hj : j < 4) : nuRP a e x (4 + j) = ((e / 2 ^ (64 * j) % 2 ^ 64 : Nat) : Int) := by
 match j, hj with
 | 0, _ => show ((e % 18446744073709551616 : Nat) : Int) = _; simp
 | 1, _ => rfl
 | 2, _ => rfl
 | 3, _ => rfl
theorem rbit_hold (a e x k : Nat) (hk : k < 256) (b : Bool) (hb : decide (e / 2 ^ k % 2 = 1) = b) : (rbitF k b).Hold (nuRP a e x) := by
 refine ⟨fun p hp => (by cases hp), fun p hp => ?_, fun p hp => by cases hp⟩
 simp only [rbitF, List.mem_cons, List.not_mem_nil, or_false] at hp
 subst hp
 show (qaj .and .u64 (qaj .shr .u64 (nuRP a e x (4 + k / 64)) ((k % 64 : Nat) : Int)) ((1 : Nat) : Int) == ((1 : Nat) : Int)) = b
 have hm : k % 64 < 64 := Nat.mod_lt _ (by decide)
 have e1 := bit_at e (k / 64) (k % 64) hm
 rw [show 64 * (k / 64) + k % 64 = k by omega] at e1
 rw [rword_at a e x (k / 64) (by omega), a_shr .u64 _ (k % 64) (Nat.le_of_lt hm), a_mask _ 1 1 rfl (by decide), ← hb, Nat.pow_one, e1]
 by_cases h : e / 2 ^ k % 2 = 1
 ·simp only [h, decide_true]; rfl
 ·have : e / 2 ^ k % 2 = 0 := by omega
  simp only [this]; decide
theorem rbase64 (cs : List AV) : (qam (rbaseH cs) 68).get 64 = some (rblk (cellsOf 0)) := by kernel_rfl
theorem rbase65 (cs : List AV) : (qam (rbaseH cs) 68).get 65 = some (rblk (cellsOf 4)) := by kernel_rfl
theorem rbase66 (cs : List AV) : (qam (rbaseH cs) 68).get 66 = some (rblk zeroC) := by kernel_rfl
theorem rbase67 (cs : List AV) : (qam (rbaseH cs) 68).get 67 = some (rblk cs) := by kernel_rfl
theorem rblk_map (cs : List AV) : (rblk cs).elem < qac := by show 39 < qac; decide
theorem r_named {w0 : World} {ν : Nat → Int} {a e x' : Nat} {k : Int} {cs : List AV} {act : Act} {w : World} (h : Holds 29 w0 ν (rN k cs) act w) (ca : qap ν (cellsOf 0) = some [u64 (Sh.w0 a), u64 (w1 a), u64 (w2 a), u64 (w3 a)]) (ce : qap ν (cellsOf 4) = some [u64 (Sh.w0 e), u64 (w1 e), u64 (w2 e), u64 (w3 e)])
  (hc : qap ν cs = some [u64 (Sh.w0 x'), u64 (w1 x'), u64 (w2 x'), u64 (w3 x')]) : Holds 29 w0 (nuRP a e x') (rN k (cellsOf 8)) act w := by
 refine h.renum (fun p hp => ⟨p.2, hp, ?_⟩) fun p hp => ?_
 ·simp only [rbaseE, List.mem_cons, List.not_mem_nil, or_false] at hp
  rcases hp with rfl | rfl | rfl | rfl | rfl
  ·exact qa5.conc (u := .int .i64 k) rfl rfl
  ·exact qa5.p _ _
  ·exact qa5.p _ _
  ·exact qa5.p _ _
  ·exact qa5.p _ _
 ·simp only [rbaseH, List.mem_cons, List.not_mem_nil, or_false] at hp
  rcases hp with rfl | rfl | rfl | rfl
  ·exact ⟨by decide, rblk (cellsOf 0), [u64 (Sh.w0 a), u64 (w1 a), u64 (w2 a), u64 (w3 a)], rbase64 _, rfl, rfl, rblk_map _, ca, rfl⟩
  ·exact ⟨by decide, rblk (cellsOf 4), [u64 (Sh.w0 e), u64 (w1 e), u64 (w2 e), u64 (w3 e)], rbase65 _, rfl, rfl, rblk_map _, ce, rfl⟩
  ·exact ⟨by decide, rblk zeroC, [u64 0, u64 0, u64 0, u64 0], rbase66 _, rfl, rfl, rblk_map _, rfl, rfl⟩
  ·exact ⟨by decide, rblk cs, [u64 (Sh.w0 x'), u64 (w1 x'), u64 (w2 x'), u64 (w3 x')], rbase67 _, rfl, rfl, rblk_map _, hc, rfl⟩
theorem r_loop (w0 : World) (a e : Nat) (ha : a < B4) : Tri Tryd.prog 29 (.loop rBody) (fun act w => Holds 29 w0 (nuRP a e (powZ a e 256)) (rN 255 (cellsOf 8)) act w) (fun ex act w => ex = .exit 0 ∧ Holds 29 w0 (nuRP a e (powZ a e 0)) (rN (-1) (cellsOf 8)) act w) := by
 have key := Tri.loop (P := Tryd.prog) (N := 29) (x := rBody) (J := fun k act w => k ≤ 256 ∧ Holds 29 w0 (nuRP a e (powZ a e k)) (rN ((k : Int) - 1) (cellsOf 8)) act w) (Post := fun ex act w => ex = .exit 0 ∧ Holds 29 w0 (nuRP a e (powZ a e 0)) (rN (-1) (cellsOf 8)) act w) 256 ?_ ?_
 ·exact key.weak (fun act w h => ⟨Nat.le_refl _, h⟩) (fun _ _ _ h => h)
 ·intro k c hc act w ⟨hk, hp⟩
  have hp' : Holds 29 w0 (nuRP a e (powZ a e (k + 1))) (rN (.ofNat k) (cellsOf 8)) act w := by
   have : (((k + 1 : Nat) : Int) - 1) = .ofNat k := by rw [Int.ofNat_eq_natCast]; omega
   rw [this] at hp
   exact hp
  have hg := r_goes k (by omega)
  simp only [rGo, Bool.and_eq_true] at hg
  have hst := powZ_step a e k
  by_cases hb : e / 2 ^ k % 2 = 1
  ·rw [if_pos hb] at hst
   refine ((Tri.run (rbit_hold a e _ k (by omega) true (by simp [hb])) qak qaf (rT_ok a e _ ha (qah _)) hg.1).weak (fun _ _ h => h) (fun ex act w h => ?_)) c hc act w hp'
   refine .inl ⟨h.1, by omega, ?_⟩
   rw [hst]
   exact r_named h.2 rfl rfl rfl
  ·rw [if_neg hb] at hst
   refine ((Tri.run (rbit_hold a e _ k (by omega) false (by simp [hb])) qak qaf (rT_ok a e _ ha (qah _)) hg.2).weak (fun _ _ h => h) (fun ex act w h => ?_)) c hc act w hp'
   refine .inl ⟨h.1, by omega, ?_⟩
   rw [hst]
   exact r_named h.2 rfl rfl rfl
 ·refine (Tri.run (qab _) qak qaf (fun r hr => by cases hr) r_ends).weak (fun act w h => h.2) (fun ex act w h => ?_)
  exact ⟨by rw [h.1]; simp, h.1, h.2⟩
def rnowA : Now := ⟨[(2, .p 64 0), (3, .p 65 0), (4, .p 66 0)], [(64, rblk (cellsOf 0)), (65, rblk (cellsOf 4)), (66, rblk zeroC)], 67⟩
def rnowB : Now := ⟨rbaseE, rbaseH [cK 1, c0, c0, c0], 68⟩
def rnowE : Now := ⟨[(4, .p 66 0)], [(66, rblk (cellsOf 8))], 68⟩
theorem rgoA : goes qae tree [] 60 2 rpA now0 .normal rnowA = true := by kernel_rfl
theorem rgoB : goes qae tree [] 60 2 rpB rnowA .normal rnowB = true := by kernel_rfl
theorem rgoC : goes qae tree [] 60 2 rpC rnowB .normal (rN 255 [cK 1, c0, c0, c0]) = true := by kernel_rfl
theorem rgoE : goes qae tree [] 60 2 rpE (rN (-1) (cellsOf 8)) .ret rnowE = true := by kernel_rfl
theorem rPow_ok (a e : Nat) (ha : a < B4) (he : e < B4) : Pure Tryd.prog 89 [num a, num e] (num (a ^ e % qaa)) := by
 have y0 : powZ a e 256 = 1 := by
  unfold powZ
  rw [Nat.div_eq_of_lt (show e < 2 ^ 256 by unfold B4 at he; simpa using he), Nat.pow_zero]
  decide
 have y4 : powZ a e 0 = a ^ e % qaa := by unfold powZ; simp
 refine pure_tri (ν := nu (numL a ++ numL e)) (ν' := nuRP a e (powZ a e 0)) (args := [ns 0, ns 4]) (r := ns 8) (o := rnowE) tree qaf (by kernel_rfl) rpow_shape rfl (by decide) now0.e (fun p hp => ?_) (fun w0 => ?_) (by kernel_rfl) (by rw [y4]; rfl)
 ·simp only [now0, List.mem_cons, List.not_mem_nil, or_false] at hp
  rcases hp with rfl | rfl <;> rfl
 ·refine Tri.seq (Tri.run (i := now0) (qab _) qak qaf noRows rgoA) ?_ (fun ex a w hne h => (hne h.1).elim)
  refine Tri.weak (Pre := Holds 29 w0 (nu (numL a ++ numL e)) rnowA) ?_ (fun _ _ h => h.2) (fun _ _ _ h => h)
  refine Tri.seq (Tri.run (qab _) qak qaf noRows rgoB) ?_ (fun ex a w hne h => (hne h.1).elim)
  refine Tri.weak (Pre := Holds 29 w0 (nu (numL a ++ numL e)) rnowB) ?_ (fun _ _ h => h.2) (fun _ _ _ h => h)
  refine Tri.seq (Mid := fun ex act w => ex = .normal ∧ Holds 29 w0 (nuRP a e (powZ a e 0)) (rN (-1) (cellsOf 8)) act w) ?_ ?_ (fun ex a w hne h => (hne h.1).elim)
  ·refine Tri.seq (Tri.run (qab _) qak qaf noRows rgoC) ?_ (fun ex a w hne h => (hne h.1).elim)
   refine Tri.weak (Pre := Holds 29 w0 (nuRP a e (powZ a e 256)) (rN 255 (cellsOf 8))) ?_ (fun _ _ h => by rw [y0]; exact r_named h.2 rfl rfl rfl) (fun _ _ _ h => h)
   refine Tri.block (r_loop w0 a e ha) (fun a w h => by cases h.1) (fun act w h => ⟨rfl, h.2⟩) (fun j a w hj h => ?_) (fun a w h => by cases h.1)
   have := h.1
   simp only [Ex.exit.injEq] at this
   exact (hj this).elim
  ·exact (Tri.run (qab _) qak qaf noRows rgoE).weak (fun _ _ h => h.2) (fun ex act w h => ⟨.inr h.1, h.2⟩)
def inC : AV := .ag [cK 18446744073709551595, cK 18446744073709551615, cK 18446744073709551615, cK 9223372036854775807]
def p3C : AV := .ag [cK 18446744073709551600, cK 18446744073709551615, cK 18446744073709551615, cK 9223372036854775807]
def p1C : AV := .ag [cK 18446744073709551596, cK 18446744073709551615, cK 18446744073709551615, cK 9223372036854775807]
def smC (n : Nat) : AV := .ag [cK n, c0, c0, c0]
theorem smC_conc (ν : Nat → Int) (n : Nat) (h : n < 1000) : qag ν (smC n) = some (num n) := by
 rw [small_num n h]
 rfl
theorem qbu {ν : Nat → Int} {a b c d n : Nat} (h : num n = n4 a b c d) : qag ν (.ag [cK a, cK b, cK c, cK d]) = some (num n) := by
 rw [h]
 rfl
theorem in_num : num qbg = n4 18446744073709551595 18446744073709551615 18446744073709551615 9223372036854775807 := by
 unfold num
 rw [show Sh.w0 qbg = 18446744073709551595 by decide, show w1 qbg = 18446744073709551615 by decide, show w2 qbg = 18446744073709551615 by decide, show w3 qbg = 9223372036854775807 by decide]
theorem p3_num : num (qaa + 3) = n4 18446744073709551600 18446744073709551615 18446744073709551615 9223372036854775807 := by
 unfold num
 rw [show Sh.w0 (qaa + 3) = 18446744073709551600 by decide, show w1 (qaa + 3) = 18446744073709551615 by decide, show w2 (qaa + 3) = 18446744073709551615 by decide, show w3 (qaa + 3) = 9223372036854775807 by decide]
theorem p1_num : num (qaa - 1) = n4 18446744073709551596 18446744073709551615 18446744073709551615 9223372036854775807 := by
 unfold num
 rw [show Sh.w0 (qaa - 1) = 18446744073709551596 by decide, show w1 (qaa - 1) = 18446744073709551615 by decide, show w2 (qaa - 1) = 18446744073709551615 by decide, show w3 (qaa - 1) = 9223372036854775807 by decide]
theorem rowPowP {ν : Nat → Int} {p q r : AV} {x y : Nat} (hx : x < B4) (hy : y < B4) (h1 : qag ν p = some (num x)) (h2 : qag ν q = some (num y)) (h3 : conc ν r = some (num (x ^ y % qaa))) : Row.Ok ν Tryd.prog ⟨89, [p, q], r⟩ := ⟨[num x, num y], _, by simp [qai, h1, h2], h3, rPow_ok x y hx hy⟩
theorem rowSubP' {ν : Nat → Int} {p q r : AV} {x y : Nat} (hx : x < B4) (hy : y < B4) (h1 : qag ν p = some (num x)) (h2 : qag ν q = some (num y)) (h3 : conc ν r = some (num ((x + (qaa - y % qaa)) % qaa))) : Row.Ok ν Tryd.prog ⟨66, [p, q], r⟩ := ⟨[num x, num y], _, by simp [qai, h1, h2], h3, rSub_ok x y hx hy⟩
def rInvT : List Row := [⟨87, [prC, smC 2], .tp [inC, cK 0]⟩, ⟨89, [ns 0, inC], ns 4⟩]
theorem rInv_says : says qae tree rInvT 300 5 67 [ns 0] (qaA [] gmax) (ns 4) = true := by kernel_rfl
theorem rInv_core (x e r : Nat) (hx : x < B4) (he : e < B4) (hp : qaa - 2 = e) (hn : num e = n4 18446744073709551595 18446744073709551615 18446744073709551615 9223372036854775807) (hr : r = x ^ e % qaa) : Pure Tryd.prog 67 [num x] (num r) := by
 refine qan (ν := nu (numL x ++ numL r)) (qab _) qak qaf (fun q hq => ?_) rInv_says (by kernel_rfl) (by kernel_rfl)
 simp only [rInvT, List.mem_cons, List.not_mem_nil, or_false] at hq
 rcases hq with rfl | rfl
 ·exact rowSubGe (x := qaa) (y := 2) (by decide) (by decide) (qbm _) (smC_conc _ 2 (by decide)) (by rw [hp]; exact qbu hn)
 ·exact rowPowP (x := x) (y := e) hx he (by kernel_rfl) (qbu hn) (by rw [← hr]; kernel_rfl)
theorem rInv_ok (x : Nat) (hx : x < B4) : Pure Tryd.prog 67 [num x] (num (x ^ qbg % qaa)) := rInv_core x qbg _ hx (by decide) (by decide) in_num rfl
/-! Root -/
def rtT0 : List Row := [⟨88, [ns 0], ns 4⟩, ⟨86, [prC, smC 3], .tp [p3C, cK 0]⟩, ⟨89, [ns 4, e8C], ns 8⟩]
def rtTA : List Row := rtT0 ++ [⟨64, [ns 8, ns 8], ns 4⟩, ⟨66, [smC 0, ns 8], ns 12⟩]
def rtT1 : List Row := rtT0 ++ [⟨64, [ns 8, ns 8], ns 12⟩, ⟨87, [prC, smC 1], .tp [p1C, cK 0]⟩, ⟨89, [smC 2, e4C], ns 16⟩, ⟨64, [ns 8, ns 16], ns 20⟩]
def rtTB : List Row := rtT1 ++ [⟨64, [ns 20, ns 20], ns 4⟩, ⟨66, [smC 0, ns 20], ns 24⟩]
def rtTC : List Row := rtT1 ++ [⟨64, [ns 20, ns 20], ns 24⟩]
def neG (k : Nat) (i : Nat) : List (BinOp × AI × AI × Bool) := [(.eql, .s (k + i), .s (4 + i), false)]
theorem rtA_says : says ⟨[], oddF 8 true, []⟩ tree rtTA 600 5 65 [ns 0] (qaA [] gmax) (.tp [ns 12, .b true]) = true ∧ says ⟨[], oddF 8 false, []⟩ tree rtTA 600 5 65 [ns 0] (qaA [] gmax) (.tp [ns 8, .b true]) = true := ⟨by kernel_rfl, by kernel_rfl⟩
noncomputable def rsayB (i : Nat) : Bool := says ⟨[], oddF 20 true ++ neG 12 i, []⟩ tree rtTB 600 5 65 [ns 0] (qaA [] gmax) (.tp [ns 24, .b true]) && says ⟨[], oddF 20 false ++ neG 12 i, []⟩ tree rtTB 600 5 65 [ns 0] (qaA [] gmax) (.tp [ns 20, .b true])
theorem rtB_says : (List.range 4).all rsayB = true := by kernel_rfl
noncomputable def rsayC (i j : Nat) : Bool := says ⟨[], neG 12 i ++ neG 24 j, []⟩ tree rtTC 600 5 65 [ns 0] (qaA [] gmax) (.tp [smC 0, .b false])
theorem rtC_says : (List.range 4).all (fun i => (List.range 4).all fun j => rsayC i j) = true := by kernel_rfl
theorem qbt {ν : Nat → Int} {k i a b : Nat} (h1 : ν (k + i) = (a : Int)) (h2 : ν (4 + i) = (b : Int)) (h : a ≠ b) : qaE .eql ((AI.s (k + i)).val ν) ((AI.s (4 + i)).val ν) = false := by
 show (ν (k + i) == ν (4 + i)) = false
 rw [h1, h2]
 simp; omega
def rootN : Option Nat → Value
 | some z => .tuple #[num z, .bool true]
 | none => .tuple #[num 0, .bool false]
theorem rtA_core (x e q r n : Nat) (hx : x < B4) (he : e < B4) (h8 : num e = n4 18446744073709551614 18446744073709551615 18446744073709551615 1152921504606846975) (hq : q = x % qaa) (hr : r = q ^ e % qaa) (hs : r * r % qaa = q) (hn : n = (0 + (qaa - r % qaa)) % qaa) :
  Pure Tryd.prog 65 [num x] (.tuple #[num (if r % 2 = 1 then n else r), .bool true]) := by
 have hqb : q < B4 := by rw [hq]; exact qah x
 have hrb : r < B4 := by rw [hr]; exact qah _
 have hT : ∀ t ∈ rtTA, t.Ok (nu (numL x ++ (numL q ++ (numL r ++ (numL n))))) Tryd.prog := by
  intro t ht
  simp only [rtTA, rtT0, List.cons_append, List.nil_append, List.mem_cons, List.not_mem_nil, or_false] at ht
  rcases ht with rfl | rfl | rfl | rfl | rfl
  ·exact rowModR hx (by kernel_rfl) (by rw [← hq]; kernel_rfl)
  ·exact rowAddR (x := qaa) (y := 3) (by decide) (by decide) (by decide) (qbm _) (smC_conc _ 3 (by decide)) (qbu p3_num)
  ·exact rowPowP (x := q) (y := e) hqb he (by kernel_rfl) (qbu h8) (by rw [← hr]; kernel_rfl)
  ·exact qaH (x := r) (y := r) hrb hrb (by kernel_rfl) (by kernel_rfl) (by rw [hs]; kernel_rfl)
  ·exact rowSubP' (x := 0) (y := r) (by decide) hrb (smC_conc _ 0 (by decide)) (by kernel_rfl) (by rw [← hn]; kernel_rfl)
 have hF : ∀ b, decide (r % 2 = 1) = b → (Facts.mk [] (oddF 8 b) []).Hold (nu (numL x ++ (numL q ++ (numL r ++ (numL n))))) := by
  intro b hb
  refine ⟨fun p hp => (by cases hp), fun p hp => ?_, fun p hp => by cases hp⟩
  simp only [oddF, List.mem_cons, List.not_mem_nil, or_false] at hp
  subst hp
  rw [← hb]
  exact odd_word r
 by_cases ho : r % 2 = 1
 ·rw [if_pos ho]
  exact qan (hF true (by simp [ho])) qak qaf hT rtA_says.1 (by kernel_rfl) (by kernel_rfl)
 ·rw [if_neg ho]
  exact qan (hF false (by simp [ho])) qak qaf hT rtA_says.2 (by kernel_rfl) (by kernel_rfl)
theorem rtB_core (x e f q r r2 s r' n : Nat) (hx : x < B4) (he : e < B4) (hf : f < B4) (h8 : num e = n4 18446744073709551614 18446744073709551615 18446744073709551615 1152921504606846975) (h4 : num f = n4 18446744073709551611 18446744073709551615 18446744073709551615 2305843009213693951)
  (hq : q = x % qaa) (hr : r = q ^ e % qaa) (hr2 : r2 = r * r % qaa) (hne : r2 ≠ q) (hs : s = 2 ^ f % qaa) (hr' : r' = r * s % qaa) (hsq : r' * r' % qaa = q) (hn : n = (0 + (qaa - r' % qaa)) % qaa) :
  Pure Tryd.prog 65 [num x] (.tuple #[num (if r' % 2 = 1 then n else r'), .bool true]) := by
 have hqb : q < B4 := by rw [hq]; exact qah x
 have hrb : r < B4 := by rw [hr]; exact qah _
 have hsb : s < B4 := by rw [hs]; exact qah _
 have h2b : r2 < B4 := by rw [hr2]; exact qah _
 have hrb' : r' < B4 := by rw [hr']; exact qah _
 have hT : ∀ t ∈ rtTB, t.Ok (nu (numL x ++ (numL q ++ (numL r ++ (numL r2 ++ (numL s ++ (numL r' ++ (numL n)))))))) Tryd.prog := by
  intro t ht
  simp only [rtTB, rtT1, rtT0, List.cons_append, List.nil_append, List.mem_cons, List.not_mem_nil, or_false] at ht
  rcases ht with rfl | rfl | rfl | rfl | rfl | rfl | rfl | rfl | rfl
  ·exact rowModR hx (by kernel_rfl) (by rw [← hq]; kernel_rfl)
  ·exact rowAddR (x := qaa) (y := 3) (by decide) (by decide) (by decide) (qbm _) (smC_conc _ 3 (by decide)) (qbu p3_num)
  ·exact rowPowP (x := q) (y := e) hqb he (by kernel_rfl) (qbu h8) (by rw [← hr]; kernel_rfl)
  ·exact qaH (x := r) (y := r) hrb hrb (by kernel_rfl) (by kernel_rfl) (by rw [← hr2]; kernel_rfl)
  ·exact rowSubGe (x := qaa) (y := 1) (by decide) (by decide) (qbm _) (smC_conc _ 1 (by decide)) (qbu p1_num)
  ·exact rowPowP (x := 2) (y := f) (by decide) hf (smC_conc _ 2 (by decide)) (qbu h4) (by rw [← hs]; kernel_rfl)
  ·exact qaH (x := r) (y := s) hrb hsb (by kernel_rfl) (by kernel_rfl) (by rw [← hr']; kernel_rfl)
  ·exact qaH (x := r') (y := r') hrb' hrb' (by kernel_rfl) (by kernel_rfl) (by rw [hsq]; kernel_rfl)
  ·exact rowSubP' (x := 0) (y := r') (by decide) hrb' (smC_conc _ 0 (by decide)) (by kernel_rfl) (by rw [← hn]; kernel_rfl)
 obtain ⟨i, hi, hw⟩ := unlike_word h2b hqb hne
 have hF : ∀ b, decide (r' % 2 = 1) = b → (Facts.mk [] (oddF 20 b ++ neG 12 i) []).Hold (nu (numL x ++ (numL q ++ (numL r ++ (numL r2 ++ (numL s ++ (numL r' ++ (numL n)))))))) := by
  intro b hb
  refine ⟨fun p hp => (by cases hp), fun p hp => ?_, fun p hp => by cases hp⟩
  simp only [oddF, neG, List.cons_append, List.nil_append, List.mem_cons, List.not_mem_nil, or_false] at hp
  rcases hp with rfl | rfl
  ·rw [← hb]
   exact odd_word r'
  ·match i, hi, hw with
   | 0, _, hw => exact qbt (a := Sh.w0 r2) (b := Sh.w0 q) rfl rfl hw
   | 1, _, hw => exact qbt (a := w1 r2) (b := w1 q) rfl rfl hw
   | 2, _, hw => exact qbt (a := w2 r2) (b := w2 q) rfl rfl hw
   | 3, _, hw => exact qbt (a := w3 r2) (b := w3 q) rfl rfl hw
 have hsay := List.all_eq_true.1 rtB_says i (List.mem_range.2 hi)
 simp only [rsayB, Bool.and_eq_true] at hsay
 by_cases ho : r' % 2 = 1
 ·rw [if_pos ho]
  exact qan (hF true (by simp [ho])) qak qaf hT hsay.1 (by kernel_rfl) (by kernel_rfl)
 ·rw [if_neg ho]
  exact qan (hF false (by simp [ho])) qak qaf hT hsay.2 (by kernel_rfl) (by kernel_rfl)
theorem rtC_core (x e f q r r2 s r' r3 : Nat) (hx : x < B4) (he : e < B4) (hf : f < B4) (h8 : num e = n4 18446744073709551614 18446744073709551615 18446744073709551615 1152921504606846975) (h4 : num f = n4 18446744073709551611 18446744073709551615 18446744073709551615 2305843009213693951)
  (hq : q = x % qaa) (hr : r = q ^ e % qaa) (hr2 : r2 = r * r % qaa) (hne : r2 ≠ q) (hs : s = 2 ^ f % qaa) (hr' : r' = r * s % qaa) (hr3 : r3 = r' * r' % qaa) (hne3 : r3 ≠ q) : Pure Tryd.prog 65 [num x] (.tuple #[num 0, .bool false]) := by
 have hqb : q < B4 := by rw [hq]; exact qah x
 have hrb : r < B4 := by rw [hr]; exact qah _
 have hsb : s < B4 := by rw [hs]; exact qah _
 have h2b : r2 < B4 := by rw [hr2]; exact qah _
 have hrb' : r' < B4 := by rw [hr']; exact qah _
 have h3b : r3 < B4 := by rw [hr3]; exact qah _
 have hT : ∀ t ∈ rtTC, t.Ok (nu (numL x ++ (numL q ++ (numL r ++ (numL r2 ++ (numL s ++ (numL r' ++ (numL r3)))))))) Tryd.prog := by
  intro t ht
  simp only [rtTC, rtT1, rtT0, List.cons_append, List.nil_append, List.mem_cons, List.not_mem_nil, or_false] at ht
  rcases ht with rfl | rfl | rfl | rfl | rfl | rfl | rfl | rfl
  ·exact rowModR hx (by kernel_rfl) (by rw [← hq]; kernel_rfl)
  ·exact rowAddR (x := qaa) (y := 3) (by decide) (by decide) (by decide) (qbm _) (smC_conc _ 3 (by decide)) (qbu p3_num)
  ·exact rowPowP (x := q) (y := e) hqb he (by kernel_rfl) (qbu h8) (by rw [← hr]; kernel_rfl)
  ·exact qaH (x := r) (y := r) hrb hrb (by kernel_rfl) (by kernel_rfl) (by rw [← hr2]; kernel_rfl)
  ·exact rowSubGe (x := qaa) (y := 1) (by decide) (by decide) (qbm _) (smC_conc _ 1 (by decide)) (qbu p1_num)
  ·exact rowPowP (x := 2) (y := f) (by decide) hf (smC_conc _ 2 (by decide)) (qbu h4) (by rw [← hs]; kernel_rfl)
  ·exact qaH (x := r) (y := s) hrb hsb (by kernel_rfl) (by kernel_rfl) (by rw [← hr']; kernel_rfl)
  ·exact qaH (x := r') (y := r') hrb' hrb' (by kernel_rfl) (by kernel_rfl) (by rw [← hr3]; kernel_rfl)
 obtain ⟨i, hi, hw⟩ := unlike_word h2b hqb hne
 obtain ⟨j, hj, hv⟩ := unlike_word h3b hqb hne3
 have hF : (Facts.mk [] (neG 12 i ++ neG 24 j) []).Hold (nu (numL x ++ (numL q ++ (numL r ++ (numL r2 ++ (numL s ++ (numL r' ++ (numL r3)))))))) := by
  refine ⟨fun p hp => (by cases hp), fun p hp => ?_, fun p hp => by cases hp⟩
  simp only [neG, List.cons_append, List.nil_append, List.mem_cons, List.not_mem_nil, or_false] at hp
  rcases hp with rfl | rfl
  ·match i, hi, hw with
   | 0, _, hw => exact qbt (a := Sh.w0 r2) (b := Sh.w0 q) rfl rfl hw
   | 1, _, hw => exact qbt (a := w1 r2) (b := w1 q) rfl rfl hw
   | 2, _, hw => exact qbt (a := w2 r2) (b := w2 q) rfl rfl hw
   | 3, _, hw => exact qbt (a := w3 r2) (b := w3 q) rfl rfl hw
  ·match j, hj, hv with
   | 0, _, hw => exact qbt (a := Sh.w0 r3) (b := Sh.w0 q) rfl rfl hw
   | 1, _, hw => exact qbt (a := w1 r3) (b := w1 q) rfl rfl hw
   | 2, _, hw => exact qbt (a := w2 r3) (b := w2 q) rfl rfl hw
   | 3, _, hw => exact qbt (a := w3 r3) (b := w3 q) rfl rfl hw
 have hsay := List.all_eq_true.1 (List.all_eq_true.1 rtC_says i (List.mem_range.2 hi)) j (List.mem_range.2 hj)
 exact qan hF qak qaf hT hsay (by kernel_rfl) (by kernel_rfl)
theorem turned (r : Nat) (h : r < qaa) : (0 + (qaa - r % qaa)) % qaa = (qaa - r) % qaa := by
 rw [Nat.zero_add, Nat.mod_eq_of_lt h]
theorem rRoot_by (x e f : Nat) (hx : x < B4) (he : e < B4) (hf : f < B4) (h8 : num e = n4 18446744073709551614 18446744073709551615 18446744073709551615 1152921504606846975) (h4 : num f = n4 18446744073709551611 18446744073709551615 18446744073709551615 2305843009213693951) :
  Pure Tryd.prog 65 [num x] (rootN (qaL e f x)) := by
 unfold qaL
 by_cases c1 : (x % qaa) ^ e % qaa * ((x % qaa) ^ e % qaa) % qaa = x % qaa
 ·rw [if_pos c1]
  have h := rtA_core x e _ _ _ hx he h8 rfl rfl c1 rfl
  rw [turned _ (qar _)] at h
  exact h
 ·rw [if_neg c1]
  by_cases c2 : (x % qaa) ^ e % qaa * (2 ^ f % qaa) % qaa * ((x % qaa) ^ e % qaa * (2 ^ f % qaa) % qaa) % qaa = x % qaa
  ·rw [if_pos c2]
   have h := rtB_core x e f _ _ _ _ _ _ hx he hf h8 h4 rfl rfl rfl c1 rfl rfl c2 rfl
   rw [turned _ (qar _)] at h
   exact h
  ·rw [if_neg c2]
   exact rtC_core x e f _ _ _ _ _ _ hx he hf h8 h4 rfl rfl rfl c1 rfl rfl rfl c2
theorem rRoot_ok (x : Nat) (hx : x < B4) : Pure Tryd.prog 65 [num x] (rootN (qaL e8 e4 x)) := rRoot_by x e8 e4 hx (by decide) (by decide) e8_num e4_num
end Go.Proofs.YtheidgcgdkmmiaaDoor
