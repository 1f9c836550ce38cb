/-
  THE FIELD's WORDS, part two: sums, products. Own work.
-/
import Derived.Test.YtlalonomdblhdaaFa
namespace Go.Proofs.Ytlalonomdblhdaa
open Go.Sh
set_option maxRecDepth 100000

theorem rowLeast {ν : Nat → Int} {p r : AV} {N : Nat} (hN : N < B4) (h1 : conc2 ν p = some (num N)) (h2 : conc ν r = some (num (N % prime))) : Row.Ok ν Try.prog ⟨43, [p], r⟩ :=
  ⟨[num N], num (N % prime), by simp [concT, h1], h2, least_ok N hN⟩

/-! add -/

def addT : List Row := [⟨40, [wd 0, wd 4, c0], .tp [wd 8, wd 9]⟩, ⟨40, [wd 1, wd 5, wd 9], .tp [wd 10, wd 11]⟩, ⟨40, [wd 2, wd 6, wd 11], .tp [wd 12, wd 13]⟩, ⟨40, [wd 3, wd 7, wd 13], .tp [wd 14, wd 15]⟩,
  ⟨43, [.ag [wd 8, wd 10, wd 12, wd 14]], ns 16⟩]
theorem add_says : says noFacts tree addT 100 3 42 [ns 0, ns 4] (heap0 [] gmax) (ns 16) = true := by kernel_rfl

theorem add_core (M a b c d a' b' c' d' s0 k0 s1 k1 s2 k2 s3 k3 : Nat) (h0 : s0 = (a + a' + 0) % 18446744073709551616) (g0 : k0 = (a + a' + 0) / 18446744073709551616) (h1 : s1 = (b + b' + k0) % 18446744073709551616) (g1 : k1 = (b + b' + k0) / 18446744073709551616)
    (h2 : s2 = (c + c' + k1) % 18446744073709551616) (g2 : k2 = (c + c' + k1) / 18446744073709551616) (h3 : s3 = (d + d' + k2) % 18446744073709551616) (g3 : k3 = (d + d' + k2) / 18446744073709551616) (q0 : k0 ≤ 1) (q1 : k1 ≤ 1) (q2 : k2 ≤ 1)
    (hM : M < B4) (hm : n4 s0 s1 s2 s3 = num M) : Pure Try.prog 42 [n4 a b c d, n4 a' b' c' d'] (num (M % prime)) := by
  refine pure_of (ν := nu ([a, b, c, d, a', b', c', d', s0, k0, s1, k1, s2, k2, s3, k3] ++ numL (M % prime))) (noFacts_hold _) mixed tab_ok (fun r hr => ?_) add_says rfl rfl
  simp only [addT, List.mem_cons, List.not_mem_nil, or_false] at hr
  rcases hr with rfl | rfl | rfl | rfl | rfl
  · exact rowA (x := a) (y := a') (c := 0) (z := s0) (k := k0) rfl rfl rfl rfl rfl (by omega) h0 g0
  · exact rowA (x := b) (y := b') (c := k0) (z := s1) (k := k1) rfl rfl rfl rfl rfl (by omega) h1 g1
  · exact rowA (x := c) (y := c') (c := k1) (z := s2) (k := k2) rfl rfl rfl rfl rfl (by omega) h2 g2
  · exact rowA (x := d) (y := d') (c := k2) (z := s3) (k := k3) rfl rfl rfl rfl rfl (by omega) h3 g3
  · exact rowLeast hM (by rw [← hm]; rfl) rfl

theorem add_ok (x y : Nat) (hx : x < prime) (hy : y < prime) : Pure Try.prog 42 [num x, num y] (num ((x + y) % prime)) := by
  have hxs := split4 x
  rw [Nat.div_eq_of_lt (show x < B4 by unfold B4; unfold prime at hx; omega)] at hxs
  have hys := split4 y
  rw [Nat.div_eq_of_lt (show y < B4 by unfold B4; unfold prime at hy; omega)] at hys
  obtain ⟨l0, l1, l2, l3⟩ := w_lt x
  obtain ⟨m0, m1, m2, m3⟩ := w_lt y
  refine add_core (x + y) (w0 x) (w1 x) (w2 x) (w3 x) (w0 y) (w1 y) (w2 y) (w3 y) _ _ _ _ _ _ _ _ rfl rfl rfl rfl rfl rfl rfl rfl (by omega) (by omega) (by omega) (by unfold B4; unfold prime at hx hy; omega) ?_
  refine num_of (e := (w3 x + w3 y + (w2 x + w2 y + (w1 x + w1 y + (w0 x + w0 y + 0) / 18446744073709551616) / 18446744073709551616) / 18446744073709551616) / 18446744073709551616) (Nat.mod_lt _ (by decide)) (Nat.mod_lt _ (by decide)) (Nat.mod_lt _ (by decide)) (Nat.mod_lt _ (by decide)) ?_
  generalize w0 x = a at *
  generalize w1 x = b at *
  generalize w2 x = c at *
  generalize w3 x = d at *
  generalize w0 y = a' at *
  generalize w1 y = b' at *
  generalize w2 y = c' at *
  generalize w3 y = d' at *
  rw [hxs, hys]
  unfold B4
  omega

/-! negative -/

def negT : List Row := [⟨39, [cK 18446744073709551597, wd 0, c0], .tp [wd 4, wd 5]⟩, ⟨39, [cK 18446744073709551615, wd 1, wd 5], .tp [wd 6, wd 7]⟩, ⟨39, [cK 18446744073709551615, wd 2, wd 7], .tp [wd 8, wd 9]⟩,
  ⟨39, [cK 9223372036854775807, wd 3, wd 9], .tp [wd 10, wd 11]⟩, ⟨43, [.ag [wd 4, wd 6, wd 8, wd 10]], ns 12⟩]
theorem neg_says : says noFacts tree negT 100 3 44 [ns 0] (heap0 [] gmax) (ns 12) = true := by kernel_rfl

theorem neg_core (M a b c d s0 k0 s1 k1 s2 k2 s3 k3 : Nat) (h0 : s0 = (18446744073709551597 + 18446744073709551616 - a - 0) % 18446744073709551616) (g0 : k0 = if 18446744073709551597 < a + 0 then 1 else 0)
    (h1 : s1 = (18446744073709551615 + 18446744073709551616 - b - k0) % 18446744073709551616) (g1 : k1 = if 18446744073709551615 < b + k0 then 1 else 0) (h2 : s2 = (18446744073709551615 + 18446744073709551616 - c - k1) % 18446744073709551616) (g2 : k2 = if 18446744073709551615 < c + k1 then 1 else 0)
    (h3 : s3 = (9223372036854775807 + 18446744073709551616 - d - k2) % 18446744073709551616) (g3 : k3 = if 9223372036854775807 < d + k2 then 1 else 0) (q0 : k0 ≤ 1) (q1 : k1 ≤ 1) (q2 : k2 ≤ 1)
    (hM : M < B4) (hm : n4 s0 s1 s2 s3 = num M) : Pure Try.prog 44 [n4 a b c d] (num (M % prime)) := by
  refine pure_of (ν := nu ([a, b, c, d, s0, k0, s1, k1, s2, k2, s3, k3] ++ numL (M % prime))) (noFacts_hold _) mixed tab_ok (fun r hr => ?_) neg_says rfl rfl
  simp only [negT, List.mem_cons, List.not_mem_nil, or_false] at hr
  rcases hr with rfl | rfl | rfl | rfl | rfl
  · exact rowS (x := 18446744073709551597) (y := a) (c := 0) (z := s0) (k := k0) rfl rfl rfl rfl rfl (by omega) h0 g0
  · exact rowS (x := 18446744073709551615) (y := b) (c := k0) (z := s1) (k := k1) rfl rfl rfl rfl rfl (by omega) h1 g1
  · exact rowS (x := 18446744073709551615) (y := c) (c := k1) (z := s2) (k := k2) rfl rfl rfl rfl rfl (by omega) h2 g2
  · exact rowS (x := 9223372036854775807) (y := d) (c := k2) (z := s3) (k := k3) rfl rfl rfl rfl rfl (by omega) h3 g3
  · exact rowLeast hM (by rw [← hm]; rfl) rfl

theorem ite_le (p : Prop) [Decidable p] : (if p then 1 else 0 : Nat) ≤ 1 := by split <;> decide

theorem neg_ok (x : Nat) (hx : x < prime) : Pure Try.prog 44 [num x] (num ((prime - x) % prime)) := by
  have hxs := split4 x
  rw [Nat.div_eq_of_lt (show x < B4 by unfold B4; unfold prime at hx; omega)] at hxs
  obtain ⟨l0, l1, l2, l3⟩ := w_lt x
  refine neg_core (prime - x) (w0 x) (w1 x) (w2 x) (w3 x) _ _ _ _ _ _ _ _ rfl rfl rfl rfl rfl rfl rfl rfl (ite_le _) (ite_le _) (ite_le _) (by unfold B4; unfold prime at hx ⊢; omega) ?_
  refine num_of (e := 0) (Nat.mod_lt _ (by decide)) (Nat.mod_lt _ (by decide)) (Nat.mod_lt _ (by decide)) (Nat.mod_lt _ (by decide)) ?_
  unfold prime at hx ⊢
  generalize w0 x = a at *
  generalize w1 x = b at *
  generalize w2 x = c at *
  generalize w3 x = d at *
  rw [hxs]
  rw [hxs] at hx
  by_cases p0 : 18446744073709551597 < a + 0
  · simp only [p0, if_true]
    by_cases p1 : 18446744073709551615 < b + 1
    · simp only [p1, if_true]
      by_cases p2 : 18446744073709551615 < c + 1
      · simp only [p2, if_true]; omega
      · simp only [p2, if_false]; omega
    · simp only [p1, if_false]
      by_cases p2 : 18446744073709551615 < c + 0
      · omega
      · simp only [p2, if_false]; omega
  · simp only [p0, if_false]
    by_cases p1 : 18446744073709551615 < b + 0
    · omega
    · simp only [p1, if_false]
      by_cases p2 : 18446744073709551615 < c + 0
      · omega
      · simp only [p2, if_false]; omega

/-! mulWord -/

def mwT : List Row := [⟨41, [wd 4, wd 8], .tp [wd 9, wd 10]⟩, ⟨41, [wd 5, wd 8], .tp [wd 11, wd 12]⟩, ⟨41, [wd 6, wd 8], .tp [wd 13, wd 14]⟩, ⟨41, [wd 7, wd 8], .tp [wd 15, wd 16]⟩,
  ⟨40, [wd 12, wd 9, c0], .tp [wd 17, wd 18]⟩, ⟨40, [wd 14, wd 11, wd 18], .tp [wd 19, wd 20]⟩, ⟨40, [wd 16, wd 13, wd 20], .tp [wd 21, wd 22]⟩,
  ⟨40, [wd 0, wd 10, c0], .tp [wd 23, wd 24]⟩, ⟨40, [wd 1, wd 17, wd 24], .tp [wd 25, wd 26]⟩, ⟨40, [wd 2, wd 19, wd 26], .tp [wd 27, wd 28]⟩, ⟨40, [wd 3, wd 21, wd 28], .tp [wd 29, wd 30]⟩]
def overE : AI := .e .add .u64 (.e .add .u64 (.s 15) (.s 22)) (.s 30)
theorem mw_says : says noFacts tree mwT 100 3 46 [ns 0, ns 4, wd 8] (heap0 [] gmax) (.tp [.ag [wd 23, wd 25, wd 27, wd 29], .i .u64 overE]) = true := by kernel_rfl

theorem mw_core (n0 n1 n2 n3 a b c d w h0 l0 h1 l1 h2 l2 h3 l3 s1 k1 s2 k2 s3 k3 r0 e0 r1 e1 r2 e2 r3 e3 : Nat) (ba : a < 18446744073709551616) (bb : b < 18446744073709551616) (bc : c < 18446744073709551616) (bd : d < 18446744073709551616) (bw : w < 18446744073709551616)
    (q0 : h0 = a * w / 18446744073709551616) (p0 : l0 = a * w % 18446744073709551616) (q1 : h1 = b * w / 18446744073709551616) (p1 : l1 = b * w % 18446744073709551616) (q2 : h2 = c * w / 18446744073709551616) (p2 : l2 = c * w % 18446744073709551616) (q3 : h3 = d * w / 18446744073709551616) (p3 : l3 = d * w % 18446744073709551616)
    (f1 : s1 = (l1 + h0 + 0) % 18446744073709551616) (g1 : k1 = (l1 + h0 + 0) / 18446744073709551616) (f2 : s2 = (l2 + h1 + k1) % 18446744073709551616) (g2 : k2 = (l2 + h1 + k1) / 18446744073709551616) (f3 : s3 = (l3 + h2 + k2) % 18446744073709551616) (g3 : k3 = (l3 + h2 + k2) / 18446744073709551616)
    (t0 : r0 = (n0 + l0 + 0) % 18446744073709551616) (u0 : e0 = (n0 + l0 + 0) / 18446744073709551616) (t1 : r1 = (n1 + s1 + e0) % 18446744073709551616) (u1 : e1 = (n1 + s1 + e0) / 18446744073709551616) (t2 : r2 = (n2 + s2 + e1) % 18446744073709551616) (u2 : e2 = (n2 + s2 + e1) / 18446744073709551616)
    (t3 : r3 = (n3 + s3 + e2) % 18446744073709551616) (u3 : e3 = (n3 + s3 + e2) / 18446744073709551616) (z1 : k1 ≤ 1) (z2 : k2 ≤ 1) (y0 : e0 ≤ 1) (y1 : e1 ≤ 1) (y2 : e2 ≤ 1) (ho : h3 + k3 + e3 < 18446744073709551616) :
    Pure Try.prog 46 [n4 n0 n1 n2 n3, n4 a b c d, u64 w] (.tuple #[n4 r0 r1 r2 r3, u64 (h3 + k3 + e3)]) := by
  have ov : overE.val (nu [n0, n1, n2, n3, a, b, c, d, w, h0, l0, h1, l1, h2, l2, h3, l3, s1, k1, s2, k2, s3, k3, r0, e0, r1, e1, r2, e2, r3, e3]) = ((h3 + k3 + e3 : Nat) : Int) := by
    show arith .add .u64 (arith .add .u64 (h3 : Int) (k3 : Int)) (e3 : Int) = _
    rw [a_add, a_add]
    omega
  refine pure_of (ν := nu [n0, n1, n2, n3, a, b, c, d, w, h0, l0, h1, l1, h2, l2, h3, l3, s1, k1, s2, k2, s3, k3, r0, e0, r1, e1, r2, e2, r3, e3]) (noFacts_hold _) mixed tab_ok (fun r hr => ?_) mw_says rfl ?_
  · simp only [mwT, List.mem_cons, List.not_mem_nil, or_false] at hr
    rcases hr with rfl | rfl | rfl | rfl | rfl | rfl | rfl | rfl | rfl | rfl | rfl
    · exact rowM (x := a) (y := w) (z := h0) (k := l0) rfl rfl rfl rfl ba bw q0 p0
    · exact rowM (x := b) (y := w) (z := h1) (k := l1) rfl rfl rfl rfl bb bw q1 p1
    · exact rowM (x := c) (y := w) (z := h2) (k := l2) rfl rfl rfl rfl bc bw q2 p2
    · exact rowM (x := d) (y := w) (z := h3) (k := l3) rfl rfl rfl rfl bd bw q3 p3
    · exact rowA (x := l1) (y := h0) (c := 0) (z := s1) (k := k1) rfl rfl rfl rfl rfl (by omega) f1 g1
    · exact rowA (x := l2) (y := h1) (c := k1) (z := s2) (k := k2) rfl rfl rfl rfl rfl (by omega) f2 g2
    · exact rowA (x := l3) (y := h2) (c := k2) (z := s3) (k := k3) rfl rfl rfl rfl rfl (by omega) f3 g3
    · exact rowA (x := n0) (y := l0) (c := 0) (z := r0) (k := e0) rfl rfl rfl rfl rfl (by omega) t0 u0
    · exact rowA (x := n1) (y := s1) (c := e0) (z := r1) (k := e1) rfl rfl rfl rfl rfl (by omega) t1 u1
    · exact rowA (x := n2) (y := s2) (c := e1) (z := r2) (k := e2) rfl rfl rfl rfl rfl (by omega) t2 u2
    · exact rowA (x := n3) (y := s3) (c := e2) (z := r3) (k := e3) rfl rfl rfl rfl rfl (by omega) t3 u3
  · simp only [conc, concT, conc2, concL, conc1, wd, ov]
    rfl

theorem split_mul4 (x w : Nat) (hx : x < B4) : x * w = w0 x * w + w1 x * w * 18446744073709551616 + w2 x * w * 340282366920938463463374607431768211456 + w3 x * w * 6277101735386680763835789423207666416102355444464034512896 := by
  have hs := split4 x
  rw [Nat.div_eq_of_lt hx, Nat.zero_mul, Nat.add_zero] at hs
  have h2 : x * w = (w0 x + w1 x * 18446744073709551616 + w2 x * 340282366920938463463374607431768211456 + w3 x * 6277101735386680763835789423207666416102355444464034512896) * w := congrArg (· * w) hs
  rw [h2, Nat.add_mul, Nat.add_mul, Nat.add_mul, Nat.mul_right_comm (w1 x), Nat.mul_right_comm (w2 x), Nat.mul_right_comm (w3 x)]

theorem dm (x : Nat) : ∃ q r, q = x / 18446744073709551616 ∧ r = x % 18446744073709551616 ∧ x = r + q * 18446744073709551616 ∧ r < 18446744073709551616 := ⟨_, _, rfl, rfl, by omega, by omega⟩

theorem mw_lin (n0 n1 n2 n3 P Q R S h0 l0 h1 l1 h2 l2 h3 l3 s1 k1 s2 k2 s3 k3 r0 e0 r1 e1 r2 e2 r3 e3 : Nat) (E0 : P = l0 + h0 * 18446744073709551616) (E1 : Q = l1 + h1 * 18446744073709551616) (E2 : R = l2 + h2 * 18446744073709551616) (E3 : S = l3 + h3 * 18446744073709551616)
    (F1 : l1 + h0 + 0 = s1 + k1 * 18446744073709551616) (F2 : l2 + h1 + k1 = s2 + k2 * 18446744073709551616) (F3 : l3 + h2 + k2 = s3 + k3 * 18446744073709551616)
    (G0 : n0 + l0 + 0 = r0 + e0 * 18446744073709551616) (G1 : n1 + s1 + e0 = r1 + e1 * 18446744073709551616) (G2 : n2 + s2 + e1 = r2 + e2 * 18446744073709551616) (G3 : n3 + s3 + e2 = r3 + e3 * 18446744073709551616) :
    n0 + n1 * 18446744073709551616 + n2 * 340282366920938463463374607431768211456 + n3 * 6277101735386680763835789423207666416102355444464034512896 + (P + Q * 18446744073709551616 + R * 340282366920938463463374607431768211456 + S * 6277101735386680763835789423207666416102355444464034512896) =
      r0 + r1 * 18446744073709551616 + r2 * 340282366920938463463374607431768211456 + r3 * 6277101735386680763835789423207666416102355444464034512896 + (h3 + k3 + e3) * 115792089237316195423570985008687907853269984665640564039457584007913129639936 := by
  omega

theorem mw_over (n x w over r0 r1 r2 r3 : Nat) (hn : n < 115792089237316195423570985008687907853269984665640564039457584007913129639936) (hp : x * w ≤ 115792089237316195423570985008687907853269984665640564039457584007913129639935 * 18446744073709551615)
    (h : n + x * w = r0 + r1 * 18446744073709551616 + r2 * 340282366920938463463374607431768211456 + r3 * 6277101735386680763835789423207666416102355444464034512896 + over * 115792089237316195423570985008687907853269984665640564039457584007913129639936) : over < 18446744073709551616 := by
  generalize x * w = p at *
  omega

theorem car1 {x y k q r : Nat} (h : x + y + k = r + q * 18446744073709551616) (hx : x < 18446744073709551616) (hy : y < 18446744073709551616) (hk : k ≤ 1) : q ≤ 1 := by omega

theorem mw_ok (n x w : Nat) (hn : n < B4) (hx : x < B4) (hw : w < 18446744073709551616) : Pure Try.prog 46 [num n, num x, u64 w] (.tuple #[num (n + x * w), u64 ((n + x * w) / B4)]) := by
  have hns := split4 n
  rw [Nat.div_eq_of_lt hn, Nat.zero_mul, Nat.add_zero] at hns
  obtain ⟨m0, m1, m2, m3⟩ := w_lt n
  obtain ⟨b0, b1, b2, b3⟩ := w_lt x
  have hp := split_mul4 x w hx
  have hh : ∀ a h l : Nat, a < 18446744073709551616 → a * w = l + h * 18446744073709551616 → h < 18446744073709551616 := by
    intro a h l ha he
    have v0 : a * w ≤ 18446744073709551615 * 18446744073709551615 := Nat.mul_le_mul (by omega) (by omega)
    omega
  obtain ⟨h0, l0, eh0, el0, E0, d0⟩ := dm (w0 x * w)
  obtain ⟨h1, l1, eh1, el1, E1, d1⟩ := dm (w1 x * w)
  obtain ⟨h2, l2, eh2, el2, E2, d2⟩ := dm (w2 x * w)
  obtain ⟨h3, l3, eh3, el3, E3, d3⟩ := dm (w3 x * w)
  have c0 := hh _ _ _ b0 E0
  have c1 := hh _ _ _ b1 E1
  have c2 := hh _ _ _ b2 E2
  obtain ⟨k1, s1, g1, f1, F1, d4⟩ := dm (l1 + h0 + 0)
  have z1 := car1 F1 d1 c0 (Nat.zero_le _)
  obtain ⟨k2, s2, g2, f2, F2, d5⟩ := dm (l2 + h1 + k1)
  have z2 := car1 F2 d2 c1 z1
  obtain ⟨k3, s3, g3, f3, F3, d6⟩ := dm (l3 + h2 + k2)
  obtain ⟨e0, r0, u0, t0, G0, d7⟩ := dm (w0 n + l0 + 0)
  have y0 := car1 G0 m0 d0 (Nat.zero_le _)
  obtain ⟨e1, r1, u1, t1, G1, d8⟩ := dm (w1 n + s1 + e0)
  have y1 := car1 G1 m1 d4 y0
  obtain ⟨e2, r2, u2, t2, G2, d9⟩ := dm (w2 n + s2 + e1)
  have y2 := car1 G2 m2 d5 y1
  obtain ⟨e3, r3, u3, t3, G3, d10⟩ := dm (w3 n + s3 + e2)
  have key : n + x * w = r0 + r1 * 18446744073709551616 + r2 * 340282366920938463463374607431768211456 + r3 * 6277101735386680763835789423207666416102355444464034512896 + (h3 + k3 + e3) * B4 := by
    rw [hp]
    conv => lhs; rw [hns]
    exact mw_lin _ _ _ _ _ _ _ _ _ _ _ _ _ _ _ _ _ _ _ _ _ _ _ _ _ _ _ _ _ _ E0 E1 E2 E3 F1 F2 F3 G0 G1 G2 G3
  have hB : x ≤ 115792089237316195423570985008687907853269984665640564039457584007913129639935 := by unfold B4 at hx; exact Nat.le_of_lt_succ hx
  have ho : h3 + k3 + e3 < 18446744073709551616 := mw_over n x w _ r0 r1 r2 r3 hn (Nat.mul_le_mul hB (Nat.le_of_lt_succ hw)) key
  refine Pure.to (mw_core (w0 n) (w1 n) (w2 n) (w3 n) (w0 x) (w1 x) (w2 x) (w3 x) w h0 l0 h1 l1 h2 l2 h3 l3 s1 k1 s2 k2 s3 k3 r0 e0 r1 e1 r2 e2 r3 e3 b0 b1 b2 b3 hw eh0 el0 eh1 el1 eh2 el2 eh3 el3 f1 g1 f2 g2 f3 g3 t0 u0 t1 u1 t2 u2 t3 u3 z1 z2 y0 y1 y2 ho) rfl ?_
  rw [(dig4 d7 d8 d9 d10 key).2.2.2.2, num_of d7 d8 d9 d10 key]

end Go.Proofs.Ytlalonomdblhdaa
