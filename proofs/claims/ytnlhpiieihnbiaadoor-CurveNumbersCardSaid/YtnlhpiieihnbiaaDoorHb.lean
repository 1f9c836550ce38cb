/-
  THE PAGE's NUMBERS: Of, Bytes, add, sub, times. Own work.
-/
import Derived.Test.YtnlhpiieihnbiaaDoorHa
namespace Go.Proofs.YtnlhpiieihnbiaaDoor
open Go.Sh
set_option maxRecDepth 100000

/-! Of and Bytes -/

def ofE (k : Nat) : AI := .e .or .u64 (.e .or .u64 (.e .or .u64 (.e .or .u64 (.e .or .u64 (.e .or .u64 (.e .or .u64 (.e .or .u64 (.c (.ofNat 0)) (.e .shl .u64 (.w .u64 (.s k)) (.c (.ofNat 0)))) (.e .shl .u64 (.w .u64 (.s (k + 1))) (.c (.ofNat 8)))) (.e .shl .u64 (.w .u64 (.s (k + 2))) (.c (.ofNat 16)))) (.e .shl .u64 (.w .u64 (.s (k + 3))) (.c (.ofNat 24))))
  (.e .shl .u64 (.w .u64 (.s (k + 4))) (.c (.ofNat 32)))) (.e .shl .u64 (.w .u64 (.s (k + 5))) (.c (.ofNat 40)))) (.e .shl .u64 (.w .u64 (.s (k + 6))) (.c (.ofNat 48)))) (.e .shl .u64 (.w .u64 (.s (k + 7))) (.c (.ofNat 56)))

theorem ofE_val {ν : Nat → Int} {k : Nat} (b0 b1 b2 b3 b4 b5 b6 b7 : Nat) (h0 : ν k = b0) (h1 : ν (k + 1) = b1) (h2 : ν (k + 2) = b2) (h3 : ν (k + 3) = b3) (h4 : ν (k + 4) = b4) (h5 : ν (k + 5) = b5) (h6 : ν (k + 6) = b6) (h7 : ν (k + 7) = b7)
    (l0 : b0 < 256) (l1 : b1 < 256) (l2 : b2 < 256) (l3 : b3 < 256) (l4 : b4 < 256) (l5 : b5 < 256) (l6 : b6 < 256) (l7 : b7 < 256) :
    (ofE k).val ν = ((b0 + 256 * b1 + 65536 * b2 + 16777216 * b3 + 4294967296 * b4 + 1099511627776 * b5 + 281474976710656 * b6 + 72057594037927936 * b7 : Nat) : Int) := by
  show arith .or .u64 (arith .or .u64 (arith .or .u64 (arith .or .u64 (arith .or .u64 (arith .or .u64 (arith .or .u64 (arith .or .u64 ((0 : Nat) : Int) (arith .shl .u64 (IntKind.u64.wrap (ν k)) ((0 : Nat) : Int))) (arith .shl .u64 (IntKind.u64.wrap (ν (k + 1))) ((8 : Nat) : Int))) (arith .shl .u64 (IntKind.u64.wrap (ν (k + 2))) ((16 : Nat) : Int))) (arith .shl .u64 (IntKind.u64.wrap (ν (k + 3))) ((24 : Nat) : Int)))
    (arith .shl .u64 (IntKind.u64.wrap (ν (k + 4))) ((32 : Nat) : Int))) (arith .shl .u64 (IntKind.u64.wrap (ν (k + 5))) ((40 : Nat) : Int))) (arith .shl .u64 (IntKind.u64.wrap (ν (k + 6))) ((48 : Nat) : Int))) (arith .shl .u64 (IntKind.u64.wrap (ν (k + 7))) ((56 : Nat) : Int)) = _
  rw [h0, h1, h2, h3, h4, h5, h6, h7]
  rw [a_orS 0 b0 0 (by decide) (by decide) l0, a_orS _ b1 8 (by decide) (by omega) l1, a_orS _ b2 16 (by decide) (by omega) l2, a_orS _ b3 24 (by decide) (by omega) l3, a_orS _ b4 32 (by decide) (by omega) l4, a_orS _ b5 40 (by decide) (by omega) l5, a_orS _ b6 48 (by decide) (by omega) l6, a_orS _ b7 56 (by decide) (by omega) l7]
  congr 1
  omega

theorem ofE_word {ν : Nat → Int} {k y : Nat} (hy : y < 18446744073709551616) (h0 : ν k = ((y % 256 : Nat) : Int)) (h1 : ν (k + 1) = ((y / 256 % 256 : Nat) : Int)) (h2 : ν (k + 2) = ((y / 65536 % 256 : Nat) : Int)) (h3 : ν (k + 3) = ((y / 16777216 % 256 : Nat) : Int)) (h4 : ν (k + 4) = ((y / 4294967296 % 256 : Nat) : Int))
    (h5 : ν (k + 5) = ((y / 1099511627776 % 256 : Nat) : Int)) (h6 : ν (k + 6) = ((y / 281474976710656 % 256 : Nat) : Int)) (h7 : ν (k + 7) = ((y / 72057594037927936 % 256 : Nat) : Int)) : (ofE k).val ν = (y : Int) := by
  have hm : ∀ z, z % 256 < 256 := fun z => Nat.mod_lt _ (by decide)
  rw [ofE_val _ _ _ _ _ _ _ _ h0 h1 h2 h3 h4 h5 h6 h7 (hm _) (hm _) (hm _) (hm _) (hm _) (hm _) (hm _) (hm _)]
  congr 1
  omega

theorem of_says : says noFacts tree [] 400 3 29 [bs 0] (heap0 [] gmax) (.ag [.i .u64 (ofE 0), .i .u64 (ofE 8), .i .u64 (ofE 16), .i .u64 (ofE 24)]) = true := by kernel_rfl
theorem Of_ok (x : Nat) : Pure Tryd.prog 29 [byt x] (num x) := by
  obtain ⟨l0, l1, l2, l3⟩ := w_lt x
  refine pure_of (ν := nu (byL x)) (noFacts_hold _) mixed tab_ok (fun r hr => by cases hr) of_says rfl ?_
  have e0 : (ofE 0).val (nu (byL x)) = ((Sh.w0 x : Nat) : Int) := ofE_word l0 rfl rfl rfl rfl rfl rfl rfl rfl
  have e1 : (ofE 8).val (nu (byL x)) = ((w1 x : Nat) : Int) := ofE_word l1 rfl rfl rfl rfl rfl rfl rfl rfl
  have e2 : (ofE 16).val (nu (byL x)) = ((w2 x : Nat) : Int) := ofE_word l2 rfl rfl rfl rfl rfl rfl rfl rfl
  have e3 : (ofE 24).val (nu (byL x)) = ((w3 x : Nat) : Int) := ofE_word l3 rfl rfl rfl rfl rfl rfl rfl rfl
  show (concL _ [.i .u64 (ofE 0), .i .u64 (ofE 8), .i .u64 (ofE 16), .i .u64 (ofE 24)]).map (fun vs => Value.agg vs.toArray) = _
  simp only [concL, conc1, e0, e1, e2, e3, Option.map_some]
  rfl

def bytesR : List AV := [lb 0 0, lb 0 8, lb 0 16, lb 0 24, lb 0 32, lb 0 40, lb 0 48, lb 0 56, lb 1 0, lb 1 8, lb 1 16, lb 1 24, lb 1 32, lb 1 40, lb 1 48, lb 1 56, lb 2 0, lb 2 8, lb 2 16, lb 2 24, lb 2 32, lb 2 40, lb 2 48, lb 2 56, lb 3 0, lb 3 8, lb 3 16, lb 3 24, lb 3 32, lb 3 40, lb 3 48, lb 3 56]
theorem bytes_says : says noFacts tree [] 400 3 21 [ns 0] (heap0 [] gmax) (.ag bytesR) = true := by kernel_rfl
theorem Bytes_ok (x : Nat) : Pure Tryd.prog 21 [num x] (byt x) := by
  refine pure_of (ν := nu (numL x)) (noFacts_hold _) mixed tab_ok (fun r hr => by cases hr) bytes_says rfl ?_
  have f0 : nu (numL x) 0 = ((Sh.w0 x : Nat) : Int) := rfl
  have f1 : nu (numL x) 1 = ((w1 x : Nat) : Int) := rfl
  have f2 : nu (numL x) 2 = ((w2 x : Nat) : Int) := rfl
  have f3 : nu (numL x) 3 = ((w3 x : Nat) : Int) := rfl
  show (concL _ bytesR).map (fun vs => Value.agg vs.toArray) = _
  simp only [bytesR, concL, lb_val f0 0 (by decide), lb_val f0 8 (by decide), lb_val f0 16 (by decide), lb_val f0 24 (by decide), lb_val f0 32 (by decide), lb_val f0 40 (by decide), lb_val f0 48 (by decide), lb_val f0 56 (by decide),
    lb_val f1 0 (by decide), lb_val f1 8 (by decide), lb_val f1 16 (by decide), lb_val f1 24 (by decide), lb_val f1 32 (by decide), lb_val f1 40 (by decide), lb_val f1 48 (by decide), lb_val f1 56 (by decide),
    lb_val f2 0 (by decide), lb_val f2 8 (by decide), lb_val f2 16 (by decide), lb_val f2 24 (by decide), lb_val f2 32 (by decide), lb_val f2 40 (by decide), lb_val f2 48 (by decide), lb_val f2 56 (by decide),
    lb_val f3 0 (by decide), lb_val f3 8 (by decide), lb_val f3 16 (by decide), lb_val f3 24 (by decide), lb_val f3 32 (by decide), lb_val f3 40 (by decide), lb_val f3 48 (by decide), lb_val f3 56 (by decide), Option.map_some, Nat.pow_zero, Nat.div_one]
  rfl

/-! add and sub -/

def raddT : List Row := [⟨30, [wd 0, wd 4, c0], .tp [wd 8, wd 9]⟩, ⟨30, [wd 1, wd 5, wd 9], .tp [wd 10, wd 11]⟩, ⟨30, [wd 2, wd 6, wd 11], .tp [wd 12, wd 13]⟩, ⟨30, [wd 3, wd 7, wd 13], .tp [wd 14, wd 15]⟩]
theorem radd_says : says noFacts tree raddT 200 3 37 [ns 0, ns 4] (heap0 [] gmax) (.tp [.ag [wd 8, wd 10, wd 12, wd 14], wd 15]) = true := by kernel_rfl

theorem radd_core (a b c d a' b' c' d' s0 k0 s1 k1 s2 k2 s3 k3 : Nat) (h0 : s0 = (a + a' + 0) % 18446744073709551616) (g0 : k0 = (a + a' + 0) / 18446744073709551616) (h1 : s1 = (b + b' + k0) % 18446744073709551616) (g1 : k1 = (b + b' + k0) / 18446744073709551616)
    (h2 : s2 = (c + c' + k1) % 18446744073709551616) (g2 : k2 = (c + c' + k1) / 18446744073709551616) (h3 : s3 = (d + d' + k2) % 18446744073709551616) (g3 : k3 = (d + d' + k2) / 18446744073709551616) (q0 : k0 ≤ 1) (q1 : k1 ≤ 1) (q2 : k2 ≤ 1) :
    Pure Tryd.prog 37 [n4 a b c d, n4 a' b' c' d'] (.tuple #[n4 s0 s1 s2 s3, u64 k3]) := by
  refine pure_of (ν := nu [a, b, c, d, a', b', c', d', s0, k0, s1, k1, s2, k2, s3, k3]) (noFacts_hold _) mixed tab_ok (fun r hr => ?_) radd_says rfl rfl
  simp only [raddT, List.mem_cons, List.not_mem_nil, or_false] at hr
  rcases hr with rfl | rfl | rfl | rfl
  · exact rowA (x := a) (y := a') (c := 0) (z := s0) (k := k0) rfl rfl rfl rfl rfl (by omega) h0 g0
  · exact rowA (x := b) (y := b') (c := k0) (z := s1) (k := k1) rfl rfl rfl rfl rfl q0 h1 g1
  · exact rowA (x := c) (y := c') (c := k1) (z := s2) (k := k2) rfl rfl rfl rfl rfl q1 h2 g2
  · exact rowA (x := d) (y := d') (c := k2) (z := s3) (k := k3) rfl rfl rfl rfl rfl q2 h3 g3

theorem add_step (a b c s k : Nat) (ha : a < 18446744073709551616) (hb : b < 18446744073709551616) (hc : c ≤ 1) (hs : s = (a + b + c) % 18446744073709551616) (hk : k = (a + b + c) / 18446744073709551616) : s + 18446744073709551616 * k = a + b + c ∧ k ≤ 1 ∧ s < 18446744073709551616 := by omega

theorem add_lin (a b c d a' b' c' d' s0 s1 s2 s3 k0 k1 k2 k3 x y : Nat) (h0 : s0 + 18446744073709551616 * k0 = a + a' + 0) (h1 : s1 + 18446744073709551616 * k1 = b + b' + k0) (h2 : s2 + 18446744073709551616 * k2 = c + c' + k1) (h3 : s3 + 18446744073709551616 * k3 = d + d' + k2)
    (hx : x = a + b * 18446744073709551616 + c * 340282366920938463463374607431768211456 + d * 6277101735386680763835789423207666416102355444464034512896 + 0 * B4) (hy : y = a' + b' * 18446744073709551616 + c' * 340282366920938463463374607431768211456 + d' * 6277101735386680763835789423207666416102355444464034512896 + 0 * B4) :
    x + y = s0 + s1 * 18446744073709551616 + s2 * 340282366920938463463374607431768211456 + s3 * 6277101735386680763835789423207666416102355444464034512896 + k3 * B4 := by
  unfold B4 at *
  omega

theorem radd_ok (x y : Nat) (hx : x < B4) (hy : y < B4) : Pure Tryd.prog 37 [num x, num y] (.tuple #[num (x + y), u64 ((x + y) / B4)]) := by
  have sx := split4 x
  rw [Nat.div_eq_of_lt hx] at sx
  have sy := split4 y
  rw [Nat.div_eq_of_lt hy] at sy
  obtain ⟨l0, l1, l2, l3⟩ := w_lt x
  obtain ⟨m0, m1, m2, m3⟩ := w_lt y
  obtain ⟨a0, a1, a2⟩ := add_step (Sh.w0 x) (Sh.w0 y) 0 _ _ l0 m0 (by decide) rfl rfl
  obtain ⟨b0, b1, b2⟩ := add_step (w1 x) (w1 y) _ _ _ l1 m1 a1 rfl rfl
  obtain ⟨c0, c1, c2⟩ := add_step (w2 x) (w2 y) _ _ _ l2 m2 b1 rfl rfl
  obtain ⟨d0, d1, d2⟩ := add_step (w3 x) (w3 y) _ _ _ l3 m3 c1 rfl rfl
  have key := add_lin _ _ _ _ _ _ _ _ _ _ _ _ _ _ _ _ x y a0 b0 c0 d0 sx sy
  refine Pure.to (radd_core (Sh.w0 x) (w1 x) (w2 x) (w3 x) (Sh.w0 y) (w1 y) (w2 y) (w3 y) _ _ _ _ _ _ _ _ rfl rfl rfl rfl rfl rfl rfl rfl a1 b1 c1) rfl ?_
  rw [num_of a2 b2 c2 d2 key, (dig4 a2 b2 c2 d2 key).2.2.2.2]

def rsubT : List Row := [⟨39, [wd 0, wd 4, c0], .tp [wd 8, wd 9]⟩, ⟨39, [wd 1, wd 5, wd 9], .tp [wd 10, wd 11]⟩, ⟨39, [wd 2, wd 6, wd 11], .tp [wd 12, wd 13]⟩, ⟨39, [wd 3, wd 7, wd 13], .tp [wd 14, wd 15]⟩]
theorem rsub_says : says noFacts tree rsubT 200 3 38 [ns 0, ns 4] (heap0 [] gmax) (.tp [.ag [wd 8, wd 10, wd 12, wd 14], wd 15]) = true := by kernel_rfl

theorem rsub_core (a b c d a' b' c' d' s0 k0 s1 k1 s2 k2 s3 k3 : Nat) (h0 : s0 = (a + 18446744073709551616 - a' - 0) % 18446744073709551616) (g0 : k0 = if a < a' + 0 then 1 else 0) (h1 : s1 = (b + 18446744073709551616 - b' - k0) % 18446744073709551616) (g1 : k1 = if b < b' + k0 then 1 else 0)
    (h2 : s2 = (c + 18446744073709551616 - c' - k1) % 18446744073709551616) (g2 : k2 = if c < c' + k1 then 1 else 0) (h3 : s3 = (d + 18446744073709551616 - d' - k2) % 18446744073709551616) (g3 : k3 = if d < d' + k2 then 1 else 0) (q0 : k0 ≤ 1) (q1 : k1 ≤ 1) (q2 : k2 ≤ 1) :
    Pure Tryd.prog 38 [n4 a b c d, n4 a' b' c' d'] (.tuple #[n4 s0 s1 s2 s3, u64 k3]) := by
  refine pure_of (ν := nu [a, b, c, d, a', b', c', d', s0, k0, s1, k1, s2, k2, s3, k3]) (noFacts_hold _) mixed tab_ok (fun r hr => ?_) rsub_says rfl rfl
  simp only [rsubT, List.mem_cons, List.not_mem_nil, or_false] at hr
  rcases hr with rfl | rfl | rfl | rfl
  · exact rowS (x := a) (y := a') (c := 0) (z := s0) (k := k0) rfl rfl rfl rfl rfl (by omega) h0 g0
  · exact rowS (x := b) (y := b') (c := k0) (z := s1) (k := k1) rfl rfl rfl rfl rfl q0 h1 g1
  · exact rowS (x := c) (y := c') (c := k1) (z := s2) (k := k2) rfl rfl rfl rfl rfl q1 h2 g2
  · exact rowS (x := d) (y := d') (c := k2) (z := s3) (k := k3) rfl rfl rfl rfl rfl q2 h3 g3

theorem sub_step (a b c s k : Nat) (ha : a < 18446744073709551616) (hb : b < 18446744073709551616) (hc : c ≤ 1) (hs : s = (a + 18446744073709551616 - b - c) % 18446744073709551616) (hk : k = if a < b + c then 1 else 0) : s + b + c = a + 18446744073709551616 * k ∧ k ≤ 1 ∧ s < 18446744073709551616 := by
  split at hk <;> omega

theorem sub_lin (a b c d a' b' c' d' s0 s1 s2 s3 k0 k1 k2 k3 x y : Nat) (h0 : s0 + a' + 0 = a + 18446744073709551616 * k0) (h1 : s1 + b' + k0 = b + 18446744073709551616 * k1) (h2 : s2 + c' + k1 = c + 18446744073709551616 * k2) (h3 : s3 + d' + k2 = d + 18446744073709551616 * k3)
    (hx : x = a + b * 18446744073709551616 + c * 340282366920938463463374607431768211456 + d * 6277101735386680763835789423207666416102355444464034512896 + 0 * B4) (hy : y = a' + b' * 18446744073709551616 + c' * 340282366920938463463374607431768211456 + d' * 6277101735386680763835789423207666416102355444464034512896 + 0 * B4) :
    s0 + s1 * 18446744073709551616 + s2 * 340282366920938463463374607431768211456 + s3 * 6277101735386680763835789423207666416102355444464034512896 + y = x + k3 * B4 := by
  unfold B4 at *
  omega

theorem radd_of {s0 s1 s2 s3 : Nat} (h0 : s0 < 18446744073709551616) (h1 : s1 < 18446744073709551616) (h2 : s2 < 18446744073709551616) (h3 : s3 < 18446744073709551616) :
    n4 s0 s1 s2 s3 = num (s0 + s1 * 18446744073709551616 + s2 * 340282366920938463463374607431768211456 + s3 * 6277101735386680763835789423207666416102355444464034512896) ∧ s0 + s1 * 18446744073709551616 + s2 * 340282366920938463463374607431768211456 + s3 * 6277101735386680763835789423207666416102355444464034512896 < B4 := by
  refine ⟨num_of (e := 0) h0 h1 h2 h3 (by omega), ?_⟩
  unfold B4
  omega

theorem rsub_ok (x y : Nat) (hx : x < B4) (hy : y < B4) : ∃ s k, s < B4 ∧ k ≤ 1 ∧ s + y = x + k * B4 ∧ Pure Tryd.prog 38 [num x, num y] (.tuple #[num s, u64 k]) := by
  have sx := split4 x
  rw [Nat.div_eq_of_lt hx] at sx
  have sy := split4 y
  rw [Nat.div_eq_of_lt hy] at sy
  obtain ⟨l0, l1, l2, l3⟩ := w_lt x
  obtain ⟨m0, m1, m2, m3⟩ := w_lt y
  obtain ⟨a0, a1, a2⟩ := sub_step (Sh.w0 x) (Sh.w0 y) 0 _ _ l0 m0 (by decide) rfl rfl
  obtain ⟨b0, b1, b2⟩ := sub_step (w1 x) (w1 y) _ _ _ l1 m1 a1 rfl rfl
  obtain ⟨c0, c1, c2⟩ := sub_step (w2 x) (w2 y) _ _ _ l2 m2 b1 rfl rfl
  obtain ⟨d0, d1, d2⟩ := sub_step (w3 x) (w3 y) _ _ _ l3 m3 c1 rfl rfl
  have key := sub_lin _ _ _ _ _ _ _ _ _ _ _ _ _ _ _ _ x y a0 b0 c0 d0 sx sy
  have h := radd_of a2 b2 c2 d2
  exact ⟨_, _, h.2, d1, key, h.1 ▸ rsub_core (Sh.w0 x) (w1 x) (w2 x) (w3 x) (Sh.w0 y) (w1 y) (w2 y) (w3 y) _ _ _ _ _ _ _ _ rfl rfl rfl rfl rfl rfl rfl rfl a1 b1 c1⟩

theorem rsub_ge (x y : Nat) (hx : x < B4) (hl : y ≤ x) : Pure Tryd.prog 38 [num x, num y] (.tuple #[num (x - y), u64 0]) := by
  obtain ⟨s, k, h1, h2, h3, h4⟩ := rsub_ok x y hx (Nat.lt_of_le_of_lt hl hx)
  have hk : k = 0 := by unfold B4 at *; omega
  subst hk
  have hs : s = x - y := by omega
  rwa [hs] at h4

theorem rsub_lt (x y : Nat) (hy : y < B4) (hl : x < y) : Pure Tryd.prog 38 [num x, num y] (.tuple #[num (x + B4 - y), u64 1]) := by
  obtain ⟨s, k, h1, h2, h3, h4⟩ := rsub_ok x y (Nat.lt_trans hl hy) hy
  have hk : k = 1 := by unfold B4 at *; omega
  subst hk
  have hs : s = x + B4 - y := by omega
  rwa [hs] at h4

theorem rowSubGe {ν : Nat → Int} {p q r : AV} {x y : Nat} (hx : x < B4) (hl : y ≤ x) (h1 : conc2 ν p = some (num x)) (h2 : conc2 ν q = some (num y)) (h3 : conc2 ν r = some (num (x - y))) : Row.Ok ν Tryd.prog ⟨38, [p, q], .tp [r, cK 0]⟩ :=
  ⟨[num x, num y], .tuple #[num (x - y), u64 0], by simp [concT, h1, h2], by simp [conc, concT, h3]; rfl, rsub_ge x y hx hl⟩
theorem rowSubLt {ν : Nat → Int} {p q r : AV} {x y : Nat} (hy : y < B4) (hl : x < y) (h1 : conc2 ν p = some (num x)) (h2 : conc2 ν q = some (num y)) (h3 : conc2 ν r = some (num (x + B4 - y))) : Row.Ok ν Tryd.prog ⟨38, [p, q], .tp [r, cK 1]⟩ :=
  ⟨[num x, num y], .tuple #[num (x + B4 - y), u64 1], by simp [concT, h1, h2], by simp [conc, concT, h3]; rfl, rsub_lt x y hy hl⟩
theorem rowAddR {ν : Nat → Int} {p q r : AV} {x y : Nat} (hx : x < B4) (hy : y < B4) (hl : x + y < B4) (h1 : conc2 ν p = some (num x)) (h2 : conc2 ν q = some (num y)) (h3 : conc2 ν r = some (num (x + y))) : Row.Ok ν Tryd.prog ⟨37, [p, q], .tp [r, cK 0]⟩ :=
  ⟨[num x, num y], .tuple #[num (x + y), u64 0], by simp [concT, h1, h2], by simp [conc, concT, h3]; rfl, by have h := radd_ok x y hx hy; rwa [Nat.div_eq_of_lt hl] at h⟩

/-! Mod, Add and Sub -/

def kar (n : Nat) : AV := .i .u64 (.e .add .u64 (.e .add .u64 (.s n) (.s (n + 3))) (.s (n + 5)))
theorem kar_val {ν : Nat → Int} {n h c d C : Nat} (e1 : ν n = (h : Int)) (e2 : ν (n + 3) = (c : Int)) (e3 : ν (n + 5) = (d : Int)) (hC : C = h + c + d) (hl : C < 18446744073709551616) : (AI.e .add .u64 (.e .add .u64 (.s n) (.s (n + 3))) (.s (n + 5))).val ν = (C : Int) := by
  show arith .add .u64 (arith .add .u64 (ν n) (ν (n + 3))) (ν (n + 5)) = _
  rw [e1, e2, e3, a_add, a_add, Nat.mod_eq_of_lt (show h + c < 18446744073709551616 by omega), Nat.mod_eq_of_lt (show h + c + d < 18446744073709551616 by omega), hC]
theorem kar_conc {ν : Nat → Int} {n h c d C : Nat} (e1 : ν n = (h : Int)) (e2 : ν (n + 3) = (c : Int)) (e3 : ν (n + 5) = (d : Int)) (hC : C = h + c + d) (hl : C < 18446744073709551616) : conc2 ν (kar n) = some (u64 C) :=
  congrArg (fun z => some (Value.int .u64 z)) (kar_val e1 e2 e3 hC hl)
theorem kar_conc1 {ν : Nat → Int} {n h c d C : Nat} (e1 : ν n = (h : Int)) (e2 : ν (n + 3) = (c : Int)) (e3 : ν (n + 5) = (d : Int)) (hC : C = h + c + d) (hl : C < 18446744073709551616) : conc1 ν (kar n) = some (u64 C) :=
  congrArg (fun z => some (Value.int .u64 z)) (kar_val e1 e2 e3 hC hl)

/-- One step of the product: what is made of a digit of each, of what stood there and of what is carried. -/
structure Step (a b o q h l s c t d C : Nat) : Prop where
  ha : a < 18446744073709551616
  hb : b < 18446744073709551616
  eh : h = a * b / 18446744073709551616
  el : l = a * b % 18446744073709551616
  es : s = (l + o + 0) % 18446744073709551616
  ec : c = (l + o + 0) / 18446744073709551616
  et : t = (s + q + 0) % 18446744073709551616
  ed : d = (s + q + 0) / 18446744073709551616
  eC : C = h + c + d
  lC : C < 18446744073709551616
  lt : t < 18446744073709551616
  all : t + 18446744073709551616 * C = a * b + o + q

theorem step_of (a b o q : Nat) (ha : a < 18446744073709551616) (hb : b < 18446744073709551616) (ho : o < 18446744073709551616) (hq : q < 18446744073709551616) : ∃ h l s c t d C, Step a b o q h l s c t d C := by
  have hp : a * b ≤ 18446744073709551615 * 18446744073709551615 := Nat.mul_le_mul (by omega) (by omega)
  obtain ⟨p, ep⟩ : ∃ p, p = a * b := ⟨_, rfl⟩
  rw [← ep] at hp
  refine ⟨_, _, _, _, _, _, _, ⟨ha, hb, rfl, rfl, rfl, rfl, rfl, rfl, rfl, ?_, ?_, ?_⟩⟩
  · rw [← ep]; clear ep; omega
  · exact Nat.mod_lt _ (by decide)
  · rw [← ep]; clear ep; omega

def timesT : List Row := [⟨40, [wd 0, wd 4], .tp [wd 8, wd 9]⟩, ⟨30, [wd 9, c0, c0], .tp [wd 10, wd 11]⟩, ⟨30, [wd 10, c0, c0], .tp [wd 12, wd 13]⟩, ⟨40, [wd 0, wd 5], .tp [wd 14, wd 15]⟩, ⟨30, [wd 15, c0, c0], .tp [wd 16, wd 17]⟩, ⟨30, [wd 16, kar 8, c0], .tp [wd 18, wd 19]⟩, ⟨40, [wd 0, wd 6], .tp [wd 20, wd 21]⟩, ⟨30, [wd 21, c0, c0], .tp [wd 22, wd 23]⟩, ⟨30, [wd 22, kar 14, c0], .tp [wd 24, wd 25]⟩, ⟨40, [wd 0, wd 7], .tp [wd 26, wd 27]⟩, ⟨30, [wd 27, c0, c0], .tp [wd 28, wd 29]⟩, ⟨30, [wd 28, kar 20, c0], .tp [wd 30, wd 31]⟩, ⟨40, [wd 1, wd 4], .tp [wd 32, wd 33]⟩, ⟨30, [wd 33, wd 18, c0], .tp [wd 34, wd 35]⟩, ⟨30, [wd 34, c0, c0], .tp [wd 36, wd 37]⟩, ⟨40, [wd 1, wd 5], .tp [wd 38, wd 39]⟩, ⟨30, [wd 39, wd 24, c0], .tp [wd 40, wd 41]⟩, ⟨30, [wd 40, kar 32, c0], .tp [wd 42, wd 43]⟩, ⟨40, [wd 1, wd 6], .tp [wd 44, wd 45]⟩, ⟨30, [wd 45, wd 30, c0], .tp [wd 46, wd 47]⟩, ⟨30, [wd 46, kar 38, c0], .tp [wd 48, wd 49]⟩, ⟨40, [wd 1, wd 7], .tp [wd 50, wd 51]⟩, ⟨30, [wd 51, kar 26, c0], .tp [wd 52, wd 53]⟩, ⟨30, [wd 52, kar 44, c0], .tp [wd 54, wd 55]⟩, ⟨40, [wd 2, wd 4], .tp [wd 56, wd 57]⟩, ⟨30, [wd 57, wd 42, c0], .tp [wd 58, wd 59]⟩, ⟨30, [wd 58, c0, c0], .tp [wd 60, wd 61]⟩, ⟨40, [wd 2, wd 5], .tp [wd 62, wd 63]⟩, ⟨30, [wd 63, wd 48, c0], .tp [wd 64, wd 65]⟩, ⟨30, [wd 64, kar 56, c0], .tp [wd 66, wd 67]⟩, ⟨40, [wd 2, wd 6], .tp [wd 68, wd 69]⟩, ⟨30, [wd 69, wd 54, c0], .tp [wd 70, wd 71]⟩, ⟨30, [wd 70, kar 62, c0], .tp [wd 72, wd 73]⟩, ⟨40, [wd 2, wd 7], .tp [wd 74, wd 75]⟩, ⟨30, [wd 75, kar 50, c0], .tp [wd 76, wd 77]⟩, ⟨30, [wd 76, kar 68, c0], .tp [wd 78, wd 79]⟩, ⟨40, [wd 3, wd 4], .tp [wd 80, wd 81]⟩, ⟨30, [wd 81, wd 66, c0], .tp [wd 82, wd 83]⟩, ⟨30, [wd 82, c0, c0], .tp [wd 84, wd 85]⟩, ⟨40, [wd 3, wd 5], .tp [wd 86, wd 87]⟩, ⟨30, [wd 87, wd 72, c0], .tp [wd 88, wd 89]⟩, ⟨30, [wd 88, kar 80, c0], .tp [wd 90, wd 91]⟩, ⟨40, [wd 3, wd 6], .tp [wd 92, wd 93]⟩, ⟨30, [wd 93, wd 78, c0], .tp [wd 94, wd 95]⟩, ⟨30, [wd 94, kar 86, c0], .tp [wd 96, wd 97]⟩, ⟨40, [wd 3, wd 7], .tp [wd 98, wd 99]⟩, ⟨30, [wd 99, kar 74, c0], .tp [wd 100, wd 101]⟩, ⟨30, [wd 100, kar 92, c0], .tp [wd 102, wd 103]⟩]
theorem rtimes_says : says noFacts tree timesT 900 3 28 [ns 0, ns 4] (heap0 [] gmax) (.ag [wd 12, wd 36, wd 60, wd 84, wd 90, wd 96, wd 102, kar 98]) = true := by kernel_rfl
theorem rtimes_core (a0 a1 a2 a3 b0 b1 b2 b3 h00 l00 s00 c00 t00 d00 C00 h01 l01 s01 c01 t01 d01 C01 h02 l02 s02 c02 t02 d02 C02 h03 l03 s03 c03 t03 d03 C03 h10 l10 s10 c10 t10 d10 C10 h11 l11 s11 c11 t11 d11 C11 h12 l12 s12 c12 t12 d12 C12 h13 l13 s13 c13 t13 d13 C13 h20 l20 s20 c20 t20 d20 C20 h21 l21 s21 c21 t21 d21 C21 h22 l22 s22 c22 t22 d22 C22 h23 l23 s23 c23 t23 d23 C23 h30 l30 s30 c30 t30 d30 C30 h31 l31 s31 c31 t31 d31 C31 h32 l32 s32 c32 t32 d32 C32 h33 l33 s33 c33 t33 d33 C33 : Nat)
    (S00 : Step a0 b0 0 0 h00 l00 s00 c00 t00 d00 C00) (S01 : Step a0 b1 0 C00 h01 l01 s01 c01 t01 d01 C01) (S02 : Step a0 b2 0 C01 h02 l02 s02 c02 t02 d02 C02) (S03 : Step a0 b3 0 C02 h03 l03 s03 c03 t03 d03 C03) (S10 : Step a1 b0 t01 0 h10 l10 s10 c10 t10 d10 C10) (S11 : Step a1 b1 t02 C10 h11 l11 s11 c11 t11 d11 C11) (S12 : Step a1 b2 t03 C11 h12 l12 s12 c12 t12 d12 C12) (S13 : Step a1 b3 C03 C12 h13 l13 s13 c13 t13 d13 C13) (S20 : Step a2 b0 t11 0 h20 l20 s20 c20 t20 d20 C20) (S21 : Step a2 b1 t12 C20 h21 l21 s21 c21 t21 d21 C21) (S22 : Step a2 b2 t13 C21 h22 l22 s22 c22 t22 d22 C22) (S23 : Step a2 b3 C13 C22 h23 l23 s23 c23 t23 d23 C23) (S30 : Step a3 b0 t21 0 h30 l30 s30 c30 t30 d30 C30) (S31 : Step a3 b1 t22 C30 h31 l31 s31 c31 t31 d31 C31) (S32 : Step a3 b2 t23 C31 h32 l32 s32 c32 t32 d32 C32) (S33 : Step a3 b3 C23 C32 h33 l33 s33 c33 t33 d33 C33) :
    Pure Tryd.prog 28 [n4 a0 a1 a2 a3, n4 b0 b1 b2 b3] (.agg #[u64 t00, u64 t10, u64 t20, u64 t30, u64 t31, u64 t32, u64 t33, u64 C33]) := by
  refine Pure.to (u := .agg #[u64 t00, u64 t10, u64 t20, u64 t30, u64 t31, u64 t32, u64 t33, .int .u64 ((AI.e .add .u64 (.e .add .u64 (.s 98) (.s 101)) (.s 103)).val (nu [a0, a1, a2, a3, b0, b1, b2, b3, h00, l00, s00, c00, t00, d00, h01, l01, s01, c01, t01, d01, h02, l02, s02, c02, t02, d02, h03, l03, s03, c03, t03, d03, h10, l10, s10, c10, t10, d10, h11, l11, s11, c11, t11, d11, h12, l12, s12, c12, t12, d12, h13, l13, s13, c13, t13, d13, h20, l20, s20, c20, t20, d20, h21, l21, s21, c21, t21, d21, h22, l22, s22, c22, t22, d22, h23, l23, s23, c23, t23, d23, h30, l30, s30, c30, t30, d30, h31, l31, s31, c31, t31, d31, h32, l32, s32, c32, t32, d32, h33, l33, s33, c33, t33, d33]))]) (pure_of (ν := nu [a0, a1, a2, a3, b0, b1, b2, b3, h00, l00, s00, c00, t00, d00, h01, l01, s01, c01, t01, d01, h02, l02, s02, c02, t02, d02, h03, l03, s03, c03, t03, d03, h10, l10, s10, c10, t10, d10, h11, l11, s11, c11, t11, d11, h12, l12, s12, c12, t12, d12, h13, l13, s13, c13, t13, d13, h20, l20, s20, c20, t20, d20, h21, l21, s21, c21, t21, d21, h22, l22, s22, c22, t22, d22, h23, l23, s23, c23, t23, d23, h30, l30, s30, c30, t30, d30, h31, l31, s31, c31, t31, d31, h32, l32, s32, c32, t32, d32, h33, l33, s33, c33, t33, d33]) (noFacts_hold _) mixed tab_ok (fun r hr => ?_) rtimes_says (by kernel_rfl) (by kernel_rfl)) rfl ?_
  rotate_left
  · have e : (AI.e .add .u64 (.e .add .u64 (.s 98) (.s 101)) (.s 103)).val (nu [a0, a1, a2, a3, b0, b1, b2, b3, h00, l00, s00, c00, t00, d00, h01, l01, s01, c01, t01, d01, h02, l02, s02, c02, t02, d02, h03, l03, s03, c03, t03, d03, h10, l10, s10, c10, t10, d10, h11, l11, s11, c11, t11, d11, h12, l12, s12, c12, t12, d12, h13, l13, s13, c13, t13, d13, h20, l20, s20, c20, t20, d20, h21, l21, s21, c21, t21, d21, h22, l22, s22, c22, t22, d22, h23, l23, s23, c23, t23, d23, h30, l30, s30, c30, t30, d30, h31, l31, s31, c31, t31, d31, h32, l32, s32, c32, t32, d32, h33, l33, s33, c33, t33, d33]) = (C33 : Int) := kar_val (n := 98) (h := h33) (c := c33) (d := d33) (by kernel_rfl) (by kernel_rfl) (by kernel_rfl) S33.eC S33.lC
    rw [e]
    rfl
  simp only [timesT, List.mem_cons, List.not_mem_nil, or_false] at hr
  rcases hr with rfl | rfl | rfl | rfl | rfl | rfl | rfl | rfl | rfl | rfl | rfl | rfl | rfl | rfl | rfl | rfl | rfl | rfl | rfl | rfl | rfl | rfl | rfl | rfl | rfl | rfl | rfl | rfl | rfl | rfl | rfl | rfl | rfl | rfl | rfl | rfl | rfl | rfl | rfl | rfl | rfl | rfl | rfl | rfl | rfl | rfl | rfl | rfl
  · exact rowM (x := a0) (y := b0) (z := h00) (k := l00) (by kernel_rfl) (by kernel_rfl) (by kernel_rfl) (by kernel_rfl) S00.ha S00.hb S00.eh S00.el
  · exact rowA (x := l00) (y := 0) (c := 0) (z := s00) (k := c00) (by kernel_rfl) (by kernel_rfl) (by kernel_rfl) (by kernel_rfl) (by kernel_rfl) (by decide) S00.es S00.ec
  · exact rowA (x := s00) (y := 0) (c := 0) (z := t00) (k := d00) (by kernel_rfl) (by kernel_rfl) (by kernel_rfl) (by kernel_rfl) (by kernel_rfl) (by decide) S00.et S00.ed
  · exact rowM (x := a0) (y := b1) (z := h01) (k := l01) (by kernel_rfl) (by kernel_rfl) (by kernel_rfl) (by kernel_rfl) S01.ha S01.hb S01.eh S01.el
  · exact rowA (x := l01) (y := 0) (c := 0) (z := s01) (k := c01) (by kernel_rfl) (by kernel_rfl) (by kernel_rfl) (by kernel_rfl) (by kernel_rfl) (by decide) S01.es S01.ec
  · exact rowA (x := s01) (y := C00) (c := 0) (z := t01) (k := d01) (by kernel_rfl) (kar_conc (h := h00) (c := c00) (d := d00) (by kernel_rfl) (by kernel_rfl) (by kernel_rfl) S00.eC S00.lC) (by kernel_rfl) (by kernel_rfl) (by kernel_rfl) (by decide) S01.et S01.ed
  · exact rowM (x := a0) (y := b2) (z := h02) (k := l02) (by kernel_rfl) (by kernel_rfl) (by kernel_rfl) (by kernel_rfl) S02.ha S02.hb S02.eh S02.el
  · exact rowA (x := l02) (y := 0) (c := 0) (z := s02) (k := c02) (by kernel_rfl) (by kernel_rfl) (by kernel_rfl) (by kernel_rfl) (by kernel_rfl) (by decide) S02.es S02.ec
  · exact rowA (x := s02) (y := C01) (c := 0) (z := t02) (k := d02) (by kernel_rfl) (kar_conc (h := h01) (c := c01) (d := d01) (by kernel_rfl) (by kernel_rfl) (by kernel_rfl) S01.eC S01.lC) (by kernel_rfl) (by kernel_rfl) (by kernel_rfl) (by decide) S02.et S02.ed
  · exact rowM (x := a0) (y := b3) (z := h03) (k := l03) (by kernel_rfl) (by kernel_rfl) (by kernel_rfl) (by kernel_rfl) S03.ha S03.hb S03.eh S03.el
  · exact rowA (x := l03) (y := 0) (c := 0) (z := s03) (k := c03) (by kernel_rfl) (by kernel_rfl) (by kernel_rfl) (by kernel_rfl) (by kernel_rfl) (by decide) S03.es S03.ec
  · exact rowA (x := s03) (y := C02) (c := 0) (z := t03) (k := d03) (by kernel_rfl) (kar_conc (h := h02) (c := c02) (d := d02) (by kernel_rfl) (by kernel_rfl) (by kernel_rfl) S02.eC S02.lC) (by kernel_rfl) (by kernel_rfl) (by kernel_rfl) (by decide) S03.et S03.ed
  · exact rowM (x := a1) (y := b0) (z := h10) (k := l10) (by kernel_rfl) (by kernel_rfl) (by kernel_rfl) (by kernel_rfl) S10.ha S10.hb S10.eh S10.el
  · exact rowA (x := l10) (y := t01) (c := 0) (z := s10) (k := c10) (by kernel_rfl) (by kernel_rfl) (by kernel_rfl) (by kernel_rfl) (by kernel_rfl) (by decide) S10.es S10.ec
  · exact rowA (x := s10) (y := 0) (c := 0) (z := t10) (k := d10) (by kernel_rfl) (by kernel_rfl) (by kernel_rfl) (by kernel_rfl) (by kernel_rfl) (by decide) S10.et S10.ed
  · exact rowM (x := a1) (y := b1) (z := h11) (k := l11) (by kernel_rfl) (by kernel_rfl) (by kernel_rfl) (by kernel_rfl) S11.ha S11.hb S11.eh S11.el
  · exact rowA (x := l11) (y := t02) (c := 0) (z := s11) (k := c11) (by kernel_rfl) (by kernel_rfl) (by kernel_rfl) (by kernel_rfl) (by kernel_rfl) (by decide) S11.es S11.ec
  · exact rowA (x := s11) (y := C10) (c := 0) (z := t11) (k := d11) (by kernel_rfl) (kar_conc (h := h10) (c := c10) (d := d10) (by kernel_rfl) (by kernel_rfl) (by kernel_rfl) S10.eC S10.lC) (by kernel_rfl) (by kernel_rfl) (by kernel_rfl) (by decide) S11.et S11.ed
  · exact rowM (x := a1) (y := b2) (z := h12) (k := l12) (by kernel_rfl) (by kernel_rfl) (by kernel_rfl) (by kernel_rfl) S12.ha S12.hb S12.eh S12.el
  · exact rowA (x := l12) (y := t03) (c := 0) (z := s12) (k := c12) (by kernel_rfl) (by kernel_rfl) (by kernel_rfl) (by kernel_rfl) (by kernel_rfl) (by decide) S12.es S12.ec
  · exact rowA (x := s12) (y := C11) (c := 0) (z := t12) (k := d12) (by kernel_rfl) (kar_conc (h := h11) (c := c11) (d := d11) (by kernel_rfl) (by kernel_rfl) (by kernel_rfl) S11.eC S11.lC) (by kernel_rfl) (by kernel_rfl) (by kernel_rfl) (by decide) S12.et S12.ed
  · exact rowM (x := a1) (y := b3) (z := h13) (k := l13) (by kernel_rfl) (by kernel_rfl) (by kernel_rfl) (by kernel_rfl) S13.ha S13.hb S13.eh S13.el
  · exact rowA (x := l13) (y := C03) (c := 0) (z := s13) (k := c13) (by kernel_rfl) (kar_conc (h := h03) (c := c03) (d := d03) (by kernel_rfl) (by kernel_rfl) (by kernel_rfl) S03.eC S03.lC) (by kernel_rfl) (by kernel_rfl) (by kernel_rfl) (by decide) S13.es S13.ec
  · exact rowA (x := s13) (y := C12) (c := 0) (z := t13) (k := d13) (by kernel_rfl) (kar_conc (h := h12) (c := c12) (d := d12) (by kernel_rfl) (by kernel_rfl) (by kernel_rfl) S12.eC S12.lC) (by kernel_rfl) (by kernel_rfl) (by kernel_rfl) (by decide) S13.et S13.ed
  · exact rowM (x := a2) (y := b0) (z := h20) (k := l20) (by kernel_rfl) (by kernel_rfl) (by kernel_rfl) (by kernel_rfl) S20.ha S20.hb S20.eh S20.el
  · exact rowA (x := l20) (y := t11) (c := 0) (z := s20) (k := c20) (by kernel_rfl) (by kernel_rfl) (by kernel_rfl) (by kernel_rfl) (by kernel_rfl) (by decide) S20.es S20.ec
  · exact rowA (x := s20) (y := 0) (c := 0) (z := t20) (k := d20) (by kernel_rfl) (by kernel_rfl) (by kernel_rfl) (by kernel_rfl) (by kernel_rfl) (by decide) S20.et S20.ed
  · exact rowM (x := a2) (y := b1) (z := h21) (k := l21) (by kernel_rfl) (by kernel_rfl) (by kernel_rfl) (by kernel_rfl) S21.ha S21.hb S21.eh S21.el
  · exact rowA (x := l21) (y := t12) (c := 0) (z := s21) (k := c21) (by kernel_rfl) (by kernel_rfl) (by kernel_rfl) (by kernel_rfl) (by kernel_rfl) (by decide) S21.es S21.ec
  · exact rowA (x := s21) (y := C20) (c := 0) (z := t21) (k := d21) (by kernel_rfl) (kar_conc (h := h20) (c := c20) (d := d20) (by kernel_rfl) (by kernel_rfl) (by kernel_rfl) S20.eC S20.lC) (by kernel_rfl) (by kernel_rfl) (by kernel_rfl) (by decide) S21.et S21.ed
  · exact rowM (x := a2) (y := b2) (z := h22) (k := l22) (by kernel_rfl) (by kernel_rfl) (by kernel_rfl) (by kernel_rfl) S22.ha S22.hb S22.eh S22.el
  · exact rowA (x := l22) (y := t13) (c := 0) (z := s22) (k := c22) (by kernel_rfl) (by kernel_rfl) (by kernel_rfl) (by kernel_rfl) (by kernel_rfl) (by decide) S22.es S22.ec
  · exact rowA (x := s22) (y := C21) (c := 0) (z := t22) (k := d22) (by kernel_rfl) (kar_conc (h := h21) (c := c21) (d := d21) (by kernel_rfl) (by kernel_rfl) (by kernel_rfl) S21.eC S21.lC) (by kernel_rfl) (by kernel_rfl) (by kernel_rfl) (by decide) S22.et S22.ed
  · exact rowM (x := a2) (y := b3) (z := h23) (k := l23) (by kernel_rfl) (by kernel_rfl) (by kernel_rfl) (by kernel_rfl) S23.ha S23.hb S23.eh S23.el
  · exact rowA (x := l23) (y := C13) (c := 0) (z := s23) (k := c23) (by kernel_rfl) (kar_conc (h := h13) (c := c13) (d := d13) (by kernel_rfl) (by kernel_rfl) (by kernel_rfl) S13.eC S13.lC) (by kernel_rfl) (by kernel_rfl) (by kernel_rfl) (by decide) S23.es S23.ec
  · exact rowA (x := s23) (y := C22) (c := 0) (z := t23) (k := d23) (by kernel_rfl) (kar_conc (h := h22) (c := c22) (d := d22) (by kernel_rfl) (by kernel_rfl) (by kernel_rfl) S22.eC S22.lC) (by kernel_rfl) (by kernel_rfl) (by kernel_rfl) (by decide) S23.et S23.ed
  · exact rowM (x := a3) (y := b0) (z := h30) (k := l30) (by kernel_rfl) (by kernel_rfl) (by kernel_rfl) (by kernel_rfl) S30.ha S30.hb S30.eh S30.el
  · exact rowA (x := l30) (y := t21) (c := 0) (z := s30) (k := c30) (by kernel_rfl) (by kernel_rfl) (by kernel_rfl) (by kernel_rfl) (by kernel_rfl) (by decide) S30.es S30.ec
  · exact rowA (x := s30) (y := 0) (c := 0) (z := t30) (k := d30) (by kernel_rfl) (by kernel_rfl) (by kernel_rfl) (by kernel_rfl) (by kernel_rfl) (by decide) S30.et S30.ed
  · exact rowM (x := a3) (y := b1) (z := h31) (k := l31) (by kernel_rfl) (by kernel_rfl) (by kernel_rfl) (by kernel_rfl) S31.ha S31.hb S31.eh S31.el
  · exact rowA (x := l31) (y := t22) (c := 0) (z := s31) (k := c31) (by kernel_rfl) (by kernel_rfl) (by kernel_rfl) (by kernel_rfl) (by kernel_rfl) (by decide) S31.es S31.ec
  · exact rowA (x := s31) (y := C30) (c := 0) (z := t31) (k := d31) (by kernel_rfl) (kar_conc (h := h30) (c := c30) (d := d30) (by kernel_rfl) (by kernel_rfl) (by kernel_rfl) S30.eC S30.lC) (by kernel_rfl) (by kernel_rfl) (by kernel_rfl) (by decide) S31.et S31.ed
  · exact rowM (x := a3) (y := b2) (z := h32) (k := l32) (by kernel_rfl) (by kernel_rfl) (by kernel_rfl) (by kernel_rfl) S32.ha S32.hb S32.eh S32.el
  · exact rowA (x := l32) (y := t23) (c := 0) (z := s32) (k := c32) (by kernel_rfl) (by kernel_rfl) (by kernel_rfl) (by kernel_rfl) (by kernel_rfl) (by decide) S32.es S32.ec
  · exact rowA (x := s32) (y := C31) (c := 0) (z := t32) (k := d32) (by kernel_rfl) (kar_conc (h := h31) (c := c31) (d := d31) (by kernel_rfl) (by kernel_rfl) (by kernel_rfl) S31.eC S31.lC) (by kernel_rfl) (by kernel_rfl) (by kernel_rfl) (by decide) S32.et S32.ed
  · exact rowM (x := a3) (y := b3) (z := h33) (k := l33) (by kernel_rfl) (by kernel_rfl) (by kernel_rfl) (by kernel_rfl) S33.ha S33.hb S33.eh S33.el
  · exact rowA (x := l33) (y := C23) (c := 0) (z := s33) (k := c33) (by kernel_rfl) (kar_conc (h := h23) (c := c23) (d := d23) (by kernel_rfl) (by kernel_rfl) (by kernel_rfl) S23.eC S23.lC) (by kernel_rfl) (by kernel_rfl) (by kernel_rfl) (by decide) S33.es S33.ec
  · exact rowA (x := s33) (y := C32) (c := 0) (z := t33) (k := d33) (by kernel_rfl) (kar_conc (h := h32) (c := c32) (d := d32) (by kernel_rfl) (by kernel_rfl) (by kernel_rfl) S32.eC S32.lC) (by kernel_rfl) (by kernel_rfl) (by kernel_rfl) (by decide) S33.et S33.ed

theorem row_lin (P0 P1 P2 P3 o0 o1 o2 o3 t0 t1 t2 t3 C0 C1 C2 C3 : Nat) (h0 : t0 + 18446744073709551616 * C0 = P0 + o0 + 0) (h1 : t1 + 18446744073709551616 * C1 = P1 + o1 + C0) (h2 : t2 + 18446744073709551616 * C2 = P2 + o2 + C1) (h3 : t3 + 18446744073709551616 * C3 = P3 + o3 + C2) :
    P0 + P1 * 18446744073709551616 + P2 * 340282366920938463463374607431768211456 + P3 * 6277101735386680763835789423207666416102355444464034512896 + (o0 + o1 * 18446744073709551616 + o2 * 340282366920938463463374607431768211456 + o3 * 6277101735386680763835789423207666416102355444464034512896) = t0 + t1 * 18446744073709551616 + t2 * 340282366920938463463374607431768211456 + t3 * 6277101735386680763835789423207666416102355444464034512896 + C3 * B4 := by
  unfold B4
  omega

theorem all_lin (Y0 Y1 Y2 Y3 t00 t01 t02 t03 C03 t10 t11 t12 t13 C13 t20 t21 t22 t23 C23 t30 t31 t32 t33 C33 : Nat) (h0 : Y0 + (0 + 0 * 18446744073709551616 + 0 * 340282366920938463463374607431768211456 + 0 * 6277101735386680763835789423207666416102355444464034512896) = t00 + t01 * 18446744073709551616 + t02 * 340282366920938463463374607431768211456 + t03 * 6277101735386680763835789423207666416102355444464034512896 + C03 * B4) (h1 : Y1 + (t01 + t02 * 18446744073709551616 + t03 * 340282366920938463463374607431768211456 + C03 * 6277101735386680763835789423207666416102355444464034512896) = t10 + t11 * 18446744073709551616 + t12 * 340282366920938463463374607431768211456 + t13 * 6277101735386680763835789423207666416102355444464034512896 + C13 * B4)
    (h2 : Y2 + (t11 + t12 * 18446744073709551616 + t13 * 340282366920938463463374607431768211456 + C13 * 6277101735386680763835789423207666416102355444464034512896) = t20 + t21 * 18446744073709551616 + t22 * 340282366920938463463374607431768211456 + t23 * 6277101735386680763835789423207666416102355444464034512896 + C23 * B4) (h3 : Y3 + (t21 + t22 * 18446744073709551616 + t23 * 340282366920938463463374607431768211456 + C23 * 6277101735386680763835789423207666416102355444464034512896) = t30 + t31 * 18446744073709551616 + t32 * 340282366920938463463374607431768211456 + t33 * 6277101735386680763835789423207666416102355444464034512896 + C33 * B4) :
    Y0 + Y1 * 18446744073709551616 + Y2 * 340282366920938463463374607431768211456 + Y3 * 6277101735386680763835789423207666416102355444464034512896 = t00 + t10 * 18446744073709551616 + t20 * 340282366920938463463374607431768211456 + t30 * 6277101735386680763835789423207666416102355444464034512896 + (t31 + t32 * 18446744073709551616 + t33 * 340282366920938463463374607431768211456 + C33 * 6277101735386680763835789423207666416102355444464034512896) * B4 := by
  unfold B4 at *
  omega

/-- Eight digits. -/
def num8 (T : Nat) : Value := .agg #[u64 (Sh.w0 T), u64 (w1 T), u64 (w2 T), u64 (w3 T), u64 (Sh.w0 (T / B4)), u64 (w1 (T / B4)), u64 (w2 (T / B4)), u64 (w3 (T / B4))]

theorem times_ok (x y : Nat) (hx : x < B4) (hy : y < B4) : Pure Tryd.prog 28 [num x, num y] (num8 (x * y)) := by
  obtain ⟨l0, l1, l2, l3⟩ := w_lt x
  obtain ⟨m0, m1, m2, m3⟩ := w_lt y
  have z0 : 0 < 18446744073709551616 := by decide
  obtain ⟨h00, l00, s00, c00, t00, d00, C00, S00⟩ := step_of (Sh.w0 x) (Sh.w0 y) 0 0 l0 m0 z0 z0
  obtain ⟨h01, l01, s01, c01, t01, d01, C01, S01⟩ := step_of (Sh.w0 x) (w1 y) 0 C00 l0 m1 z0 S00.lC
  obtain ⟨h02, l02, s02, c02, t02, d02, C02, S02⟩ := step_of (Sh.w0 x) (w2 y) 0 C01 l0 m2 z0 S01.lC
  obtain ⟨h03, l03, s03, c03, t03, d03, C03, S03⟩ := step_of (Sh.w0 x) (w3 y) 0 C02 l0 m3 z0 S02.lC
  obtain ⟨h10, l10, s10, c10, t10, d10, C10, S10⟩ := step_of (w1 x) (Sh.w0 y) t01 0 l1 m0 S01.lt z0
  obtain ⟨h11, l11, s11, c11, t11, d11, C11, S11⟩ := step_of (w1 x) (w1 y) t02 C10 l1 m1 S02.lt S10.lC
  obtain ⟨h12, l12, s12, c12, t12, d12, C12, S12⟩ := step_of (w1 x) (w2 y) t03 C11 l1 m2 S03.lt S11.lC
  obtain ⟨h13, l13, s13, c13, t13, d13, C13, S13⟩ := step_of (w1 x) (w3 y) C03 C12 l1 m3 S03.lC S12.lC
  obtain ⟨h20, l20, s20, c20, t20, d20, C20, S20⟩ := step_of (w2 x) (Sh.w0 y) t11 0 l2 m0 S11.lt z0
  obtain ⟨h21, l21, s21, c21, t21, d21, C21, S21⟩ := step_of (w2 x) (w1 y) t12 C20 l2 m1 S12.lt S20.lC
  obtain ⟨h22, l22, s22, c22, t22, d22, C22, S22⟩ := step_of (w2 x) (w2 y) t13 C21 l2 m2 S13.lt S21.lC
  obtain ⟨h23, l23, s23, c23, t23, d23, C23, S23⟩ := step_of (w2 x) (w3 y) C13 C22 l2 m3 S13.lC S22.lC
  obtain ⟨h30, l30, s30, c30, t30, d30, C30, S30⟩ := step_of (w3 x) (Sh.w0 y) t21 0 l3 m0 S21.lt z0
  obtain ⟨h31, l31, s31, c31, t31, d31, C31, S31⟩ := step_of (w3 x) (w1 y) t22 C30 l3 m1 S22.lt S30.lC
  obtain ⟨h32, l32, s32, c32, t32, d32, C32, S32⟩ := step_of (w3 x) (w2 y) t23 C31 l3 m2 S23.lt S31.lC
  obtain ⟨h33, l33, s33, c33, t33, d33, C33, S33⟩ := step_of (w3 x) (w3 y) C23 C32 l3 m3 S23.lC S32.lC
  have hc := rtimes_core (Sh.w0 x) (w1 x) (w2 x) (w3 x) (Sh.w0 y) (w1 y) (w2 y) (w3 y) _ _ _ _ _ _ _ _ _ _ _ _ _ _ _ _ _ _ _ _ _ _ _ _ _ _ _ _ _ _ _ _ _ _ _ _ _ _ _ _ _ _ _ _ _ _ _ _ _ _ _ _ _ _ _ _ _ _ _ _ _ _ _ _ _ _ _ _ _ _ _ _ _ _ _ _ _ _ _ _ _ _ _ _ _ _ _ _ _ _ _ _ _ _ _ _ _ _ _ _ _ _ _ _ _ _ _ _ _ _ _ _ S00 S01 S02 S03 S10 S11 S12 S13 S20 S21 S22 S23 S30 S31 S32 S33
  have r0 := row_lin (Sh.w0 x * Sh.w0 y) (Sh.w0 x * w1 y) (Sh.w0 x * w2 y) (Sh.w0 x * w3 y) 0 0 0 0 t00 t01 t02 t03 C00 C01 C02 C03 S00.all S01.all S02.all S03.all
  have r1 := row_lin (w1 x * Sh.w0 y) (w1 x * w1 y) (w1 x * w2 y) (w1 x * w3 y) t01 t02 t03 C03 t10 t11 t12 t13 C10 C11 C12 C13 S10.all S11.all S12.all S13.all
  have r2 := row_lin (w2 x * Sh.w0 y) (w2 x * w1 y) (w2 x * w2 y) (w2 x * w3 y) t11 t12 t13 C13 t20 t21 t22 t23 C20 C21 C22 C23 S20.all S21.all S22.all S23.all
  have r3 := row_lin (w3 x * Sh.w0 y) (w3 x * w1 y) (w3 x * w2 y) (w3 x * w3 y) t21 t22 t23 C23 t30 t31 t32 t33 C30 C31 C32 C33 S30.all S31.all S32.all S33.all
  have y0 := split_mul4 y (Sh.w0 x) hy
  rw [Nat.mul_comm y, Nat.mul_comm (Sh.w0 y), Nat.mul_comm (w1 y), Nat.mul_comm (w2 y), Nat.mul_comm (w3 y)] at y0
  rw [← y0] at r0
  have y1 := split_mul4 y (w1 x) hy
  rw [Nat.mul_comm y, Nat.mul_comm (Sh.w0 y), Nat.mul_comm (w1 y), Nat.mul_comm (w2 y), Nat.mul_comm (w3 y)] at y1
  rw [← y1] at r1
  have y2 := split_mul4 y (w2 x) hy
  rw [Nat.mul_comm y, Nat.mul_comm (Sh.w0 y), Nat.mul_comm (w1 y), Nat.mul_comm (w2 y), Nat.mul_comm (w3 y)] at y2
  rw [← y2] at r2
  have y3 := split_mul4 y (w3 x) hy
  rw [Nat.mul_comm y, Nat.mul_comm (Sh.w0 y), Nat.mul_comm (w1 y), Nat.mul_comm (w2 y), Nat.mul_comm (w3 y)] at y3
  rw [← y3] at r3
  have key := all_lin (Sh.w0 x * y) (w1 x * y) (w2 x * y) (w3 x * y) t00 t01 t02 t03 C03 t10 t11 t12 t13 C13 t20 t21 t22 t23 C23 t30 t31 t32 t33 C33 r0 r1 r2 r3
  rw [← split_mul4 x y hx] at key
  obtain ⟨f0, f1, f2, f3, f4⟩ := dig4 S00.lt S10.lt S20.lt S30.lt key
  obtain ⟨g0, g1, g2, g3, _⟩ := dig4 (e := 0) S31.lt S32.lt S33.lt S33.lC (by rw [Nat.zero_mul, Nat.add_zero])
  refine Pure.to hc rfl ?_
  unfold num8
  rw [f0, f1, f2, f3, f4, g0, g1, g2, g3]

end Go.Proofs.YtnlhpiieihnbiaaDoor
