/-
  THE PAGE's NUMBERS: what trystref06's Of, Bytes, add, sub, less, Mod, Add and Sub answer. Own work.
-/
import Derived.Test.YtdillfhieilgnaaFi
namespace Go.Proofs.Ytdillfhieilgnaa
open Go.Sh
set_option maxRecDepth 100000

/-! Of and Bytes -/

def ofE (k : Nat) : AI := .e .or .u64 (.e .or .u64 (.e .or .u64 (.e .or .u64 (.e .or .u64 (.e .or .u64 (.e .or .u64 (.e .or .u64 (.c (.ofNat 0)) (.e .shl .u64 (.w .u64 (.s k)) (.c (.ofNat 0)))) (.e .shl .u64 (.w .u64 (.s (k + 1))) (.c (.ofNat 8)))) (.e .shl .u64 (.w .u64 (.s (k + 2))) (.c (.ofNat 16)))) (.e .shl .u64 (.w .u64 (.s (k + 3))) (.c (.ofNat 24))))
  (.e .shl .u64 (.w .u64 (.s (k + 4))) (.c (.ofNat 32)))) (.e .shl .u64 (.w .u64 (.s (k + 5))) (.c (.ofNat 40)))) (.e .shl .u64 (.w .u64 (.s (k + 6))) (.c (.ofNat 48)))) (.e .shl .u64 (.w .u64 (.s (k + 7))) (.c (.ofNat 56)))

theorem ofE_val {ν : Nat → Int} {k : Nat} (b0 b1 b2 b3 b4 b5 b6 b7 : Nat) (h0 : ν k = b0) (h1 : ν (k + 1) = b1) (h2 : ν (k + 2) = b2) (h3 : ν (k + 3) = b3) (h4 : ν (k + 4) = b4) (h5 : ν (k + 5) = b5) (h6 : ν (k + 6) = b6) (h7 : ν (k + 7) = b7)
    (l0 : b0 < 256) (l1 : b1 < 256) (l2 : b2 < 256) (l3 : b3 < 256) (l4 : b4 < 256) (l5 : b5 < 256) (l6 : b6 < 256) (l7 : b7 < 256) :
    (ofE k).val ν = ((b0 + 256 * b1 + 65536 * b2 + 16777216 * b3 + 4294967296 * b4 + 1099511627776 * b5 + 281474976710656 * b6 + 72057594037927936 * b7 : Nat) : Int) := by
  show arith .or .u64 (arith .or .u64 (arith .or .u64 (arith .or .u64 (arith .or .u64 (arith .or .u64 (arith .or .u64 (arith .or .u64 ((0 : Nat) : Int) (arith .shl .u64 (IntKind.u64.wrap (ν k)) ((0 : Nat) : Int))) (arith .shl .u64 (IntKind.u64.wrap (ν (k + 1))) ((8 : Nat) : Int))) (arith .shl .u64 (IntKind.u64.wrap (ν (k + 2))) ((16 : Nat) : Int))) (arith .shl .u64 (IntKind.u64.wrap (ν (k + 3))) ((24 : Nat) : Int)))
    (arith .shl .u64 (IntKind.u64.wrap (ν (k + 4))) ((32 : Nat) : Int))) (arith .shl .u64 (IntKind.u64.wrap (ν (k + 5))) ((40 : Nat) : Int))) (arith .shl .u64 (IntKind.u64.wrap (ν (k + 6))) ((48 : Nat) : Int))) (arith .shl .u64 (IntKind.u64.wrap (ν (k + 7))) ((56 : Nat) : Int)) = _
  rw [h0, h1, h2, h3, h4, h5, h6, h7]
  rw [a_orS 0 b0 0 (by decide) (by decide) l0, a_orS _ b1 8 (by decide) (by omega) l1, a_orS _ b2 16 (by decide) (by omega) l2, a_orS _ b3 24 (by decide) (by omega) l3, a_orS _ b4 32 (by decide) (by omega) l4, a_orS _ b5 40 (by decide) (by omega) l5, a_orS _ b6 48 (by decide) (by omega) l6, a_orS _ b7 56 (by decide) (by omega) l7]
  congr 1
  omega

theorem ofE_word {ν : Nat → Int} {k y : Nat} (hy : y < 18446744073709551616) (h0 : ν k = ((y % 256 : Nat) : Int)) (h1 : ν (k + 1) = ((y / 256 % 256 : Nat) : Int)) (h2 : ν (k + 2) = ((y / 65536 % 256 : Nat) : Int)) (h3 : ν (k + 3) = ((y / 16777216 % 256 : Nat) : Int)) (h4 : ν (k + 4) = ((y / 4294967296 % 256 : Nat) : Int))
    (h5 : ν (k + 5) = ((y / 1099511627776 % 256 : Nat) : Int)) (h6 : ν (k + 6) = ((y / 281474976710656 % 256 : Nat) : Int)) (h7 : ν (k + 7) = ((y / 72057594037927936 % 256 : Nat) : Int)) : (ofE k).val ν = (y : Int) := by
  have hm : ∀ z, z % 256 < 256 := fun z => Nat.mod_lt _ (by decide)
  rw [ofE_val _ _ _ _ _ _ _ _ h0 h1 h2 h3 h4 h5 h6 h7 (hm _) (hm _) (hm _) (hm _) (hm _) (hm _) (hm _) (hm _)]
  congr 1
  omega

theorem of_says : says noFacts tree [] 400 3 12 [bs 0] (heap0 [] gmax) (.ag [.i .u64 (ofE 0), .i .u64 (ofE 8), .i .u64 (ofE 16), .i .u64 (ofE 24)]) = true := by kernel_rfl
theorem Of_ok (x : Nat) : Pure Try.prog 12 [byt x] (num x) := by
  obtain ⟨l0, l1, l2, l3⟩ := w_lt x
  refine pure_of (ν := nu (byL x)) (noFacts_hold _) mixed tab_ok (fun r hr => by cases hr) of_says rfl ?_
  have e0 : (ofE 0).val (nu (byL x)) = ((Sh.w0 x : Nat) : Int) := ofE_word l0 rfl rfl rfl rfl rfl rfl rfl rfl
  have e1 : (ofE 8).val (nu (byL x)) = ((w1 x : Nat) : Int) := ofE_word l1 rfl rfl rfl rfl rfl rfl rfl rfl
  have e2 : (ofE 16).val (nu (byL x)) = ((w2 x : Nat) : Int) := ofE_word l2 rfl rfl rfl rfl rfl rfl rfl rfl
  have e3 : (ofE 24).val (nu (byL x)) = ((w3 x : Nat) : Int) := ofE_word l3 rfl rfl rfl rfl rfl rfl rfl rfl
  show (concL _ [.i .u64 (ofE 0), .i .u64 (ofE 8), .i .u64 (ofE 16), .i .u64 (ofE 24)]).map (fun vs => Value.agg vs.toArray) = _
  simp only [concL, conc1, e0, e1, e2, e3, Option.map_some]
  rfl

def bytesR : List AV := [lb 0 0, lb 0 8, lb 0 16, lb 0 24, lb 0 32, lb 0 40, lb 0 48, lb 0 56, lb 1 0, lb 1 8, lb 1 16, lb 1 24, lb 1 32, lb 1 40, lb 1 48, lb 1 56, lb 2 0, lb 2 8, lb 2 16, lb 2 24, lb 2 32, lb 2 40, lb 2 48, lb 2 56, lb 3 0, lb 3 8, lb 3 16, lb 3 24, lb 3 32, lb 3 40, lb 3 48, lb 3 56]
theorem bytes_says : says noFacts tree [] 400 3 14 [ns 0] (heap0 [] gmax) (.ag bytesR) = true := by kernel_rfl
theorem Bytes_ok (x : Nat) : Pure Try.prog 14 [num x] (byt x) := by
  refine pure_of (ν := nu (numL x)) (noFacts_hold _) mixed tab_ok (fun r hr => by cases hr) bytes_says rfl ?_
  have f0 : nu (numL x) 0 = ((Sh.w0 x : Nat) : Int) := rfl
  have f1 : nu (numL x) 1 = ((w1 x : Nat) : Int) := rfl
  have f2 : nu (numL x) 2 = ((w2 x : Nat) : Int) := rfl
  have f3 : nu (numL x) 3 = ((w3 x : Nat) : Int) := rfl
  show (concL _ bytesR).map (fun vs => Value.agg vs.toArray) = _
  simp only [bytesR, concL, lb_val f0 0 (by decide), lb_val f0 8 (by decide), lb_val f0 16 (by decide), lb_val f0 24 (by decide), lb_val f0 32 (by decide), lb_val f0 40 (by decide), lb_val f0 48 (by decide), lb_val f0 56 (by decide),
    lb_val f1 0 (by decide), lb_val f1 8 (by decide), lb_val f1 16 (by decide), lb_val f1 24 (by decide), lb_val f1 32 (by decide), lb_val f1 40 (by decide), lb_val f1 48 (by decide), lb_val f1 56 (by decide),
    lb_val f2 0 (by decide), lb_val f2 8 (by decide), lb_val f2 16 (by decide), lb_val f2 24 (by decide), lb_val f2 32 (by decide), lb_val f2 40 (by decide), lb_val f2 48 (by decide), lb_val f2 56 (by decide),
    lb_val f3 0 (by decide), lb_val f3 8 (by decide), lb_val f3 16 (by decide), lb_val f3 24 (by decide), lb_val f3 32 (by decide), lb_val f3 40 (by decide), lb_val f3 48 (by decide), lb_val f3 56 (by decide), Option.map_some, Nat.pow_zero, Nat.div_one]
  rfl

/-! add and sub -/

def raddT : List Row := [⟨48, [wd 0, wd 4, c0], .tp [wd 8, wd 9]⟩, ⟨48, [wd 1, wd 5, wd 9], .tp [wd 10, wd 11]⟩, ⟨48, [wd 2, wd 6, wd 11], .tp [wd 12, wd 13]⟩, ⟨48, [wd 3, wd 7, wd 13], .tp [wd 14, wd 15]⟩]
theorem radd_says : says noFacts tree raddT 200 3 37 [ns 0, ns 4] (heap0 [] gmax) (.tp [.ag [wd 8, wd 10, wd 12, wd 14], wd 15]) = true := by kernel_rfl

theorem radd_core (a b c d a' b' c' d' s0 k0 s1 k1 s2 k2 s3 k3 : Nat) (h0 : s0 = (a + a' + 0) % 18446744073709551616) (g0 : k0 = (a + a' + 0) / 18446744073709551616) (h1 : s1 = (b + b' + k0) % 18446744073709551616) (g1 : k1 = (b + b' + k0) / 18446744073709551616)
    (h2 : s2 = (c + c' + k1) % 18446744073709551616) (g2 : k2 = (c + c' + k1) / 18446744073709551616) (h3 : s3 = (d + d' + k2) % 18446744073709551616) (g3 : k3 = (d + d' + k2) / 18446744073709551616) (q0 : k0 ≤ 1) (q1 : k1 ≤ 1) (q2 : k2 ≤ 1) :
    Pure Try.prog 37 [n4 a b c d, n4 a' b' c' d'] (.tuple #[n4 s0 s1 s2 s3, u64 k3]) := by
  refine pure_of (ν := nu [a, b, c, d, a', b', c', d', s0, k0, s1, k1, s2, k2, s3, k3]) (noFacts_hold _) mixed tab_ok (fun r hr => ?_) radd_says rfl rfl
  simp only [raddT, List.mem_cons, List.not_mem_nil, or_false] at hr
  rcases hr with rfl | rfl | rfl | rfl
  · exact rowA (x := a) (y := a') (c := 0) (z := s0) (k := k0) rfl rfl rfl rfl rfl (by omega) h0 g0
  · exact rowA (x := b) (y := b') (c := k0) (z := s1) (k := k1) rfl rfl rfl rfl rfl q0 h1 g1
  · exact rowA (x := c) (y := c') (c := k1) (z := s2) (k := k2) rfl rfl rfl rfl rfl q1 h2 g2
  · exact rowA (x := d) (y := d') (c := k2) (z := s3) (k := k3) rfl rfl rfl rfl rfl q2 h3 g3

theorem add_step (a b c s k : Nat) (ha : a < 18446744073709551616) (hb : b < 18446744073709551616) (hc : c ≤ 1) (hs : s = (a + b + c) % 18446744073709551616) (hk : k = (a + b + c) / 18446744073709551616) : s + 18446744073709551616 * k = a + b + c ∧ k ≤ 1 ∧ s < 18446744073709551616 := by omega

theorem add_lin (a b c d a' b' c' d' s0 s1 s2 s3 k0 k1 k2 k3 x y : Nat) (h0 : s0 + 18446744073709551616 * k0 = a + a' + 0) (h1 : s1 + 18446744073709551616 * k1 = b + b' + k0) (h2 : s2 + 18446744073709551616 * k2 = c + c' + k1) (h3 : s3 + 18446744073709551616 * k3 = d + d' + k2)
    (hx : x = a + b * 18446744073709551616 + c * 340282366920938463463374607431768211456 + d * 6277101735386680763835789423207666416102355444464034512896 + 0 * B4) (hy : y = a' + b' * 18446744073709551616 + c' * 340282366920938463463374607431768211456 + d' * 6277101735386680763835789423207666416102355444464034512896 + 0 * B4) :
    x + y = s0 + s1 * 18446744073709551616 + s2 * 340282366920938463463374607431768211456 + s3 * 6277101735386680763835789423207666416102355444464034512896 + k3 * B4 := by
  unfold B4 at *
  omega

theorem radd_ok (x y : Nat) (hx : x < B4) (hy : y < B4) : Pure Try.prog 37 [num x, num y] (.tuple #[num (x + y), u64 ((x + y) / B4)]) := by
  have sx := split4 x
  rw [Nat.div_eq_of_lt hx] at sx
  have sy := split4 y
  rw [Nat.div_eq_of_lt hy] at sy
  obtain ⟨l0, l1, l2, l3⟩ := w_lt x
  obtain ⟨m0, m1, m2, m3⟩ := w_lt y
  obtain ⟨a0, a1, a2⟩ := add_step (Sh.w0 x) (Sh.w0 y) 0 _ _ l0 m0 (by decide) rfl rfl
  obtain ⟨b0, b1, b2⟩ := add_step (w1 x) (w1 y) _ _ _ l1 m1 a1 rfl rfl
  obtain ⟨c0, c1, c2⟩ := add_step (w2 x) (w2 y) _ _ _ l2 m2 b1 rfl rfl
  obtain ⟨d0, d1, d2⟩ := add_step (w3 x) (w3 y) _ _ _ l3 m3 c1 rfl rfl
  have key := add_lin _ _ _ _ _ _ _ _ _ _ _ _ _ _ _ _ x y a0 b0 c0 d0 sx sy
  refine Pure.to (radd_core (Sh.w0 x) (w1 x) (w2 x) (w3 x) (Sh.w0 y) (w1 y) (w2 y) (w3 y) _ _ _ _ _ _ _ _ rfl rfl rfl rfl rfl rfl rfl rfl a1 b1 c1) rfl ?_
  rw [num_of a2 b2 c2 d2 key, (dig4 a2 b2 c2 d2 key).2.2.2.2]

def rsubT : List Row := [⟨47, [wd 0, wd 4, c0], .tp [wd 8, wd 9]⟩, ⟨47, [wd 1, wd 5, wd 9], .tp [wd 10, wd 11]⟩, ⟨47, [wd 2, wd 6, wd 11], .tp [wd 12, wd 13]⟩, ⟨47, [wd 3, wd 7, wd 13], .tp [wd 14, wd 15]⟩]
theorem rsub_says : says noFacts tree rsubT 200 3 35 [ns 0, ns 4] (heap0 [] gmax) (.tp [.ag [wd 8, wd 10, wd 12, wd 14], wd 15]) = true := by kernel_rfl

theorem rsub_core (a b c d a' b' c' d' s0 k0 s1 k1 s2 k2 s3 k3 : Nat) (h0 : s0 = (a + 18446744073709551616 - a' - 0) % 18446744073709551616) (g0 : k0 = if a < a' + 0 then 1 else 0) (h1 : s1 = (b + 18446744073709551616 - b' - k0) % 18446744073709551616) (g1 : k1 = if b < b' + k0 then 1 else 0)
    (h2 : s2 = (c + 18446744073709551616 - c' - k1) % 18446744073709551616) (g2 : k2 = if c < c' + k1 then 1 else 0) (h3 : s3 = (d + 18446744073709551616 - d' - k2) % 18446744073709551616) (g3 : k3 = if d < d' + k2 then 1 else 0) (q0 : k0 ≤ 1) (q1 : k1 ≤ 1) (q2 : k2 ≤ 1) :
    Pure Try.prog 35 [n4 a b c d, n4 a' b' c' d'] (.tuple #[n4 s0 s1 s2 s3, u64 k3]) := by
  refine pure_of (ν := nu [a, b, c, d, a', b', c', d', s0, k0, s1, k1, s2, k2, s3, k3]) (noFacts_hold _) mixed tab_ok (fun r hr => ?_) rsub_says rfl rfl
  simp only [rsubT, List.mem_cons, List.not_mem_nil, or_false] at hr
  rcases hr with rfl | rfl | rfl | rfl
  · exact rowS (x := a) (y := a') (c := 0) (z := s0) (k := k0) rfl rfl rfl rfl rfl (by omega) h0 g0
  · exact rowS (x := b) (y := b') (c := k0) (z := s1) (k := k1) rfl rfl rfl rfl rfl q0 h1 g1
  · exact rowS (x := c) (y := c') (c := k1) (z := s2) (k := k2) rfl rfl rfl rfl rfl q1 h2 g2
  · exact rowS (x := d) (y := d') (c := k2) (z := s3) (k := k3) rfl rfl rfl rfl rfl q2 h3 g3

theorem sub_step (a b c s k : Nat) (ha : a < 18446744073709551616) (hb : b < 18446744073709551616) (hc : c ≤ 1) (hs : s = (a + 18446744073709551616 - b - c) % 18446744073709551616) (hk : k = if a < b + c then 1 else 0) : s + b + c = a + 18446744073709551616 * k ∧ k ≤ 1 ∧ s < 18446744073709551616 := by
  split at hk <;> omega

theorem sub_lin (a b c d a' b' c' d' s0 s1 s2 s3 k0 k1 k2 k3 x y : Nat) (h0 : s0 + a' + 0 = a + 18446744073709551616 * k0) (h1 : s1 + b' + k0 = b + 18446744073709551616 * k1) (h2 : s2 + c' + k1 = c + 18446744073709551616 * k2) (h3 : s3 + d' + k2 = d + 18446744073709551616 * k3)
    (hx : x = a + b * 18446744073709551616 + c * 340282366920938463463374607431768211456 + d * 6277101735386680763835789423207666416102355444464034512896 + 0 * B4) (hy : y = a' + b' * 18446744073709551616 + c' * 340282366920938463463374607431768211456 + d' * 6277101735386680763835789423207666416102355444464034512896 + 0 * B4) :
    s0 + s1 * 18446744073709551616 + s2 * 340282366920938463463374607431768211456 + s3 * 6277101735386680763835789423207666416102355444464034512896 + y = x + k3 * B4 := by
  unfold B4 at *
  omega

theorem radd_of {s0 s1 s2 s3 : Nat} (h0 : s0 < 18446744073709551616) (h1 : s1 < 18446744073709551616) (h2 : s2 < 18446744073709551616) (h3 : s3 < 18446744073709551616) :
    n4 s0 s1 s2 s3 = num (s0 + s1 * 18446744073709551616 + s2 * 340282366920938463463374607431768211456 + s3 * 6277101735386680763835789423207666416102355444464034512896) ∧ s0 + s1 * 18446744073709551616 + s2 * 340282366920938463463374607431768211456 + s3 * 6277101735386680763835789423207666416102355444464034512896 < B4 := by
  refine ⟨num_of (e := 0) h0 h1 h2 h3 (by omega), ?_⟩
  unfold B4
  omega

theorem rsub_ok (x y : Nat) (hx : x < B4) (hy : y < B4) : ∃ s k, s < B4 ∧ k ≤ 1 ∧ s + y = x + k * B4 ∧ Pure Try.prog 35 [num x, num y] (.tuple #[num s, u64 k]) := by
  have sx := split4 x
  rw [Nat.div_eq_of_lt hx] at sx
  have sy := split4 y
  rw [Nat.div_eq_of_lt hy] at sy
  obtain ⟨l0, l1, l2, l3⟩ := w_lt x
  obtain ⟨m0, m1, m2, m3⟩ := w_lt y
  obtain ⟨a0, a1, a2⟩ := sub_step (Sh.w0 x) (Sh.w0 y) 0 _ _ l0 m0 (by decide) rfl rfl
  obtain ⟨b0, b1, b2⟩ := sub_step (w1 x) (w1 y) _ _ _ l1 m1 a1 rfl rfl
  obtain ⟨c0, c1, c2⟩ := sub_step (w2 x) (w2 y) _ _ _ l2 m2 b1 rfl rfl
  obtain ⟨d0, d1, d2⟩ := sub_step (w3 x) (w3 y) _ _ _ l3 m3 c1 rfl rfl
  have key := sub_lin _ _ _ _ _ _ _ _ _ _ _ _ _ _ _ _ x y a0 b0 c0 d0 sx sy
  have h := radd_of a2 b2 c2 d2
  exact ⟨_, _, h.2, d1, key, h.1 ▸ rsub_core (Sh.w0 x) (w1 x) (w2 x) (w3 x) (Sh.w0 y) (w1 y) (w2 y) (w3 y) _ _ _ _ _ _ _ _ rfl rfl rfl rfl rfl rfl rfl rfl a1 b1 c1⟩

theorem rsub_ge (x y : Nat) (hx : x < B4) (hl : y ≤ x) : Pure Try.prog 35 [num x, num y] (.tuple #[num (x - y), u64 0]) := by
  obtain ⟨s, k, h1, h2, h3, h4⟩ := rsub_ok x y hx (Nat.lt_of_le_of_lt hl hx)
  have hk : k = 0 := by unfold B4 at *; omega
  subst hk
  have hs : s = x - y := by omega
  rwa [hs] at h4

theorem rsub_lt (x y : Nat) (hy : y < B4) (hl : x < y) : Pure Try.prog 35 [num x, num y] (.tuple #[num (x + B4 - y), u64 1]) := by
  obtain ⟨s, k, h1, h2, h3, h4⟩ := rsub_ok x y (Nat.lt_trans hl hy) hy
  have hk : k = 1 := by unfold B4 at *; omega
  subst hk
  have hs : s = x + B4 - y := by omega
  rwa [hs] at h4

theorem rowSubGe {ν : Nat → Int} {p q r : AV} {x y : Nat} (hx : x < B4) (hl : y ≤ x) (h1 : conc2 ν p = some (num x)) (h2 : conc2 ν q = some (num y)) (h3 : conc2 ν r = some (num (x - y))) : Row.Ok ν Try.prog ⟨35, [p, q], .tp [r, cK 0]⟩ :=
  ⟨[num x, num y], .tuple #[num (x - y), u64 0], by simp [concT, h1, h2], by simp [conc, concT, h3]; rfl, rsub_ge x y hx hl⟩
theorem rowSubLt {ν : Nat → Int} {p q r : AV} {x y : Nat} (hy : y < B4) (hl : x < y) (h1 : conc2 ν p = some (num x)) (h2 : conc2 ν q = some (num y)) (h3 : conc2 ν r = some (num (x + B4 - y))) : Row.Ok ν Try.prog ⟨35, [p, q], .tp [r, cK 1]⟩ :=
  ⟨[num x, num y], .tuple #[num (x + B4 - y), u64 1], by simp [concT, h1, h2], by simp [conc, concT, h3]; rfl, rsub_lt x y hy hl⟩
theorem rowAddR {ν : Nat → Int} {p q r : AV} {x y : Nat} (hx : x < B4) (hy : y < B4) (hl : x + y < B4) (h1 : conc2 ν p = some (num x)) (h2 : conc2 ν q = some (num y)) (h3 : conc2 ν r = some (num (x + y))) : Row.Ok ν Try.prog ⟨37, [p, q], .tp [r, cK 0]⟩ :=
  ⟨[num x, num y], .tuple #[num (x + y), u64 0], by simp [concT, h1, h2], by simp [conc, concT, h3]; rfl, by have h := radd_ok x y hx hy; rwa [Nat.div_eq_of_lt hl] at h⟩

/-! Mod, Add and Sub -/

def prC : AV := .ag [cK 18446744073709551597, cK 18446744073709551615, cK 18446744073709551615, cK 9223372036854775807]
theorem prC_conc (ν : Nat → Int) : conc2 ν prC = some (num prime) := by
  unfold num
  rw [show Sh.w0 prime = 18446744073709551597 by decide, show w1 prime = 18446744073709551615 by decide, show w2 prime = 18446744073709551615 by decide, show w3 prime = 9223372036854775807 by decide]
  rfl

def rmodT0 : List Row := [⟨35, [ns 0, prC], .tp [ns 4, cK 1]⟩]
def rmodT1 : List Row := [⟨35, [ns 0, prC], .tp [ns 4, cK 0]⟩, ⟨35, [ns 4, prC], .tp [ns 8, cK 1]⟩]
def rmodT2 : List Row := [⟨35, [ns 0, prC], .tp [ns 4, cK 0]⟩, ⟨35, [ns 4, prC], .tp [ns 8, cK 0]⟩, ⟨35, [ns 8, prC], .tp [ns 12, cK 1]⟩]
theorem rmod_says : says noFacts tree rmodT0 300 5 15 [ns 0] (heap0 [] gmax) (ns 0) = true ∧ says noFacts tree rmodT1 300 5 15 [ns 0] (heap0 [] gmax) (ns 4) = true ∧ says noFacts tree rmodT2 300 5 15 [ns 0] (heap0 [] gmax) (ns 8) = true :=
  ⟨by kernel_rfl, by kernel_rfl, by kernel_rfl⟩

theorem rmod_core0 (x d : Nat) (c1 : x < prime) (hd : d = x + B4 - prime) : Pure Try.prog 15 [num x] (num x) := by
  refine pure_of (ν := nu (numL x ++ numL d)) (noFacts_hold _) mixed tab_ok (fun r hr => ?_) rmod_says.1 (by kernel_rfl) (by kernel_rfl)
  simp only [rmodT0, List.mem_cons, List.not_mem_nil, or_false] at hr
  subst hr
  exact rowSubLt (x := x) (y := prime) (by decide) c1 (by kernel_rfl) (prC_conc _) (by rw [← hd]; kernel_rfl)
theorem rmod_core1 (x y d : Nat) (hx : x < B4) (c1 : prime ≤ x) (hy : y = x - prime) (c2 : y < prime) (hd : d = y + B4 - prime) : Pure Try.prog 15 [num x] (num y) := by
  refine pure_of (ν := nu (numL x ++ (numL y ++ numL d))) (noFacts_hold _) mixed tab_ok (fun r hr => ?_) rmod_says.2.1 (by kernel_rfl) (by kernel_rfl)
  simp only [rmodT1, List.mem_cons, List.not_mem_nil, or_false] at hr
  rcases hr with rfl | rfl
  · exact rowSubGe (x := x) (y := prime) hx c1 (by kernel_rfl) (prC_conc _) (by rw [← hy]; kernel_rfl)
  · exact rowSubLt (x := y) (y := prime) (by decide) c2 (by kernel_rfl) (prC_conc _) (by rw [← hd]; kernel_rfl)
theorem rmod_core2 (x y z d : Nat) (hx : x < B4) (c1 : prime ≤ x) (hy : y = x - prime) (c2 : prime ≤ y) (hz : z = y - prime) (c3 : z < prime) (hd : d = z + B4 - prime) : Pure Try.prog 15 [num x] (num z) := by
  refine pure_of (ν := nu (numL x ++ (numL y ++ (numL z ++ numL d)))) (noFacts_hold _) mixed tab_ok (fun r hr => ?_) rmod_says.2.2 (by kernel_rfl) (by kernel_rfl)
  simp only [rmodT2, List.mem_cons, List.not_mem_nil, or_false] at hr
  rcases hr with rfl | rfl | rfl
  · exact rowSubGe (x := x) (y := prime) hx c1 (by kernel_rfl) (prC_conc _) (by rw [← hy]; kernel_rfl)
  · exact rowSubGe (x := y) (y := prime) (by omega) c2 (by kernel_rfl) (prC_conc _) (by rw [← hz]; kernel_rfl)
  · exact rowSubLt (x := z) (y := prime) (by decide) c3 (by kernel_rfl) (prC_conc _) (by rw [← hd]; kernel_rfl)

theorem rMod_ok (x : Nat) (hx : x < B4) : Pure Try.prog 15 [num x] (num (x % prime)) := by
  by_cases c1 : x < prime
  · rw [Nat.mod_eq_of_lt c1]
    exact rmod_core0 x _ c1 rfl
  · by_cases c2 : x - prime < prime
    · rw [show x % prime = x - prime by rw [Nat.mod_eq_sub_mod (by omega), Nat.mod_eq_of_lt c2]]
      exact rmod_core1 x _ _ hx (by omega) rfl c2 rfl
    · have c3 : x - prime - prime < prime := by unfold prime B4 at *; omega
      rw [show x % prime = x - prime - prime by rw [Nat.mod_eq_sub_mod (by omega), Nat.mod_eq_sub_mod (by omega), Nat.mod_eq_of_lt c3]]
      exact rmod_core2 x _ _ _ hx (by omega) rfl (by omega) rfl c3 rfl

theorem rowModR {ν : Nat → Int} {p r : AV} {x : Nat} (hx : x < B4) (h1 : conc2 ν p = some (num x)) (h3 : conc ν r = some (num (x % prime))) : Row.Ok ν Try.prog ⟨15, [p], r⟩ := ⟨[num x], _, by simp [concT, h1], h3, rMod_ok x hx⟩

def rAddT : List Row := [⟨15, [ns 0], ns 8⟩, ⟨15, [ns 4], ns 12⟩, ⟨37, [ns 8, ns 12], .tp [ns 16, cK 0]⟩, ⟨15, [ns 16], ns 20⟩]
theorem rAdd_says : says noFacts tree rAddT 300 5 17 [ns 0, ns 4] (heap0 [] gmax) (ns 20) = true := by kernel_rfl
theorem rAdd_core (x y x' y' s r : Nat) (hx : x < B4) (hy : y < B4) (e1 : x' = x % prime) (e2 : y' = y % prime) (e3 : s = x' + y') (e4 : r = s % prime) : Pure Try.prog 17 [num x, num y] (num r) := by
  have l1 : x' < prime := by rw [e1]; exact lt_prime x
  have l2 : y' < prime := by rw [e2]; exact lt_prime y
  have l3 : x' + y' < B4 := by unfold prime B4 at *; omega
  refine pure_of (ν := nu (numL x ++ (numL y ++ (numL x' ++ (numL y' ++ (numL s ++ numL r)))))) (noFacts_hold _) mixed tab_ok (fun q hq => ?_) rAdd_says (by kernel_rfl) (by kernel_rfl)
  simp only [rAddT, List.mem_cons, List.not_mem_nil, or_false] at hq
  rcases hq with rfl | rfl | rfl | rfl
  · exact rowModR hx (by kernel_rfl) (by rw [← e1]; kernel_rfl)
  · exact rowModR hy (by kernel_rfl) (by rw [← e2]; kernel_rfl)
  · exact rowAddR (x := x') (y := y') (by omega) (by omega) l3 (by kernel_rfl) (by kernel_rfl) (by rw [← e3]; kernel_rfl)
  · exact rowModR (x := s) (by omega) (by kernel_rfl) (by rw [← e4]; kernel_rfl)
theorem rAdd_ok (x y : Nat) (hx : x < B4) (hy : y < B4) : Pure Try.prog 17 [num x, num y] (num ((x + y) % prime)) := rAdd_core x y _ _ _ _ hx hy rfl rfl rfl (Nat.add_mod x y prime)

def rSubT : List Row := [⟨15, [ns 0], ns 8⟩, ⟨37, [ns 8, prC], .tp [ns 12, cK 0]⟩, ⟨15, [ns 4], ns 16⟩, ⟨35, [ns 12, ns 16], .tp [ns 20, cK 0]⟩, ⟨15, [ns 20], ns 24⟩]
theorem rSub_says : says noFacts tree rSubT 300 5 19 [ns 0, ns 4] (heap0 [] gmax) (ns 24) = true := by kernel_rfl
theorem rSub_core (x y x' s y' t r : Nat) (hx : x < B4) (hy : y < B4) (e1 : x' = x % prime) (e2 : s = x' + prime) (e3 : y' = y % prime) (e4 : t = s - y') (e5 : r = t % prime) : Pure Try.prog 19 [num x, num y] (num r) := by
  have l1 : x' < prime := by rw [e1]; exact lt_prime x
  have l2 : y' < prime := by rw [e3]; exact lt_prime y
  have l3 : x' + prime < B4 := by unfold prime B4 at *; omega
  have l4 : y' ≤ s := by omega
  refine pure_of (ν := nu (numL x ++ (numL y ++ (numL x' ++ (numL s ++ (numL y' ++ (numL t ++ numL r))))))) (noFacts_hold _) mixed tab_ok (fun q hq => ?_) rSub_says (by kernel_rfl) (by kernel_rfl)
  simp only [rSubT, List.mem_cons, List.not_mem_nil, or_false] at hq
  rcases hq with rfl | rfl | rfl | rfl | rfl
  · exact rowModR hx (by kernel_rfl) (by rw [← e1]; kernel_rfl)
  · exact rowAddR (x := x') (y := prime) (by omega) (by decide) l3 (by kernel_rfl) (prC_conc _) (by rw [← e2]; kernel_rfl)
  · exact rowModR hy (by kernel_rfl) (by rw [← e3]; kernel_rfl)
  · exact rowSubGe (x := s) (y := y') (by omega) l4 (by kernel_rfl) (by kernel_rfl) (by rw [← e4]; kernel_rfl)
  · exact rowModR (x := t) (by omega) (by kernel_rfl) (by rw [← e5]; kernel_rfl)
theorem rSub_ok (x y : Nat) (hx : x < B4) (hy : y < B4) : Pure Try.prog 19 [num x, num y] (num ((x + (prime - y % prime)) % prime)) := by
  refine Pure.to (rSub_core x y _ _ _ _ _ hx hy rfl rfl rfl rfl rfl) rfl ?_
  have h1 := lt_prime y
  rw [Nat.add_sub_assoc (Nat.le_of_lt h1), Nat.mod_add_mod]

end Go.Proofs.Ytdillfhieilgnaa
