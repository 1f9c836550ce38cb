/-
  poly: numbers in five parts. Own work.
-/
import Derived.Test.YtbdihdncnpajgaaPod
namespace Go.Proofs.Ytbdihdncnpajgaa
open Go.Sh
open Go.ChangeShapes Go.WideShapes Go.ChangeAt Go.RowKit
set_option maxRecDepth 100000

def pp : Nat := 1361129467683753853853498429727072845819
def L5.cast (l : L5 Nat) : L5 Int := ⟨(l.a : Int), (l.b : Int), (l.c : Int), (l.d : Int), (l.e : Int)⟩
def n5 (l : L5 Nat) : Nat := l.a + l.b * 67108864 + l.c * 4503599627370496 + l.d * 302231454903657293676544 + l.e * 20282409603651670423947251286016
theorem addN (x y : Nat) (h : x + y < 18446744073709551616) : arith .add .u64 (x : Int) (y : Int) = ((x + y : Nat) : Int) := by
  show IntKind.u64.wrap ((x : Int) + (y : Int)) = _
  rw [← Int.natCast_add, w_u64 h]
theorem mulN (x y : Nat) (h : x * y < 18446744073709551616) : arith .mul .u64 (x : Int) (y : Int) = ((x * y : Nat) : Int) := by
  show IntKind.u64.wrap ((x : Int) * (y : Int)) = _
  rw [← Int.natCast_mul, w_u64 h]
theorem shr26 (x : Nat) : arith .shr .u64 (x : Int) ((26 : Nat) : Int) = ((x / 67108864 : Nat) : Int) := shrN (k := .u64) x 26 (by decide)
theorem andM {k : IntKind} (hk : k = .u64 ∨ k = .u32 ∨ k = .u8) (x m s : Nat) (hm : m + 1 = 2 ^ s) (hs : 2 ^ s ≤ 2 ^ k.bits) (hx : x < 2 ^ k.bits) : arith .and k (x : Int) (m : Int) = ((x % 2 ^ s : Nat) : Int) := by
  have hm' : m < 2 ^ k.bits := by omega
  have e : arith .and k (x : Int) (m : Int) = k.wrap (((BitVec.ofInt k.bits (x : Int) &&& BitVec.ofInt k.bits (m : Int)).toNat : Nat) : Int) := by
    rcases hk with rfl | rfl | rfl <;> rfl
  have t1 : (BitVec.ofInt k.bits (x : Int)).toNat = x := by
    rw [BitVec.ofInt_natCast, BitVec.toNat_ofNat, Nat.mod_eq_of_lt hx]
  have t2 : (BitVec.ofInt k.bits (m : Int)).toNat = m := by
    rw [BitVec.ofInt_natCast, BitVec.toNat_ofNat, Nat.mod_eq_of_lt hm']
  have e2 : m = 2 ^ s - 1 := by omega
  rw [e, BitVec.toNat_and, t1, t2, e2, Nat.and_two_pow_sub_one_eq_mod]
  have hlt : x % 2 ^ s < 2 ^ k.bits := Nat.lt_of_le_of_lt (Nat.mod_le _ _) hx
  generalize x % 2 ^ s = y at hlt
  rcases hk with rfl | rfl | rfl
  · exact w_u64 hlt
  · rw [w_u32, Nat.mod_eq_of_lt (show y < 4294967296 from hlt)]
  · rw [w_u8, Nat.mod_eq_of_lt (show y < 256 from hlt)]
theorem and26 (x : Nat) (h : x < 18446744073709551616) : arith .and .u64 (x : Int) ((67108863 : Nat) : Int) = ((x % 67108864 : Nat) : Int) := andM (.inl rfl) x 67108863 26 (by decide) (by decide) h
def rndN (l : L5 Nat) : L5 Nat :=
  let t1 := l.b + l.a / 67108864
  let t2 := l.c + t1 / 67108864
  let t3 := l.d + t2 / 67108864
  let t4 := l.e + t3 / 67108864
  ⟨l.a % 67108864 + 5 * (t4 / 67108864), t1 % 67108864, t2 % 67108864, t3 % 67108864, t4 % 67108864⟩
def endN (q : L5 Nat) : L5 Nat := ⟨q.a % 67108864, q.b + q.a / 67108864, q.c, q.d, q.e⟩
def B5 (l : L5 Nat) (m : Nat) : Prop := l.a < m ∧ l.b < m ∧ l.c < m ∧ l.d < m ∧ l.e < m
theorem rnd_num {l : L5 Nat} (h : B5 l 4611686018427387904) : rndI l.cast = (rndN l).cast := by
  obtain ⟨h1, h2, h3, h4, h5⟩ := h
  obtain ⟨a, b, c, d, e⟩ := l
  simp only at h1 h2 h3 h4 h5
  simp only [rndI, rndN, L5.cast]
  rw [shr26, addN _ _ (by omega), shr26, addN _ _ (by omega), shr26, addN _ _ (by omega), shr26, addN _ _ (by omega), shr26, mulN _ _ (by omega), and26 _ (by omega), addN _ _ (by omega), and26 _ (by omega), and26 _ (by omega), and26 _ (by omega), and26 _ (by omega)]
theorem end_num {l : L5 Nat} (h : B5 l 4611686018427387904) : endI l.cast = (endN l).cast := by
  obtain ⟨h1, h2, h3, h4, h5⟩ := h
  obtain ⟨a, b, c, d, e⟩ := l
  simp only at h1 h2 h3 h4 h5
  simp only [endI, endN, L5.cast]
  rw [shr26, addN _ _ (by omega), and26 _ (by omega)]
theorem rnd_one {l : L5 Nat} (h : B5 l 4611686018427387904) : (rndN l).a < 549755813888 ∧ (rndN l).b < 67108864 ∧ (rndN l).c < 67108864 ∧ (rndN l).d < 67108864 ∧ (rndN l).e < 67108864 ∧ ∃ k, n5 l = n5 (rndN l) + k * pp := by
  obtain ⟨h1, h2, h3, h4, h5⟩ := h
  obtain ⟨a, b, c, d, e⟩ := l
  simp only at h1 h2 h3 h4 h5
  simp only [rndN, n5, pp]
  refine ⟨by omega, by omega, by omega, by omega, by omega, (e + (d + (c + (b + a / 67108864) / 67108864) / 67108864) / 67108864) / 67108864, ?_⟩
  omega
theorem rnd_two {l : L5 Nat} (h1 : l.a < 549755813888) (h2 : l.b < 67108864) (h3 : l.c < 67108864) (h4 : l.d < 67108864) (h5 : l.e < 67108864) : (rndN l).b < 67108864 ∧ (rndN l).c < 67108864 ∧ (rndN l).d < 67108864 ∧ (rndN l).e < 67108864 ∧ ((rndN l).a < 67108864 ∨ ((rndN l).a < 67108880 ∧ (rndN l).b < 1048576)) := by
  obtain ⟨a, b, c, d, e⟩ := l
  simp only at h1 h2 h3 h4 h5
  simp only [rndN]
  refine ⟨by omega, by omega, by omega, by omega, ?_⟩
  omega
/-- What settles: the same number but for so many times the prime; each part below 2^26. -/
theorem st_num {v : Wd} {l : L5 Nat} (hv : L5.of v = l.cast) (h : B5 l 4611686018427387904) : ∃ r : L5 Nat, L5.of (stI v) = r.cast ∧ B5 r 67108864 ∧ n5 l % pp = n5 r % pp := by
  obtain ⟨a1, a2, a3, a4, a5, k, hk⟩ := rnd_one h
  have hb : B5 (rndN l) 4611686018427387904 := ⟨by omega, by omega, by omega, by omega, by omega⟩
  obtain ⟨_, _, _, _, _, k2, hk2⟩ := rnd_one hb
  obtain ⟨b2, b3, b4, b5, b1⟩ := rnd_two a1 a2 a3 a4 a5
  have hb2 : B5 (rndN (rndN l)) 4611686018427387904 := ⟨by omega, by omega, by omega, by omega, by omega⟩
  refine ⟨endN (rndN (rndN l)), ?_, ?_, ?_⟩
  · have e : endI (rndI (rndI (L5.of v))) = (endN (rndN (rndN l))).cast := by rw [hv, rnd_num h, rnd_num hb, end_num hb2]
    rw [← e]
    rfl
  · generalize rndN (rndN l) = q at *
    refine ⟨?_, ?_, b3, b4, b5⟩
    · show q.a % 67108864 < _
      omega
    · show q.b + q.a / 67108864 < _
      omega
  · have e3 : n5 (endN (rndN (rndN l))) = n5 (rndN (rndN l)) := by
      generalize rndN (rndN l) = q
      simp only [n5, endN]
      omega
    rw [e3, hk, hk2, Nat.add_mul_mod_self_right, Nat.add_mul_mod_self_right]
/-! what times makes -/
def mlN (h r : L5 Nat) : L5 Nat :=
  ⟨h.a * r.a + 5 * h.b * r.e + 5 * h.c * r.d + 5 * h.d * r.c + 5 * h.e * r.b,
   h.a * r.b + h.b * r.a + 5 * h.c * r.e + 5 * h.d * r.d + 5 * h.e * r.c,
   h.a * r.c + h.b * r.b + h.c * r.a + 5 * h.d * r.e + 5 * h.e * r.d,
   h.a * r.d + h.b * r.c + h.c * r.b + h.d * r.a + 5 * h.e * r.e,
   h.a * r.e + h.b * r.d + h.c * r.c + h.d * r.b + h.e * r.a⟩
def pA (x y : Int) : Int := arith .add .u64 x y
def pM (x y : Int) : Int := arith .mul .u64 x y
theorem mulI_at (h r : Wd) : L5.of (mulI h r) = ⟨pA (pA (pA (pA (pA 0 (pM (h 0) (r 0))) (pM (pM ((5 : Nat) : Int) (h 1)) (r 4))) (pM (pM ((5 : Nat) : Int) (h 2)) (r 3))) (pM (pM ((5 : Nat) : Int) (h 3)) (r 2))) (pM (pM ((5 : Nat) : Int) (h 4)) (r 1)),
    pA (pA (pA (pA (pA 0 (pM (h 0) (r 1))) (pM (h 1) (r 0))) (pM (pM ((5 : Nat) : Int) (h 2)) (r 4))) (pM (pM ((5 : Nat) : Int) (h 3)) (r 3))) (pM (pM ((5 : Nat) : Int) (h 4)) (r 2)),
    pA (pA (pA (pA (pA 0 (pM (h 0) (r 2))) (pM (h 1) (r 1))) (pM (h 2) (r 0))) (pM (pM ((5 : Nat) : Int) (h 3)) (r 4))) (pM (pM ((5 : Nat) : Int) (h 4)) (r 3)),
    pA (pA (pA (pA (pA 0 (pM (h 0) (r 3))) (pM (h 1) (r 2))) (pM (h 2) (r 1))) (pM (h 3) (r 0))) (pM (pM ((5 : Nat) : Int) (h 4)) (r 4)),
    pA (pA (pA (pA (pA 0 (pM (h 0) (r 4))) (pM (h 1) (r 3))) (pM (h 2) (r 2))) (pM (h 3) (r 1))) (pM (h 4) (r 0))⟩ := rfl
theorem five {x0 x1 x2 x3 x4 : Nat} (h : x0 < 2000000000000000000 ∧ x1 < 2000000000000000000 ∧ x2 < 2000000000000000000 ∧ x3 < 2000000000000000000 ∧ x4 < 2000000000000000000) : pA (pA (pA (pA (pA 0 (x0 : Int)) (x1 : Int)) (x2 : Int)) (x3 : Int)) (x4 : Int) = ((x0 + x1 + x2 + x3 + x4 : Nat) : Int) := by
  unfold pA
  rw [show (0 : Int) = ((0 : Nat) : Int) from rfl, addN _ _ (by omega), addN _ _ (by omega), addN _ _ (by omega), addN _ _ (by omega), addN _ _ (by omega), Nat.zero_add]
theorem prod_lt {x y : Nat} (hx : x < 67108864) (hy : y < 67108864) : x * y < 4503599627370496 := Nat.mul_lt_mul'' hx hy
theorem p1 {x y : Nat} (hx : x < 67108864) (hy : y < 67108864) : pM (x : Int) (y : Int) = ((x * y : Nat) : Int) ∧ x * y < 2000000000000000000 := by
  have := prod_lt hx hy
  exact ⟨mulN _ _ (by omega), by omega⟩
theorem p5 {x y : Nat} (hx : x < 67108864) (hy : y < 67108864) : pM (pM ((5 : Nat) : Int) (x : Int)) (y : Int) = ((5 * x * y : Nat) : Int) ∧ 5 * x * y < 2000000000000000000 := by
  have := prod_lt hx hy
  rw [Nat.mul_assoc]
  have e : pM ((5 : Nat) : Int) (x : Int) = ((5 * x : Nat) : Int) := mulN _ _ (by omega)
  rw [e]
  refine ⟨?_, by omega⟩
  show arith .mul .u64 ((5 * x : Nat) : Int) (y : Int) = _
  rw [mulN _ _ (by rw [Nat.mul_assoc]; omega), Nat.mul_assoc]
theorem ml_num {h r : Wd} {x y : L5 Nat} (hh : L5.of h = x.cast) (hr : L5.of r = y.cast) (hx : B5 x 67108864) (hy : B5 y 67108864) : L5.of (mulI h r) = (mlN x y).cast ∧ B5 (mlN x y) 4611686018427387904 := by
  obtain ⟨x1, x2, x3, x4, x5⟩ := hx
  obtain ⟨y1, y2, y3, y4, y5⟩ := hy
  obtain ⟨a, b, c, d, e⟩ := x
  obtain ⟨f, g, i, j, k⟩ := y
  simp only at x1 x2 x3 x4 x5 y1 y2 y3 y4 y5
  simp only [L5.of, L5.cast, L5.mk.injEq] at hh hr
  obtain ⟨h0, h1, h2, h3, h4⟩ := hh
  obtain ⟨r0, r1, r2, r3, r4⟩ := hr
  rw [mulI_at]
  simp only [h0, h1, h2, h3, h4, r0, r1, r2, r3, r4]
  rw [(p1 x1 y1).1, (p5 x2 y5).1, (p5 x3 y4).1, (p5 x4 y3).1, (p5 x5 y2).1, (p1 x1 y2).1, (p1 x2 y1).1, (p5 x3 y5).1, (p5 x4 y4).1, (p5 x5 y3).1, (p1 x1 y3).1, (p1 x2 y2).1, (p1 x3 y1).1, (p5 x4 y5).1, (p5 x5 y4).1, (p1 x1 y4).1, (p1 x2 y3).1, (p1 x3 y2).1, (p1 x4 y1).1, (p5 x5 y5).1, (p1 x1 y5).1, (p1 x2 y4).1, (p1 x3 y3).1, (p1 x4 y2).1, (p1 x5 y1).1]
  rw [five ⟨(p1 x1 y1).2, (p5 x2 y5).2, (p5 x3 y4).2, (p5 x4 y3).2, (p5 x5 y2).2⟩, five ⟨(p1 x1 y2).2, (p1 x2 y1).2, (p5 x3 y5).2, (p5 x4 y4).2, (p5 x5 y3).2⟩, five ⟨(p1 x1 y3).2, (p1 x2 y2).2, (p1 x3 y1).2, (p5 x4 y5).2, (p5 x5 y4).2⟩,
    five ⟨(p1 x1 y4).2, (p1 x2 y3).2, (p1 x3 y2).2, (p1 x4 y1).2, (p5 x5 y5).2⟩, five ⟨(p1 x1 y5).2, (p1 x2 y4).2, (p1 x3 y3).2, (p1 x4 y2).2, (p1 x5 y1).2⟩]
  refine ⟨rfl, ?_⟩
  have q1 := prod_lt x1 y1; have q2 := prod_lt x2 y5; have q3 := prod_lt x3 y4; have q4 := prod_lt x4 y3; have q5 := prod_lt x5 y2
  have q6 := prod_lt x1 y2; have q7 := prod_lt x2 y1; have q8 := prod_lt x3 y5; have q9 := prod_lt x4 y4; have q10 := prod_lt x5 y3
  have q11 := prod_lt x1 y3; have q12 := prod_lt x2 y2; have q13 := prod_lt x3 y1; have q14 := prod_lt x4 y5; have q15 := prod_lt x5 y4
  have q16 := prod_lt x1 y4; have q17 := prod_lt x2 y3; have q18 := prod_lt x3 y2; have q19 := prod_lt x4 y1; have q20 := prod_lt x5 y5
  have q21 := prod_lt x1 y5; have q22 := prod_lt x2 y4; have q23 := prod_lt x3 y3; have q24 := prod_lt x4 y2; have q25 := prod_lt x5 y1
  simp only [mlN, B5, Nat.mul_assoc]
  refine ⟨?_, ?_, ?_, ?_, ?_⟩ <;> omega
theorem ml_mod (x y : L5 Nat) : n5 (mlN x y) % pp = n5 x * n5 y % pp := by
  obtain ⟨a, b, c, d, e⟩ := x
  obtain ⟨f, g, i, j, k⟩ := y
  have h : n5 ⟨a, b, c, d, e⟩ * n5 ⟨f, g, i, j, k⟩ = n5 (mlN ⟨a, b, c, d, e⟩ ⟨f, g, i, j, k⟩) + (b * k + c * j + d * i + e * g + (c * k + d * j + e * i) * 67108864 + (d * k + e * j) * 4503599627370496 + e * k * 302231454903657293676544) * pp := by
    simp only [n5, mlN, pp]
    grind
  rw [h, Nat.add_mul_mod_self_right]
end Go.Proofs.Ytbdihdncnpajgaa
