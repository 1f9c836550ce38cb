/-
  NUMBERS OF FOUR WORDS, AND OF THIRTY-TWO BYTES. Own work.
-/
import Derived.Test.YtnlhpiieihnbiaaDoorShY
import Derived.KernelRfl
import Derived.Lib.Mul64
namespace Go.Sh

def u64 (x : Nat) : Value := .int .u64 (x : Int)
def u8 (x : Nat) : Value := .int .u8 (x : Int)
def wd (k : Nat) : AV := .i .u64 (.s k)
def bt (k : Nat) : AV := .i .u8 (.s k)
def ns (k : Nat) : AV := .ag [.i .u64 (.s k), .i .u64 (.s (k + 1)), .i .u64 (.s (k + 2)), .i .u64 (.s (k + 3))]
def bs (k : Nat) : AV := .ag [bt k, bt (k + 1), bt (k + 2), bt (k + 3), bt (k + 4), bt (k + 5), bt (k + 6), bt (k + 7), bt (k + 8), bt (k + 9), bt (k + 10), bt (k + 11), bt (k + 12), bt (k + 13), bt (k + 14), bt (k + 15),
  bt (k + 16), bt (k + 17), bt (k + 18), bt (k + 19), bt (k + 20), bt (k + 21), bt (k + 22), bt (k + 23), bt (k + 24), bt (k + 25), bt (k + 26), bt (k + 27), bt (k + 28), bt (k + 29), bt (k + 30), bt (k + 31)]
/-- Names of numbers. -/
def nu (l : List Nat) : Nat → Int := fun k => ((l.getD k 0 : Nat) : Int)

def w0 (x : Nat) : Nat := x % 18446744073709551616
def w1 (x : Nat) : Nat := x / 18446744073709551616 % 18446744073709551616
def w2 (x : Nat) : Nat := x / 340282366920938463463374607431768211456 % 18446744073709551616
def w3 (x : Nat) : Nat := x / 6277101735386680763835789423207666416102355444464034512896 % 18446744073709551616
def B4 : Nat := 115792089237316195423570985008687907853269984665640564039457584007913129639936
def n4 (a b c d : Nat) : Value := .agg #[u64 a, u64 b, u64 c, u64 d]
def num (x : Nat) : Value := n4 (w0 x) (w1 x) (w2 x) (w3 x)
def numL (x : Nat) : List Nat := [w0 x, w1 x, w2 x, w3 x]
def prime : Nat := 57896044618658097711785492504343953926634992332820282019728792003956564819949

theorem w_lt (x : Nat) : w0 x < 18446744073709551616 ∧ w1 x < 18446744073709551616 ∧ w2 x < 18446744073709551616 ∧ w3 x < 18446744073709551616 := by
  unfold w0 w1 w2 w3
  exact ⟨Nat.mod_lt _ (by decide), Nat.mod_lt _ (by decide), Nat.mod_lt _ (by decide), Nat.mod_lt _ (by decide)⟩

/-- A number by its words. -/
theorem split4 (x : Nat) : x = w0 x + w1 x * 18446744073709551616 + w2 x * 340282366920938463463374607431768211456 + w3 x * 6277101735386680763835789423207666416102355444464034512896 + x / B4 * B4 := by
  unfold w0 w1 w2 w3 B4
  omega

theorem dig4 {a b c d e x : Nat} (ha : a < 18446744073709551616) (hb : b < 18446744073709551616) (hc : c < 18446744073709551616) (hd : d < 18446744073709551616)
    (h : x = a + b * 18446744073709551616 + c * 340282366920938463463374607431768211456 + d * 6277101735386680763835789423207666416102355444464034512896 + e * B4) :
    w0 x = a ∧ w1 x = b ∧ w2 x = c ∧ w3 x = d ∧ x / B4 = e := by
  subst h
  unfold w0 w1 w2 w3 B4
  refine ⟨by omega, by omega, by omega, by omega, by omega⟩

theorem num_of {a b c d e x : Nat} (ha : a < 18446744073709551616) (hb : b < 18446744073709551616) (hc : c < 18446744073709551616) (hd : d < 18446744073709551616)
    (h : x = a + b * 18446744073709551616 + c * 340282366920938463463374607431768211456 + d * 6277101735386680763835789423207666416102355444464034512896 + e * B4) : n4 a b c d = num x := by
  obtain ⟨h0, h1, h2, h3, _⟩ := dig4 ha hb hc hd h
  unfold num
  rw [h0, h1, h2, h3]

theorem num_mod (x : Nat) : num (x % B4) = num x := by
  have h := split4 (x % B4)
  obtain ⟨l0, l1, l2, l3⟩ := w_lt (x % B4)
  refine num_of (e := x / B4) l0 l1 l2 l3 ?_
  have : x % B4 / B4 = 0 := Nat.div_eq_of_lt (Nat.mod_lt _ (by decide))
  rw [this] at h
  have := Nat.div_add_mod' x B4
  omega

/-! What the operators make of words. -/

theorem wrap64 (n : Int) : IntKind.u64.wrap n = n % 18446744073709551616 := by simp [IntKind.wrap, IntKind.signed, IntKind.bits]
theorem wrap8 (n : Int) : IntKind.u8.wrap n = n % 256 := by simp [IntKind.wrap, IntKind.signed, IntKind.bits]

theorem a_add (x y : Nat) : arith .add .u64 (x : Int) (y : Int) = (((x + y) % 18446744073709551616 : Nat) : Int) := by
  simp only [arith, wrap64]; omega
theorem a_mul (x y : Nat) : arith .mul .u64 (x : Int) (y : Int) = (((x * y) % 18446744073709551616 : Nat) : Int) := by
  simp only [arith, wrap64]
  rw [← Int.natCast_mul, Int.natCast_emod]; rfl
theorem a_shr (k : IntKind) (x n : Nat) (hn : n ≤ k.bits) : arith .shr k (x : Int) (n : Int) = ((x / 2 ^ n : Nat) : Int) := by
  simp only [arith, Int.toNat_natCast, Nat.min_eq_left hn]
  rw [Int.fdiv_eq_ediv_of_nonneg _ (by exact Int.pow_nonneg (by decide))]
  simp
theorem a_shl (x n : Nat) (hn : n ≤ 64) : arith .shl .u64 (x : Int) (n : Int) = ((x * 2 ^ n % 18446744073709551616 : Nat) : Int) := by
  simp only [arith, Int.toNat_natCast, IntKind.bits, Nat.min_eq_left hn, wrap64]
  rw [Int.natCast_emod, Int.natCast_mul]
  simp

theorem bvn (x : Nat) : (BitVec.ofInt 64 (x : Int)).toNat = x % 18446744073709551616 := by
  simp

theorem a_and (x y : Nat) : arith .and .u64 (x : Int) (y : Int) = (((x % 18446744073709551616) &&& (y % 18446744073709551616) : Nat) : Int) := by
  have h : (BitVec.ofInt 64 (x : Int) &&& BitVec.ofInt 64 (y : Int)).toNat = (x % 18446744073709551616) &&& (y % 18446744073709551616) := by
    rw [BitVec.toNat_and, bvn, bvn]
  have hl : (BitVec.ofInt 64 (x : Int) &&& BitVec.ofInt 64 (y : Int)).toNat < 18446744073709551616 := (BitVec.ofInt 64 (x : Int) &&& BitVec.ofInt 64 (y : Int)).isLt
  show IntKind.u64.wrap ((BitVec.ofInt 64 (x : Int) &&& BitVec.ofInt 64 (y : Int)).toNat : Int) = _
  rw [wrap64, h]
  rw [h] at hl
  omega

theorem a_or (x y : Nat) : arith .or .u64 (x : Int) (y : Int) = (((x % 18446744073709551616) ||| (y % 18446744073709551616) : Nat) : Int) := by
  have h : (BitVec.ofInt 64 (x : Int) ||| BitVec.ofInt 64 (y : Int)).toNat = (x % 18446744073709551616) ||| (y % 18446744073709551616) := by
    rw [BitVec.toNat_or, bvn, bvn]
  have hl : (BitVec.ofInt 64 (x : Int) ||| BitVec.ofInt 64 (y : Int)).toNat < 18446744073709551616 := (BitVec.ofInt 64 (x : Int) ||| BitVec.ofInt 64 (y : Int)).isLt
  show IntKind.u64.wrap ((BitVec.ofInt 64 (x : Int) ||| BitVec.ofInt 64 (y : Int)).toNat : Int) = _
  rw [wrap64, h]
  rw [h] at hl
  omega

theorem a_mask (x k m : Nat) (hm : m = 2 ^ k - 1) (hk : k ≤ 64) : arith .and .u64 (x : Int) (m : Int) = ((x % 2 ^ k : Nat) : Int) := by
  subst hm
  rw [a_and]
  have h2 : 2 ^ k - 1 < 18446744073709551616 := by
    have : 2 ^ k ≤ 2 ^ 64 := Nat.pow_le_pow_right (by decide) hk
    omega
  rw [Nat.mod_eq_of_lt h2, Nat.and_two_pow_sub_one_eq_mod]
  congr 1
  have : (18446744073709551616 : Nat) = 2 ^ 64 := rfl
  rw [this]
  exact Nat.mod_mod_of_dvd _ (Nat.pow_dvd_pow 2 hk)

theorem a_disj (x y k : Nat) (hk : k ≤ 64) (hx : x < 2 ^ k) (hy : 2 ^ k * y < 18446744073709551616) : arith .or .u64 (x : Int) ((2 ^ k * y : Nat) : Int) = ((x + 2 ^ k * y : Nat) : Int) := by
  have hx' : x < 18446744073709551616 := by
    have : 2 ^ k ≤ 2 ^ 64 := Nat.pow_le_pow_right (by decide) hk
    omega
  rw [a_or, Nat.mod_eq_of_lt hy, Nat.mod_eq_of_lt hx', Nat.or_comm, ← Nat.two_pow_add_eq_or_of_lt hx, Nat.add_comm]

/-! Powers, worked out. -/

def pm (f : Nat) : Nat → Nat → Nat := @Nat.rec (fun _ => Nat → Nat → Nat) (fun _ _ => 1 % prime) (fun _ ih a e => if e % 2 = 1 then a * ih (a * a % prime) (e / 2) % prime else ih (a * a % prime) (e / 2)) f

theorem pm_eq : ∀ (f a e : Nat), e < 2 ^ f → pm f a e = a ^ e % prime := by
  intro f
  induction f with
  | zero =>
    intro a e h
    have : e = 0 := by simpa using h
    subst this
    rfl
  | succ f ih =>
    intro a e h
    have h2 : e / 2 < 2 ^ f := by rw [Nat.pow_succ] at h; omega
    show (if e % 2 = 1 then a * pm f (a * a % prime) (e / 2) % prime else pm f (a * a % prime) (e / 2)) = _
    have e1 : (a * a % prime) ^ (e / 2) % prime = a ^ (e / 2 + e / 2) % prime := by
      rw [← Nat.pow_mod, Nat.mul_pow, Nat.pow_add]
    rw [ih _ _ h2, e1]
    split
    · rename_i ho
      rw [Nat.mul_mod_mod, Nat.mul_comm, ← Nat.pow_succ]
      congr 2
      omega
    · congr 2
      omega

/-! Bytes. -/

def bL (y : Nat) : List Nat := [y % 256, y / 256 % 256, y / 65536 % 256, y / 16777216 % 256, y / 4294967296 % 256, y / 1099511627776 % 256, y / 281474976710656 % 256, y / 72057594037927936 % 256]
def byL (x : Nat) : List Nat := bL (w0 x) ++ bL (w1 x) ++ bL (w2 x) ++ bL (w3 x)
/-- A number's 32 bytes. -/
def byt (x : Nat) : Value := .agg ((byL x).map u8).toArray

theorem a_w8 (x : Nat) : IntKind.u8.wrap (x : Int) = ((x % 256 : Nat) : Int) := by rw [wrap8]; omega
theorem a_w64 (x : Nat) (hx : x < 18446744073709551616) : IntKind.u64.wrap (x : Int) = (x : Int) := by rw [wrap64]; omega

theorem a_orS (acc b n : Nat) (hn : n ≤ 56) (ha : acc < 2 ^ n) (hb : b < 256) : arith .or .u64 (acc : Int) (arith .shl .u64 (IntKind.u64.wrap (b : Int)) (n : Int)) = ((acc + 2 ^ n * b : Nat) : Int) := by
  have h1 : 2 ^ n * b ≤ 2 ^ 56 * 255 := Nat.mul_le_mul (Nat.pow_le_pow_right (by decide) hn) (by omega)
  rw [a_w64 b (by omega), a_shl b n (by omega), Nat.mul_comm b, Nat.mod_eq_of_lt (by omega), a_disj acc b n (by omega) ha (by omega)]

/-- Eight bytes, read. -/
def rdE (k : Nat) : AI := .e .or .u64 (.e .or .u64 (.e .or .u64 (.e .or .u64 (.e .or .u64 (.e .or .u64 (.e .or .u64 (.w .u64 (.s k)) (.e .shl .u64 (.w .u64 (.s (k + 1))) (.c (.ofNat 8)))) (.e .shl .u64 (.w .u64 (.s (k + 2))) (.c (.ofNat 16)))) (.e .shl .u64 (.w .u64 (.s (k + 3))) (.c (.ofNat 24))))
  (.e .shl .u64 (.w .u64 (.s (k + 4))) (.c (.ofNat 32)))) (.e .shl .u64 (.w .u64 (.s (k + 5))) (.c (.ofNat 40)))) (.e .shl .u64 (.w .u64 (.s (k + 6))) (.c (.ofNat 48)))) (.e .shl .u64 (.w .u64 (.s (k + 7))) (.c (.ofNat 56)))

theorem rdE_val {ν : Nat → Int} {k : Nat} (b0 b1 b2 b3 b4 b5 b6 b7 : Nat) (h0 : ν k = b0) (h1 : ν (k + 1) = b1) (h2 : ν (k + 2) = b2) (h3 : ν (k + 3) = b3) (h4 : ν (k + 4) = b4) (h5 : ν (k + 5) = b5) (h6 : ν (k + 6) = b6) (h7 : ν (k + 7) = b7)
    (l0 : b0 < 256) (l1 : b1 < 256) (l2 : b2 < 256) (l3 : b3 < 256) (l4 : b4 < 256) (l5 : b5 < 256) (l6 : b6 < 256) (l7 : b7 < 256) :
    (rdE k).val ν = ((b0 + 256 * b1 + 65536 * b2 + 16777216 * b3 + 4294967296 * b4 + 1099511627776 * b5 + 281474976710656 * b6 + 72057594037927936 * b7 : Nat) : Int) := by
  show arith .or .u64 (arith .or .u64 (arith .or .u64 (arith .or .u64 (arith .or .u64 (arith .or .u64 (arith .or .u64 (IntKind.u64.wrap (ν k)) (arith .shl .u64 (IntKind.u64.wrap (ν (k + 1))) ((8 : Nat) : Int))) (arith .shl .u64 (IntKind.u64.wrap (ν (k + 2))) ((16 : Nat) : Int))) (arith .shl .u64 (IntKind.u64.wrap (ν (k + 3))) ((24 : Nat) : Int)))
    (arith .shl .u64 (IntKind.u64.wrap (ν (k + 4))) ((32 : Nat) : Int))) (arith .shl .u64 (IntKind.u64.wrap (ν (k + 5))) ((40 : Nat) : Int))) (arith .shl .u64 (IntKind.u64.wrap (ν (k + 6))) ((48 : Nat) : Int))) (arith .shl .u64 (IntKind.u64.wrap (ν (k + 7))) ((56 : Nat) : Int)) = _
  rw [h0, h1, h2, h3, h4, h5, h6, h7, a_w64 b0 (by omega)]
  rw [a_orS b0 b1 8 (by decide) (by omega) l1, a_orS _ b2 16 (by decide) (by omega) l2, a_orS _ b3 24 (by decide) (by omega) l3, a_orS _ b4 32 (by decide) (by omega) l4, a_orS _ b5 40 (by decide) (by omega) l5, a_orS _ b6 48 (by decide) (by omega) l6, a_orS _ b7 56 (by decide) (by omega) l7]

theorem rdE_word {ν : Nat → Int} {k y : Nat} (hy : y < 18446744073709551616) (h0 : ν k = ((y % 256 : Nat) : Int)) (h1 : ν (k + 1) = ((y / 256 % 256 : Nat) : Int)) (h2 : ν (k + 2) = ((y / 65536 % 256 : Nat) : Int)) (h3 : ν (k + 3) = ((y / 16777216 % 256 : Nat) : Int)) (h4 : ν (k + 4) = ((y / 4294967296 % 256 : Nat) : Int))
    (h5 : ν (k + 5) = ((y / 1099511627776 % 256 : Nat) : Int)) (h6 : ν (k + 6) = ((y / 281474976710656 % 256 : Nat) : Int)) (h7 : ν (k + 7) = ((y / 72057594037927936 % 256 : Nat) : Int)) : (rdE k).val ν = (y : Int) := by
  have hm : ∀ z, z % 256 < 256 := fun z => Nat.mod_lt _ (by decide)
  rw [rdE_val _ _ _ _ _ _ _ _ h0 h1 h2 h3 h4 h5 h6 h7 (hm _) (hm _) (hm _) (hm _) (hm _) (hm _) (hm _) (hm _)]
  congr 1
  omega

/-- A byte of a word, laid. -/
theorem layE_val {ν : Nat → Int} {k y : Nat} (h : ν k = (y : Int)) (n : Nat) (hn : n ≤ 64) : (AI.w .u8 (.e .shr .u64 (.s k) (.c (.ofNat n)))).val ν = ((y / 2 ^ n % 256 : Nat) : Int) := by
  show IntKind.u8.wrap (arith .shr .u64 (ν k) ((n : Nat) : Int)) = _
  rw [h, a_shr .u64 y n hn, a_w8]

end Go.Sh
