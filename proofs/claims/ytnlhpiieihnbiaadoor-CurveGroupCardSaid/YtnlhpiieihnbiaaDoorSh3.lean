/-
  NUMBERS MODULO THE PRIME, as whole numbers. Own work.
-/
import Derived.Test.YtnlhpiieihnbiaaDoorShZ
namespace Go.Sh

theorem mA (a b p : Int) : (a % p + b) % p = (a + b) % p := by rw [Int.add_emod, Int.emod_emod, ← Int.add_emod]
theorem mA' (a b p : Int) : (a + b % p) % p = (a + b) % p := by rw [Int.add_emod, Int.emod_emod, ← Int.add_emod]
theorem mS (a b p : Int) : (a % p - b) % p = (a - b) % p := by rw [Int.sub_emod, Int.emod_emod, ← Int.sub_emod]
theorem mS' (a b p : Int) : (a - b % p) % p = (a - b) % p := by rw [Int.sub_emod, Int.emod_emod, ← Int.sub_emod]
theorem mM (a b p : Int) : (a % p * b) % p = (a * b) % p := by rw [Int.mul_emod, Int.emod_emod, ← Int.mul_emod]
theorem mM' (a b p : Int) : (a * (b % p)) % p = (a * b) % p := by rw [Int.mul_emod, Int.emod_emod, ← Int.mul_emod]

theorem subI (x y : Nat) : (((x + (prime - y % prime)) % prime : Nat) : Int) = ((x : Int) - y) % (prime : Int) := by
  unfold prime
  omega
theorem addI (x y : Nat) : (((x + y) % prime : Nat) : Int) = ((x : Int) + y) % (prime : Int) := by
  rw [Int.natCast_emod, Int.natCast_add]
theorem mulI (x y : Nat) : ((x * y % prime : Nat) : Int) = ((x : Int) * y) % (prime : Int) := by
  rw [Int.natCast_emod, Int.natCast_mul]
theorem modI (x : Nat) : ((x % prime : Nat) : Int) = (x : Int) % (prime : Int) := Int.natCast_emod x prime

theorem sign_sq (a : Nat) : (0 + (prime - a % prime)) % prime * ((0 + (prime - a % prime)) % prime) % prime = a * a % prime := by
  apply Int.natCast_inj.1
  rw [mulI, subI, mulI, mM, mM']
  congr 1
  simp only [Int.natCast_zero, Int.zero_sub, Int.neg_mul, Int.mul_neg, Int.neg_neg]

theorem sign_add (a : Nat) : ((0 + (prime - a % prime)) % prime + a) % prime = 0 := by
  apply Int.natCast_inj.1
  rw [addI, subI, mA]
  have : ((0 : Nat) : Int) - a + a = 0 := by omega
  rw [this]
  rfl

theorem sign_mul (a b : Nat) : (0 + (prime - a % prime)) % prime * b % prime = (0 + (prime - a * b % prime % prime)) % prime := by
  apply Int.natCast_inj.1
  rw [mulI, subI, subI, mM, modI, mS', Int.natCast_mul]
  congr 1
  simp only [Int.natCast_zero, Int.zero_sub, Int.neg_mul]

theorem sign_self (a : Nat) : (a + (prime - a % prime)) % prime = 0 := by
  apply Int.natCast_inj.1
  rw [subI, Int.sub_self]
  rfl

theorem sign_swap (a b : Nat) : (a + (prime - b % prime)) % prime = (0 + (prime - (b + (prime - a % prime)) % prime % prime)) % prime := by
  apply Int.natCast_inj.1
  rw [subI, subI, subI, mS']
  congr 1
  omega

end Go.Sh
