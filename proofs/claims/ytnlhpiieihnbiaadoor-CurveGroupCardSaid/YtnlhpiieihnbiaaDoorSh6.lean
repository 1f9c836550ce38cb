/-
  NUMBERS MODULO THE PRIME: inverses, squares, roots. Own work.
-/
import Derived.Test.YtnlhpiieihnbiaaDoorSh3
import Derived.Test.YtnlhpiieihnbiaaDoorSh4
namespace Go.Sh

theorem prime_prime : IsPrime prime := prime25519

/-- The same modulo the prime. -/
def Eq' (a b : Nat) : Prop := a % prime = b % prime

theorem Eq'.mul {a b c d : Nat} (h1 : Eq' a b) (h2 : Eq' c d) : Eq' (a * c) (b * d) := by
  unfold Eq' at *
  rw [Nat.mul_mod, h1, h2, ← Nat.mul_mod]
theorem Eq'.add {a b c d : Nat} (h1 : Eq' a b) (h2 : Eq' c d) : Eq' (a + c) (b + d) := by
  unfold Eq' at *
  rw [Nat.add_mod, h1, h2, ← Nat.add_mod]
theorem Eq'.pow {a b : Nat} (h : Eq' a b) (n : Nat) : Eq' (a ^ n) (b ^ n) := by
  unfold Eq' at *
  rw [Nat.pow_mod, h, ← Nat.pow_mod]
theorem Eq'.trans' {a b c : Nat} (h1 : Eq' a b) (h2 : Eq' b c) : Eq' a c := Eq.trans h1 h2
theorem Eq'.mod (a : Nat) : Eq' (a % prime) a := Nat.mod_mod a prime
theorem Eq'.rfl' (a : Nat) : Eq' a a := rfl

theorem not_dvd {a : Nat} (h : a % prime ≠ 0) : ¬ prime ∣ a := fun hd => h (Nat.mod_eq_zero_of_dvd hd)

theorem no_zero {a b : Nat} (h : Eq' (a * b) 0) : Eq' a 0 ∨ Eq' b 0 := by
  rcases prime_prime.euclid (Nat.dvd_of_mod_eq_zero h) with h1 | h1
  · exact .inl (Nat.mod_eq_zero_of_dvd h1)
  · exact .inr (Nat.mod_eq_zero_of_dvd h1)

theorem sq_le {y z : Nat} (hl : z ≤ y) (h : Eq' (y * y) (z * z)) : Eq' y z ∨ Eq' (y + z) 0 := by
  obtain ⟨d, rfl⟩ := Nat.exists_eq_add_of_le hl
  have h1 := Nat.sub_mod_eq_zero_of_mod_eq h
  have h2 : (z + d) * (z + d) - z * z = d * (z + d + z) := by
    have : (z + d) * (z + d) = z * z + d * (z + d + z) := by
      simp only [Nat.mul_add, Nat.add_mul, Nat.mul_comm d z]
      omega
    omega
  rw [h2] at h1
  rcases no_zero (a := d) (b := z + d + z) h1 with h3 | h3
  · left
    have := (Eq'.rfl' z).add h3
    simpa using this
  · exact .inr h3

theorem sq_split {y z : Nat} (h : Eq' (y * y) (z * z)) : Eq' y z ∨ Eq' (y + z) 0 := by
  rcases Nat.le_total z y with hl | hl
  · exact sq_le hl h
  · rcases sq_le hl h.symm with h1 | h1
    · exact .inl h1.symm
    · right
      rwa [Nat.add_comm]

theorem inv_mul (e : Nat) (he : e + 1 = prime - 1) {a : Nat} (h : a % prime ≠ 0) : a * (a ^ e % prime) % prime = 1 := by
  have h1 := (Eq'.rfl' a).mul (Eq'.mod (a ^ e))
  unfold Eq' at h1
  rw [h1, Nat.mul_comm, ← Nat.pow_succ, Nat.succ_eq_add_one, he]
  exact fermat_one prime_prime (not_dvd h)

theorem inv_unique {a x y : Nat} (hx : a * x % prime = 1) (hy : a * y % prime = 1) : x % prime = y % prime := by
  have one : (1 : Nat) = 1 % prime := rfl
  have h1 : Eq' (a * x) 1 := hx
  have h2 : Eq' (a * y) 1 := hy
  have h3 : Eq' (x * (a * y)) (y * (a * x)) := by
    have : x * (a * y) = y * (a * x) := by rw [Nat.mul_left_comm, Nat.mul_left_comm y a x, Nat.mul_comm x y]
    rw [this]
    exact .rfl' _
  have h4 := (Eq'.rfl' x).mul h2
  have h5 := (Eq'.rfl' y).mul h1
  rw [Nat.mul_one] at h4 h5
  exact (h4.symm.trans h3).trans h5

theorem inv_inv (e : Nat) (he : e + 1 = prime - 1) {a : Nat} (h : a % prime ≠ 0) : (a ^ e % prime) ^ e % prime = a % prime := by
  have h1 := inv_mul e he h
  have hi : a ^ e % prime % prime ≠ 0 := by
    intro h0
    have : Eq' (a ^ e % prime) 0 := h0
    have h2 := (Eq'.rfl' a).mul this
    rw [Nat.mul_zero] at h2
    have h3 : (1 : Nat) = 0 % prime := h1.symm.trans h2
    cases h3
  have h2 := inv_mul e he hi
  have h3 := inv_unique (a := a ^ e % prime) h2 (by rw [Nat.mul_comm]; exact h1)
  rwa [Nat.mod_mod] at h3

theorem inv_quot (e : Nat) (he : e + 1 = prime - 1) (a : Nat) {b : Nat} (h : b % prime ≠ 0) : (a * (b ^ e % prime) % prime) * b % prime = a % prime := by
  have h1 : Eq' (b * (b ^ e % prime)) 1 := inv_mul e he h
  have h2 := (Eq'.mod (a * (b ^ e % prime))).mul (Eq'.rfl' b)
  have h3 : a * (b ^ e % prime) * b = a * (b * (b ^ e % prime)) := by rw [Nat.mul_assoc, Nat.mul_comm b]
  rw [h3] at h2
  have h4 := (Eq'.rfl' a).mul h1
  rw [Nat.mul_one] at h4
  exact h2.trans h4

theorem inv_prod (e b c : Nat) : (b * c % prime) ^ e % prime = (b ^ e % prime) * (c ^ e % prime) % prime := by
  rw [← Nat.pow_mod, Nat.mul_pow, Nat.mul_mod]

theorem inv_zero (e : Nat) (he : 0 < e) {a : Nat} (h : a % prime = 0) : a ^ e % prime = 0 := by
  rw [Nat.pow_mod, h, Nat.zero_pow he]
  rfl

/-- Half of the prime less one. -/
def half' : Nat := 28948022309329048855892746252171976963317496166410141009864396001978282409974

theorem half_two : half' + half' = prime - 1 := by decide

theorem pow_half (x : Nat) (h : x % prime ≠ 0) : Eq' (x ^ half' * x ^ half') 1 := by
  rw [← Nat.pow_add, half_two]
  exact fermat_one prime_prime (not_dvd h)

theorem pow_half_or (x : Nat) (h : x % prime ≠ 0) : x ^ half' % prime = 1 ∨ x ^ half' % prime = prime - 1 := by
  rcases sq_split (y := x ^ half') (z := 1) (by rw [Nat.mul_one]; exact pow_half x h) with h1 | h1
  · exact .inl h1
  · right
    have h2 : (x ^ half' + 1) % prime = 0 := h1
    have h3 := Nat.mod_lt (x ^ half') (show 0 < prime by decide)
    rw [Nat.add_mod] at h2
    generalize x ^ half' % prime = y at h2 h3
    unfold prime at *
    omega

/-- A square's power of a half is 1. -/
theorem pow_half_sq {x z : Nat} (h : Eq' (z * z) x) (hx : x % prime ≠ 0) : x ^ half' % prime = 1 := by
  have hz : z % prime ≠ 0 := by
    intro h0
    have h1 : Eq' z 0 := h0
    have h2 := h1.mul (.rfl' z)
    rw [Nat.zero_mul] at h2
    exact hx (h.symm.trans h2)
  have h1 := Eq'.pow (show Eq' x (z * z) from h.symm) half'
  rw [Nat.mul_pow] at h1
  exact h1.trans (pow_half z hz)

/-- With e = (p + 3) / 8: if a root is there, it is found. -/
theorem root_found (e s : Nat) (he : 4 * e = half' + 2) (hs : Eq' (s * s + 1) 0) {q : Nat} (h : q ^ half' % prime = 1) : Eq' (q ^ e * q ^ e) q ∨ Eq' ((q ^ e * s) * (q ^ e * s)) q := by
  have h4 : q ^ e * q ^ e * (q ^ e * q ^ e) = q ^ half' * (q * q) := by
    rw [← Nat.pow_add, ← Nat.pow_add, show e + e + (e + e) = half' + 2 by omega, Nat.pow_add, Nat.pow_two]
  have h5 : Eq' (q ^ half' * (q * q)) (1 * (q * q)) := Eq'.mul (show Eq' (q ^ half') 1 from h) (.rfl' _)
  rw [Nat.one_mul, ← h4] at h5
  rcases sq_split h5 with h6 | h6
  · exact .inl h6
  · right
    have h7 : q ^ e * s * (q ^ e * s) = q ^ e * q ^ e * (s * s) := by
      rw [Nat.mul_mul_mul_comm]
    rw [h7]
    generalize q ^ e * q ^ e = c at h6
    have h8 := h6.mul (Eq'.rfl' (s * s))
    have h9 := hs.mul (Eq'.rfl' q)
    rw [Nat.zero_mul, Nat.add_mul] at h8 h9
    rw [Nat.one_mul] at h9
    have ha : Eq' (c * (s * s) + (s * s * q + q)) (c * (s * s)) := by
      have := (Eq'.rfl' (c * (s * s))).add h9
      simpa using this
    have hb : Eq' (c * (s * s) + (s * s * q + q)) q := by
      have := h8.add (Eq'.rfl' q)
      rw [Nat.zero_add, Nat.mul_comm q (s * s), Nat.add_assoc] at this
      exact this
    exact ha.symm.trans hb

end Go.Sh
