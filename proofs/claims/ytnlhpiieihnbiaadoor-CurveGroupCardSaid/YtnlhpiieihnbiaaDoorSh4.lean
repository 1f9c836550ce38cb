/-
  PRIMES: Euclid's lemma, Fermat's little theorem, Pocklington's test. Own work.
-/
namespace Go.Sh

def IsPrime (n : Nat) : Prop := 1 < n ∧ ∀ d, d ∣ n → d = 1 ∨ d = n

theorem IsPrime.coprime {p a : Nat} (h : IsPrime p) (ha : ¬ p ∣ a) : Nat.gcd p a = 1 := by
  rcases h.2 _ (Nat.gcd_dvd_left p a) with h1 | h1
  · exact h1
  · exact (ha (h1 ▸ Nat.gcd_dvd_right p a)).elim

theorem IsPrime.euclid {p a b : Nat} (h : IsPrime p) (hab : p ∣ a * b) : p ∣ a ∨ p ∣ b := by
  by_cases ha : p ∣ a
  · exact .inl ha
  · exact .inr (Nat.Coprime.dvd_of_dvd_mul_left (h.coprime ha) hab)

/-! Binomials. -/

def ch : Nat → Nat → Nat
  | _, 0 => 1
  | 0, _ + 1 => 0
  | n + 1, k + 1 => ch n k + ch n (k + 1)

theorem ch_big : ∀ (n k : Nat), n < k → ch n k = 0
  | 0, 0, h => by omega
  | 0, k + 1, _ => rfl
  | n + 1, 0, h => by omega
  | n + 1, k + 1, h => by
    show ch n k + ch n (k + 1) = 0
    rw [ch_big n k (by omega), ch_big n (k + 1) (by omega)]

theorem ch_self : ∀ n, ch n n = 1
  | 0 => rfl
  | n + 1 => by
    show ch n n + ch n (n + 1) = 1
    rw [ch_self n, ch_big n (n + 1) (by omega)]

theorem ch_zero (n : Nat) : ch n 0 = 1 := by cases n <;> rfl

theorem ch_absorb : ∀ (n k : Nat), (k + 1) * ch (n + 1) (k + 1) = (n + 1) * ch n k
  | 0, 0 => rfl
  | 0, k + 1 => by
    show (k + 2) * (ch 0 (k + 1) + ch 0 (k + 2)) = 1 * ch 0 (k + 1)
    rw [ch_big 0 (k + 1) (by omega), ch_big 0 (k + 2) (by omega)]
    simp
  | n + 1, 0 => by
    have h := ch_absorb n 0
    show (0 + 1) * (ch (n + 1) 0 + ch (n + 1) (0 + 1)) = (n + 1 + 1) * ch (n + 1) 0
    rw [Nat.mul_add, h, ch_zero, ch_zero]
    omega
  | n + 1, k + 1 => by
    have h1 := ch_absorb n k
    have h2 := ch_absorb n (k + 1)
    show (k + 2) * (ch (n + 1) (k + 1) + ch (n + 1) (k + 2)) = (n + 2) * ch (n + 1) (k + 1)
    have h3 : ch (n + 1) (k + 1) = ch n k + ch n (k + 1) := rfl
    have e1 : (k + 2) * ch (n + 1) (k + 1) = (n + 1) * ch n k + ch (n + 1) (k + 1) := by
      rw [← h1, show k + 2 = (k + 1) + 1 from rfl, Nat.add_mul, Nat.one_mul]
    have h2' : (k + 2) * ch (n + 1) (k + 2) = (n + 1) * ch n (k + 1) := h2
    have e2 : (n + 2) * ch (n + 1) (k + 1) = (n + 1) * ch (n + 1) (k + 1) + ch (n + 1) (k + 1) := by
      rw [show n + 2 = (n + 1) + 1 from rfl, Nat.add_mul, Nat.one_mul]
    have e3 : (n + 1) * ch (n + 1) (k + 1) = (n + 1) * ch n k + (n + 1) * ch n (k + 1) := by rw [h3, Nat.mul_add]
    rw [Nat.mul_add, e1, h2', e2, e3]
    omega

/-- The first so many parts of (a + 1) ^ n. -/
def sm (n a : Nat) : Nat → Nat
  | 0 => 0
  | k + 1 => sm n a k + ch n k * a ^ k

theorem sm_step (n a : Nat) : ∀ k, sm (n + 1) a (k + 1) = sm n a (k + 1) + a * sm n a k
  | 0 => by simp [sm, ch_zero]
  | k + 1 => by
    have ih := sm_step n a k
    show sm (n + 1) a (k + 1) + ch (n + 1) (k + 1) * a ^ (k + 1) = (sm n a (k + 1) + ch n (k + 1) * a ^ (k + 1)) + a * (sm n a k + ch n k * a ^ k)
    have h3 : ch (n + 1) (k + 1) = ch n k + ch n (k + 1) := rfl
    have e : a * (ch n k * a ^ k) = ch n k * a ^ (k + 1) := by
      rw [Nat.pow_succ, Nat.mul_comm a, Nat.mul_assoc]
    rw [ih, h3, Nat.add_mul, Nat.mul_add, e]
    omega

theorem sm_all (a : Nat) : ∀ n, sm n a (n + 1) = (a + 1) ^ n
  | 0 => by simp [sm, ch]
  | n + 1 => by
    have e : sm n a (n + 2) = sm n a (n + 1) := by
      show sm n a (n + 1) + ch n (n + 1) * a ^ (n + 1) = _
      rw [ch_big n (n + 1) (by omega)]
      simp
    rw [sm_step, e, sm_all a n, Nat.pow_succ, Nat.mul_add, Nat.mul_one, Nat.mul_comm a]
    omega

theorem ch_prime {p : Nat} (hp : IsPrime p) {k : Nat} (h0 : 0 < k) (hk : k < p) : p ∣ ch p k := by
  obtain ⟨k, rfl⟩ : ∃ j, k = j + 1 := ⟨k - 1, by omega⟩
  obtain ⟨n, rfl⟩ : ∃ n, p = n + 1 := ⟨p - 1, by have := hp.1; omega⟩
  have h := ch_absorb n k
  have hd : (n + 1) ∣ (k + 1) * ch (n + 1) (k + 1) := ⟨ch n k, h⟩
  rcases hp.euclid hd with h1 | h1
  · exact absurd (Nat.le_of_dvd (by omega) h1) (by omega)
  · exact h1

theorem sm_mod {p : Nat} (hp : IsPrime p) (a : Nat) : ∀ k, k < p → sm p a (k + 1) % p = 1 % p
  | 0, _ => by simp [sm, ch_zero]
  | k + 1, hk => by
    show (sm p a (k + 1) + ch p (k + 1) * a ^ (k + 1)) % p = _
    obtain ⟨c, hc⟩ := ch_prime hp (Nat.succ_pos k) hk
    rw [hc, Nat.mul_assoc, Nat.add_mul_mod_self_left]
    exact sm_mod hp a k (by omega)

theorem fermat {p : Nat} (hp : IsPrime p) : ∀ a, a ^ p % p = a % p
  | 0 => by
    have := hp.1
    rw [Nat.zero_pow (by omega)]
  | a + 1 => by
    have h1 := hp.1
    rw [← sm_all a p]
    show (sm p a p + ch p p * a ^ p) % p = _
    have h2 := sm_mod hp a (p - 1) (by omega)
    rw [show p - 1 + 1 = p by omega] at h2
    rw [ch_self, Nat.one_mul, Nat.add_mod, h2, fermat hp a, ← Nat.add_mod, Nat.add_comm]

/-- Fermat's little theorem. -/
theorem fermat_one {p a : Nat} (hp : IsPrime p) (ha : ¬ p ∣ a) : a ^ (p - 1) % p = 1 := by
  have h1 := hp.1
  have h := fermat hp a
  have hpw : a ^ p = a * a ^ (p - 1) := by
    rw [← Nat.pow_succ', show (p - 1).succ = p by omega]
  have hge : 1 ≤ a ^ (p - 1) := by
    have : a ≠ 0 := fun h => ha (h ▸ Nat.dvd_zero p)
    exact Nat.one_le_pow _ _ (by omega)
  have hd : p ∣ a * (a ^ (p - 1) - 1) := by
    rw [Nat.mul_sub, ← hpw, Nat.mul_one]
    exact (Nat.dvd_iff_mod_eq_zero ..).2 (Nat.sub_mod_eq_zero_of_mod_eq h)
  rcases hp.euclid hd with h2 | h2
  · exact (ha h2).elim
  · obtain ⟨c, hc⟩ := h2
    have : a ^ (p - 1) = 1 + p * c := by omega
    rw [this, Nat.add_mul_mod_self_left, Nat.mod_eq_of_lt h1]

/-! Pocklington. -/

theorem pow_one_mod {r g : Nat} (n : Nat) (h : g % r = 1 % r) : g ^ n % r = 1 % r := by
  rw [Nat.pow_mod, h, ← Nat.pow_mod, Nat.one_pow]

theorem pow_gcd {r g : Nat} : ∀ x y, g ^ x % r = 1 % r → g ^ y % r = 1 % r → g ^ Nat.gcd x y % r = 1 % r := by
  intro x y
  induction x, y using Nat.gcd.induction with
  | H0 y => intro _ h; rw [Nat.gcd_zero_left]; exact h
  | H1 x y hx ih =>
    intro h1 h2
    rw [Nat.gcd_rec]
    refine ih ?_ h1
    have e : y = x * (y / x) + y % x := (Nat.div_add_mod y x).symm
    rw [e, Nat.pow_add, Nat.pow_mul, Nat.mul_mod, pow_one_mod _ h1, ← Nat.mul_mod, Nat.one_mul] at h2
    exact h2

/-- Each number above 1 has a prime below it, or is one. -/
theorem has_prime : ∀ n, 1 < n → ∃ r, IsPrime r ∧ r ∣ n := by
  intro n
  induction n using Nat.strongRecOn with
  | _ n ih =>
    intro hn
    by_cases h : IsPrime n
    · exact ⟨n, h, Nat.dvd_refl n⟩
    · have : ∃ d, d ∣ n ∧ d ≠ 1 ∧ d ≠ n := by
        apply Classical.byContradiction
        intro hc
        refine h ⟨hn, fun d hd => ?_⟩
        by_cases h1 : d = 1
        · exact .inl h1
        · by_cases h2 : d = n
          · exact .inr h2
          · exact (hc ⟨d, hd, h1, h2⟩).elim
      obtain ⟨d, hd, h1, h2⟩ := this
      have hle := Nat.le_of_dvd (by omega) hd
      have hd0 : d ≠ 0 := fun e => by subst e; rw [Nat.zero_dvd] at hd; omega
      obtain ⟨r, hr, hrd⟩ := ih d (by omega) (by omega)
      exact ⟨r, hr, Nat.dvd_trans hrd hd⟩

/-- A prime below n at most its root, or n is prime. -/
theorem small_prime {n : Nat} (hn : 1 < n) (h : ∀ r, IsPrime r → r ∣ n → n < r * r) : IsPrime n := by
  obtain ⟨r, hr, c, hc⟩ := has_prime n hn
  have hlt := h r hr ⟨c, hc⟩
  have hc1 : c < r := by
    rw [hc] at hlt
    exact Nat.lt_of_mul_lt_mul_left hlt
  by_cases h1 : c = 1
  · subst h1
    rw [Nat.mul_one] at hc
    rw [hc]; exact hr
  · have hc0 : c ≠ 0 := fun e => by subst e; omega
    obtain ⟨s, hs, d, hd⟩ := has_prime c (by omega)
    have hsn : s ∣ n := by rw [hc, hd]; exact ⟨r * d, by rw [← Nat.mul_assoc, Nat.mul_comm r s, Nat.mul_assoc]⟩
    have h2 := h s hs hsn
    have hsc : s ≤ c := Nat.le_of_dvd (by omega) ⟨d, hd⟩
    have h3 : s * s ≤ r * c := Nat.mul_le_mul (by omega) hsc
    rw [hc] at h2
    omega

theorem pock_one {N q a r : Nat} (hq : IsPrime q) (hqN : q ∣ N - 1) (h1 : a ^ (N - 1) % N = 1) (h2 : Nat.gcd (a ^ ((N - 1) / q) % N + (N - 1)) N = 1) (hr : IsPrime r) (hrN : r ∣ N) (hN : 1 < N) : q ∣ r - 1 := by
  apply Classical.byContradiction
  intro hno
  have hr1 := hr.1
  have e1 : 1 % r = 1 := Nat.mod_eq_of_lt hr1
  obtain ⟨m, hm⟩ := hqN
  have hdiv : (N - 1) / q = m := by rw [hm]; exact Nat.mul_div_cancel_left m (by have := hq.1; omega)
  have toR : ∀ x, x % N % r = x % r := fun x => Nat.mod_mod_of_dvd x hrN
  have ha1 : a ^ (N - 1) % r = 1 % r := by rw [← toR, h1]
  have hra : ¬ r ∣ a := by
    intro hd
    have : r ∣ a ^ (N - 1) := Nat.dvd_trans hd (by
      have : N - 1 = (N - 1 - 1) + 1 := by omega
      rw [this, Nat.pow_succ]; exact Nat.dvd_mul_left a _)
    rw [(Nat.dvd_iff_mod_eq_zero ..).1 this, e1] at ha1
    omega
  have hf := fermat_one hr hra
  have g1 : (a ^ m) ^ q % r = 1 % r := by rw [← Nat.pow_mul, Nat.mul_comm, ← hm]; exact ha1
  have g2 : (a ^ m) ^ (r - 1) % r = 1 % r := by
    rw [← Nat.pow_mul, Nat.mul_comm, Nat.pow_mul]
    exact pow_one_mod m (by rw [hf, e1])
  have g3 := pow_gcd _ _ g1 g2
  rw [hq.coprime hno, Nat.pow_one] at g3
  rw [hdiv] at h2
  have hd : r ∣ a ^ m % N + (N - 1) := by
    have hx : (a ^ m % N) % r = 1 % r := by rw [toR]; exact g3
    obtain ⟨c, hc⟩ := hrN
    have hy := Nat.div_add_mod (a ^ m % N) r
    rw [hx, e1] at hy
    refine ⟨(a ^ m % N) / r + c, ?_⟩
    rw [Nat.mul_add, ← hc]
    omega
  have := Nat.dvd_gcd hd hrN
  rw [h2] at this
  have := Nat.le_of_dvd (by omega) this
  omega

theorem coprime_prod {q s m : Nat} (hq : IsPrime q) (hs : IsPrime s) (hne : q ≠ s) (h1 : q ∣ m) (h2 : s ∣ m) : q * s ∣ m := by
  refine Nat.Coprime.mul_dvd_of_dvd_of_dvd (hq.coprime fun hd => ?_) h1 h2
  rcases hs.2 q hd with h | h
  · have := hq.1; omega
  · exact hne h

/-- Powers modulo N, worked out. -/
def pmN (N : Nat) (f : Nat) : Nat → Nat → Nat := @Nat.rec (fun _ => Nat → Nat → Nat) (fun _ _ => 1 % N) (fun _ ih a e => if e % 2 = 1 then a * ih (a * a % N) (e / 2) % N else ih (a * a % N) (e / 2)) f

theorem pmN_eq (N : Nat) : ∀ (f a e : Nat), e < 2 ^ f → pmN N f a e = a ^ e % N := by
  intro f
  induction f with
  | zero =>
    intro a e h
    have : e = 0 := by simpa using h
    subst this
    rfl
  | succ f ih =>
    intro a e h
    have h2 : e / 2 < 2 ^ f := by rw [Nat.pow_succ] at h; omega
    show (if e % 2 = 1 then a * pmN N f (a * a % N) (e / 2) % N else pmN N f (a * a % N) (e / 2)) = _
    have e1 : (a * a % N) ^ (e / 2) % N = a ^ (e / 2 + e / 2) % N := by
      rw [← Nat.pow_mod, Nat.mul_pow, Nat.pow_add]
    rw [ih _ _ h2, e1]
    split
    · rename_i ho
      rw [Nat.mul_mod_mod, Nat.mul_comm, ← Nat.pow_succ]
      congr 2
      omega
    · congr 2
      omega

theorem prime_small {n : Nat} (hn : 1 < n) (h : (List.range n).all (fun d => d < 2 || n % d != 0) = true) : IsPrime n := by
  refine ⟨hn, fun d hd => ?_⟩
  have hle := Nat.le_of_dvd (by omega) hd
  by_cases he : d = n
  · exact .inr he
  · have h1 := List.all_eq_true.1 h d (List.mem_range.2 (by omega))
    simp only [Bool.or_eq_true, decide_eq_true_eq, bne_iff_ne, ne_eq] at h1
    have h0 : d ≠ 0 := fun e => by subst e; rw [Nat.zero_dvd] at hd; omega
    rcases h1 with h1 | h1
    · left; omega
    · exact (h1 ((Nat.dvd_iff_mod_eq_zero ..).1 hd)).elim

/-- The test, with one great prime, or with two. -/
def test1 (N q : Nat) : Bool := decide (1 < N) && decide ((N - 1) % q = 0) && decide (pmN N 260 2 (N - 1) = 1) && decide (Nat.gcd (pmN N 260 2 ((N - 1) / q) + (N - 1)) N = 1) && decide (N < 2 ^ 260)

theorem test1_says {N q r : Nat} (hq : IsPrime q) (h : test1 N q = true) (hr : IsPrime r) (hrN : r ∣ N) : q ∣ r - 1 := by
  simp only [test1, Bool.and_eq_true, decide_eq_true_eq] at h
  obtain ⟨⟨⟨⟨h1, h2⟩, h3⟩, h4⟩, h5⟩ := h
  have h6 : (N - 1) / q ≤ N - 1 := Nat.div_le_self _ _
  rw [pmN_eq N 260 2 (N - 1) (by omega)] at h3
  rw [pmN_eq N 260 2 ((N - 1) / q) (by omega)] at h4
  exact pock_one hq ((Nat.dvd_iff_mod_eq_zero ..).2 h2) h3 h4 hr hrN h1

theorem prime_by1 {N q : Nat} (hq : IsPrime q) (h : test1 N q = true) (hb : N < q * q) (hN : 1 < N) : IsPrime N := by
  refine small_prime hN fun r hr hrN => ?_
  have h1 := Nat.le_of_dvd (by have := hr.1; omega) (test1_says hq h hr hrN)
  have h2 : q * q ≤ r * r := Nat.mul_le_mul (by omega) (by omega)
  omega

theorem prime_by2 {N q s : Nat} (hq : IsPrime q) (hs : IsPrime s) (hne : q ≠ s) (h : test1 N q = true) (h' : test1 N s = true) (hb : N < (q * s) * (q * s)) (hN : 1 < N) : IsPrime N := by
  refine small_prime hN fun r hr hrN => ?_
  have h1 := Nat.le_of_dvd (by have := hr.1; omega) (coprime_prod hq hs hne (test1_says hq h hr hrN) (test1_says hs h' hr hrN))
  have h2 : (q * s) * (q * s) ≤ r * r := Nat.mul_le_mul (by omega) (by omega)
  omega

theorem p991 : IsPrime 991 := prime_small (by decide) (by decide +kernel)
theorem p103 : IsPrime 103 := prime_small (by decide) (by decide +kernel)
theorem p127 : IsPrime 127 := prime_small (by decide) (by decide +kernel)
theorem p419 : IsPrime 419 := prime_small (by decide) (by decide +kernel)
theorem p97 : IsPrime 97 := prime_small (by decide) (by decide +kernel)
theorem p1723 : IsPrime 1723 := prime_small (by decide) (by decide +kernel)
theorem p173 : IsPrime 173 := prime_small (by decide) (by decide +kernel)
theorem p4153 : IsPrime 4153 := prime_by1 p173 (by decide +kernel) (by decide) (by decide)
theorem p430751 : IsPrime 430751 := prime_by1 p1723 (by decide +kernel) (by decide) (by decide)
theorem pA : IsPrime 31757755568855353 := prime_by2 p430751 p4153 (by decide) (by decide +kernel) (by decide +kernel) (by decide) (by decide)
theorem p569003 : IsPrime 569003 := prime_by2 p419 p97 (by decide) (by decide +kernel) (by decide +kernel) (by decide) (by decide)
theorem pB : IsPrime 2773320623 := prime_by1 p569003 (by decide +kernel) (by decide) (by decide)
theorem pC : IsPrime 72106336199 := prime_by1 pB (by decide +kernel) (by decide) (by decide)
theorem pD : IsPrime 8574133 := prime_by2 p991 p103 (by decide) (by decide +kernel) (by decide +kernel) (by decide) (by decide)
theorem pE : IsPrime 1919519569386763 := prime_by2 pD p127 (by decide) (by decide +kernel) (by decide +kernel) (by decide) (by decide)
theorem pF : IsPrime 75445702479781427272750846543864801 := prime_by2 pE pC (by decide) (by decide +kernel) (by decide +kernel) (by decide) (by decide)
theorem pG : IsPrime 74058212732561358302231226437062788676166966415465897661863160754340907 := prime_by2 pF pA (by decide) (by decide +kernel) (by decide +kernel) (by decide) (by decide)

/-- 2 ^ 255 - 19 is prime. -/
theorem prime25519 : IsPrime 57896044618658097711785492504343953926634992332820282019728792003956564819949 := prime_by1 pG (by decide +kernel) (by decide) (by decide)

end Go.Sh
