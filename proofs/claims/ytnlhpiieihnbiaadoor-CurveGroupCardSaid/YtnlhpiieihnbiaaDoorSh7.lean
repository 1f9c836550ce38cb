/-
  THE FIELD modulo the prime, as a ring: what numbers are there; inverses; d is no square. Own work.
-/
import Derived.Test.YtnlhpiieihnbiaaDoorSh6
namespace Go.Sh

/-- The field: numbers below the prime. -/
abbrev F := Fin 57896044618658097711785492504343953926634992332820282019728792003956564819949
def em (x : Nat) : F := Fin.ofNat _ x
theorem em_val (a : F) : em a.val = a := Fin.ext (Nat.mod_eq_of_lt a.isLt)
theorem val_em (x : Nat) : (em x).val = x % prime := rfl
theorem val_lt (a : F) : a.val < prime := a.isLt
theorem em_eq {x y : Nat} : em x = em y ↔ x % prime = y % prime := ⟨fun h => congrArg Fin.val h, fun h => Fin.ext h⟩
theorem em_mod (x : Nat) : em (x % prime) = em x := em_eq.2 (Nat.mod_mod _ _)
theorem em_add (x y : Nat) : em ((x + y) % prime) = em x + em y := by
  apply Fin.ext
  show (x + y) % prime % prime = (x % prime + y % prime) % prime
  rw [Nat.mod_mod, ← Nat.add_mod]
theorem em_mul (x y : Nat) : em (x * y % prime) = em x * em y := by
  apply Fin.ext
  show (x * y) % prime % prime = (x % prime * (y % prime)) % prime
  rw [Nat.mod_mod, ← Nat.mul_mod]
theorem em_sub (x y : Nat) : em ((x + (prime - y % prime)) % prime) = em x - em y := by
  apply Fin.ext
  show (x + (prime - y % prime)) % prime % prime = ((prime - y % prime) + x % prime) % prime
  rw [Nat.mod_mod]
  unfold prime
  omega
theorem em_zero : em 0 = 0 := rfl
theorem em_is_zero {x : Nat} : em x = 0 ↔ x % prime = 0 := em_eq (y := 0)
/-- What a number modulo the prime is, told by the field. -/
theorem of_em {x : Nat} {a : F} (hx : x < prime) (h : em x = a) : x = a.val := by
  rw [← h, val_em, Nat.mod_eq_of_lt hx]
theorem mod_em {x : Nat} {a : F} (h : em x = a) : x % prime = a.val := by rw [← h, val_em]

theorem fz {a b : F} (h : a * b = 0) : a = 0 ∨ b = 0 := by
  have h1 : Eq' (a.val * b.val) 0 := congrArg Fin.val h
  have hv : ∀ c : F, Eq' c.val 0 → c = 0 := fun c hc => by
    apply Fin.ext
    have : c.val % prime = c.val := Nat.mod_eq_of_lt c.isLt
    exact this.symm.trans hc
  rcases no_zero h1 with h2 | h2
  · exact .inl (hv _ h2)
  · exact .inr (hv _ h2)
theorem fnz {a b : F} (ha : a ≠ 0) (hb : b ≠ 0) : a * b ≠ 0 := fun h => (fz h).elim ha hb
theorem fcancel {a b c : F} (hc : c ≠ 0) (h : a * c = b * c) : a = b := by
  have h1 : (a - b) * c = 0 := by grobner
  rcases fz h1 with h2 | h2
  · grobner
  · exact (hc h2).elim

def expI : Nat := 57896044618658097711785492504343953926634992332820282019728792003956564819947
theorem expI_next : expI + 1 = prime - 1 := by decide
def inv (a : F) : F := em (a.val ^ expI)
theorem em_inv (x : Nat) : em (x ^ expI % prime) = inv (em x) := by
  apply Fin.ext
  show x ^ expI % prime % prime = (x % prime) ^ expI % prime
  rw [Nat.mod_mod, ← Nat.pow_mod]
theorem mul_inv {a : F} (h : a ≠ 0) : a * inv a = 1 := by
  have h1 : a.val % prime ≠ 0 := fun h0 => h (Fin.ext ((Nat.mod_eq_of_lt a.isLt).symm.trans h0))
  have h2 := inv_mul expI expI_next h1
  have h3 : em (a.val * (a.val ^ expI % prime) % prime) = 1 := by rw [h2]; rfl
  rw [em_mul, em_val, em_mod] at h3
  exact h3
theorem inv_zero' : inv 0 = 0 := by
  unfold inv
  have h := inv_zero expI (by decide) (a := (0 : F).val) rfl
  generalize (0 : F).val ^ expI = y at *
  exact em_is_zero.2 h
theorem inv_eq {a b : F} (h : a * b = 1) : inv a = b := by
  have ha : a ≠ 0 := fun h0 => by
    rw [h0] at h
    have : (0 : F) * b = 0 := by grobner
    rw [this] at h
    cases h
  have h1 := mul_inv ha
  generalize inv a = c at *
  have h2 : c * (a * b) = b * (a * c) := by grobner
  rw [h, h1] at h2
  have e1 : c * 1 = c := by grobner
  have e2 : b * 1 = b := by grobner
  rw [← e1, h2, e2]
/-- A quotient, told by its product. -/
theorem quot_eq {a b c : F} (hb : b ≠ 0) (h : a = c * b) : a * inv b = c := by
  have h1 := mul_inv hb
  generalize inv b = i at *
  grobner

/-! Squares: d is none. -/

def dE : F := 37095705934669439343138083508754565189542113879843219016388785533085940283555
def iE : F := 19681161376707505956807079304988542015446066515923890162744021073123829784752
theorem dE_eq : dE * 121666 = -121665 := by decide +kernel
theorem iE_sq : iE * iE = -1 := by decide +kernel
theorem dE_no : (37095705934669439343138083508754565189542113879843219016388785533085940283555 : Nat) ^ half' % prime = prime - 1 := by
  rw [← pm_eq 256 _ half' (by decide)]
  decide +kernel
theorem dE_ns {a b : F} (h : a * a = dE * (b * b)) : b = 0 := by
  by_cases hb : b = 0
  · exact hb
  exfalso
  have h1 := mul_inv hb
  generalize inv b = i at h1
  have h2 : (a * i) * (a * i) = dE := by grobner
  generalize a * i = t at h2
  have h3 : Eq' (t.val * t.val) 37095705934669439343138083508754565189542113879843219016388785533085940283555 := congrArg Fin.val h2
  have h4 := pow_half_sq h3 (by decide)
  rw [dE_no] at h4
  exact absurd h4 (by decide)

end Go.Sh
