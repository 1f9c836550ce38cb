/-
 NUMBERS MODULO L: what the page's MulAdd answers; bytes of a slice as words. Own work.
-/
import Derived.Test.YtheidgcgdkmmiaaDoorNt
import Derived.Test.YtheidgcgdkmmiaaDoorShG3
namespace Go.Proofs.YtheidgcgdkmmiaaDoor
open Go.Sh
open Go.ChangeShapes Go.WideShapes Go.ChangeAt Go.RowKit
set_option maxRecDepth 100000
/-! Bytes as a number: the lowest first. -/
def wS (f : Nat → Nat) : Nat → Nat
 | 0 => 0
 | m + 1 => wS f m + 2 ^ (8 * m) * f m
theorem wS_lt {f : Nat → Nat} (hf : ∀ i, f i < 256) : ∀ m, wS f m < 2 ^ (8 * m)
 | 0 => Nat.one_pos
 | m + 1 => by
   have h1 := wS_lt hf m
   have h2 := hf m
   have e : 2 ^ (8 * (m + 1)) = 2 ^ (8 * m) * 256 := by rw [Nat.mul_add, Nat.pow_add]
   show wS f m + 2 ^ (8 * m) * f m < _
   rw [e]
   have h3 : 2 ^ (8 * m) * f m ≤ 2 ^ (8 * m) * 255 := Nat.mul_le_mul_left _ (by omega)
   omega
theorem wS_split (f : Nat → Nat) (a : Nat) : ∀ b, wS f (a + b) = wS f a + 2 ^ (8 * a) * wS (fun i => f (a + i)) b
 | 0 => by simp [wS]
 | b + 1 => by
   show wS f (a + b) + 2 ^ (8 * (a + b)) * f (a + b) = wS f a + 2 ^ (8 * a) * (wS (fun i => f (a + i)) b + 2 ^ (8 * b) * f (a + b))
   rw [wS_split f a b, Nat.mul_add (2 ^ (8 * a)), ← Nat.mul_assoc, ← Nat.pow_add, ← Nat.mul_add, Nat.add_assoc]
theorem wS_word {f : Nat → Nat} (hf : ∀ i, f i < 256) (n j : Nat) : wS f n / 2 ^ (64 * j) % 2 ^ 64 = wS (fun i => f (8 * j + i)) (min 8 (n - 8 * j)) := by
 have e64 : 64 * j = 8 * (8 * j) := by omega
 by_cases h : n ≤ 8 * j
 ·rw [show n - 8 * j = 0 by omega, Nat.div_eq_of_lt (Nat.lt_of_lt_of_le (wS_lt hf n) (by rw [e64]; exact Nat.pow_le_pow_right (by decide) (by omega)))]
  rfl
 ·obtain ⟨b, rfl⟩ : ∃ b, n = 8 * j + b := ⟨n - 8 * j, by omega⟩
  rw [wS_split f (8 * j) b, e64, Nat.add_mul_div_left _ _ (Nat.pow_pos (by decide)), Nat.div_eq_of_lt (wS_lt hf _), Nat.zero_add, show 8 * j + b - 8 * j = b by omega]
  by_cases hb : b ≤ 8
  ·rw [Nat.min_eq_right hb, Nat.mod_eq_of_lt]
   exact Nat.lt_of_lt_of_le (wS_lt (fun i => hf _) b) (Nat.pow_le_pow_right (by decide) (by omega))
  ·obtain ⟨c, rfl⟩ : ∃ c, b = 8 + c := ⟨b - 8, by omega⟩
   rw [wS_split, Nat.min_eq_left (by omega), Nat.add_mul_mod_self_left, Nat.mod_eq_of_lt (wS_lt (fun i => hf _) 8)]
def wE (k : Nat) : Nat → AI
 | 0 => .c (.ofNat 0)
 | m + 1 => .e .or .u64 (wE k m) (.e .shl .u64 (.w .u64 (.s (k + m))) (.c (.ofNat (8 * m))))
theorem wE_val {ν : Nat → Int} {k : Nat} {f : Nat → Nat} (hf : ∀ i, f i < 256) : ∀ m, m ≤ 8 → (∀ i, i < m → ν (k + i) = ((f i : Nat) : Int)) → (wE k m).val ν = ((wS f m : Nat) : Int)
 | 0, _, _ => rfl
 | m + 1, hm, h => by
   have ih := wE_val hf m (by omega) fun i hi => h i (by omega)
   show qaj .or .u64 ((wE k m).val ν) (qaj .shl .u64 (IntKind.u64.wrap (ν (k + m))) ((8 * m : Nat) : Int)) = _
   rw [ih, h m (by omega)]
   exact a_orS (wS f m) (f m) (8 * m) (by omega) (wS_lt hf m) (hf m)
def wAG (k n : Nat) : AV := .ag ((List.range 8).map fun j => .i .u64 (wE (k + 8 * j) (min 8 (n - 8 * j))))
theorem wAG_val {ν : Nat → Int} {k n : Nat} {f : Nat → Nat} (hf : ∀ i, f i < 256) (h : ∀ i, i < n → ν (k + i) = ((f i : Nat) : Int)) : qag ν (wAG k n) = some (num8 (wS f n)) := by
 have e : ∀ j, (wE (k + 8 * j) (min 8 (n - 8 * j))).val ν = ((wS f n / 2 ^ (64 * j) % 2 ^ 64 : Nat) : Int) := by
  intro j
  rw [wS_word hf n j]
  refine wE_val (fun i => hf _) _ (Nat.min_le_left _ _) fun i hi => ?_
  rw [Nat.add_assoc]
  exact h _ (by omega)
 have b4 : B4 = 2 ^ 256 := by decide
 show (qap ν [.i .u64 (wE (k + 8 * 0) (min 8 (n - 8 * 0))), .i .u64 (wE (k + 8 * 1) (min 8 (n - 8 * 1))), .i .u64 (wE (k + 8 * 2) (min 8 (n - 8 * 2))), .i .u64 (wE (k + 8 * 3) (min 8 (n - 8 * 3))), .i .u64 (wE (k + 8 * 4) (min 8 (n - 8 * 4))), .i .u64 (wE (k + 8 * 5) (min 8 (n - 8 * 5))), .i .u64 (wE (k + 8 * 6) (min 8 (n - 8 * 6))), .i .u64 (wE (k + 8 * 7) (min 8 (n - 8 * 7)))]).map (fun vs => Value.agg vs.toArray) = _
 simp only [qap, conc1, e, Option.map_some]
 generalize wS f n = x
 obtain ⟨M, hM⟩ : ∃ M, M = 2 ^ 64 := ⟨_, rfl⟩
 have p1 : ∀ j, 2 ^ (64 * j) = M ^ j := fun j => by rw [hM, ← Nat.pow_mul]
 have h4 : B4 = M ^ 4 := by rw [b4, hM, ← Nat.pow_mul]
 have h1 : (18446744073709551616 : Nat) = M := by rw [hM]
 have h2 : (340282366920938463463374607431768211456 : Nat) = M ^ 2 := by rw [hM, ← Nat.pow_mul]
 have h3 : (6277101735386680763835789423207666416102355444464034512896 : Nat) = M ^ 3 := by rw [hM, ← Nat.pow_mul]
 have d : ∀ a b, x / M ^ a / M ^ b = x / M ^ (a + b) := fun a b => by rw [Nat.div_div_eq_div_mul, ← Nat.pow_add]
 unfold num8 Sh.w0 w1 w2 w3
 rw [h2, h3, h1, h4, d 4 2, d 4 3]
 have d1 : x / M ^ 4 / M = x / M ^ 5 := by have := d 4 1; rwa [Nat.pow_one] at this
 rw [d1]
 simp only [p1, ← hM, Nat.pow_zero, Nat.div_one, Nat.pow_one]
 rfl
end Go.Proofs.YtheidgcgdkmmiaaDoor
