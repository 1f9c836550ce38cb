/-
  THE FIELD's WORDS: what each of its inner functions answers. Own work.
-/
import Derived.Test.YtlalonomdblhdaaTab
import Derived.Test.YtlalonomdblhdaaShZ
import Derived.Shelf.Spec.BitsCarry
namespace Go.Proofs.Ytlalonomdblhdaa
open Go.Sh
set_option maxRecDepth 100000

theorem add64 (x y c : Nat) (hc : c ≤ 1) : Pure Try.prog 40 [u64 x, u64 y, u64 c] (.tuple #[u64 ((x + y + c) % 18446744073709551616), u64 ((x + y + c) / 18446744073709551616)]) := .inr fun w => by
  show (callFunc 40 #[.int .u64 x, .int .u64 y, .int .u64 c]).run Try.prog w = _
  rw [run_callFunc_extern Try.func40 (by kernel_rfl) (by kernel_rfl) (by kernel_rfl) (e := add64Entry) (by kernel_rfl), run_add64 x y c (by omega) (by omega) (by omega) (by omega)]
  simp only [Result.andThen, u64]
  congr 5 <;> omega

theorem sub64 (x y b : Nat) (hb : b ≤ 1) : Pure Try.prog 39 [u64 x, u64 y, u64 b] (.tuple #[u64 ((x + 18446744073709551616 - y - b) % 18446744073709551616), u64 (if x < y + b then 1 else 0)]) := .inr fun w => by
  show (callFunc 39 #[.int .u64 x, .int .u64 y, .int .u64 b]).run Try.prog w = _
  rw [run_callFunc_extern Try.func39 (by kernel_rfl) (by kernel_rfl) (by kernel_rfl) (e := sub64Entry) (by kernel_rfl), run_sub64 x y b hb]
  rfl

def x1 : AI := .e .shr .u64 (.s 0) (.c (.ofNat 32))
def y1 : AI := .e .shr .u64 (.s 1) (.c (.ofNat 32))
def x0 : AI := .e .and .u64 (.s 0) (.c (.ofNat 4294967295))
def y0 : AI := .e .and .u64 (.s 1) (.c (.ofNat 4294967295))
def tE : AI := .e .add .u64 (.e .mul .u64 x1 y0) (.e .shr .u64 (.e .mul .u64 x0 y0) (.c (.ofNat 32)))
def hiE : AI := .e .add .u64 (.e .add .u64 (.e .mul .u64 x1 y1) (.e .shr .u64 tE (.c (.ofNat 32)))) (.e .shr .u64 (.e .add .u64 (.e .and .u64 tE (.c (.ofNat 4294967295))) (.e .mul .u64 x0 y1)) (.c (.ofNat 32)))
def loE : AI := .e .mul .u64 (.s 0) (.s 1)

theorem s32 (x : Nat) : arith .shr .u64 (x : Int) ((32 : Nat) : Int) = ((x / 4294967296 : Nat) : Int) := a_shr .u64 x 32 (by decide)
theorem m32 (x : Nat) : arith .and .u64 (x : Int) ((4294967295 : Nat) : Int) = ((x % 4294967296 : Nat) : Int) := a_mask x 32 4294967295 (by decide) (by decide)

theorem mul64 (x y : Nat) (hx : x < 18446744073709551616) (hy : y < 18446744073709551616) : Pure Try.prog 41 [u64 x, u64 y] (.tuple #[u64 (x * y / 18446744073709551616), u64 (x * y % 18446744073709551616)]) := by
  have h := pure_of (ν := nu [x, y]) (P := Try.prog) (tab := tree) (T := []) (fuel := 100) (d := 2) (f := 41) (args := [wd 0, wd 1]) (r := .tp [.i .u64 hiE, .i .u64 loE]) (us := [u64 x, u64 y])
    (u := .tuple #[.int .u64 (hiE.val (nu [x, y])), .int .u64 (loE.val (nu [x, y]))]) (noFacts_hold _) mixed tab_ok (fun r hr => by cases hr) (by kernel_rfl) rfl rfl
  have e0 : x0.val (nu [x, y]) = ((x % 4294967296 : Nat) : Int) := m32 x
  have e1 : y0.val (nu [x, y]) = ((y % 4294967296 : Nat) : Int) := m32 y
  have e2 : x1.val (nu [x, y]) = ((x / 4294967296 : Nat) : Int) := s32 x
  have e3 : y1.val (nu [x, y]) = ((y / 4294967296 : Nat) : Int) := s32 y
  obtain ⟨b1, b2, b3, b4⟩ := Go.Lib.mul64_hi x y hx hy
  have e4 : tE.val (nu [x, y]) = ((x / 4294967296 * (y % 4294967296) + x % 4294967296 * (y % 4294967296) / 4294967296 : Nat) : Int) := by
    show arith .add .u64 (arith .mul .u64 (x1.val _) (y0.val _)) (arith .shr .u64 (arith .mul .u64 (x0.val _) (y0.val _)) ((32 : Nat) : Int)) = _
    rw [e0, e1, e2, a_mul, a_mul, s32, a_add, Nat.mod_eq_of_lt b1]
    congr 1
    have b5 := Nat.lt_of_le_of_lt (Nat.le_add_right (x / 4294967296 * (y % 4294967296)) (x % 4294967296 * (y % 4294967296) / 4294967296)) b2
    rw [Nat.mod_eq_of_lt b5, Nat.mod_eq_of_lt b2]
  have hl : x * y / 18446744073709551616 < 18446744073709551616 := by
    have : x * y ≤ 18446744073709551615 * 18446744073709551615 := Nat.mul_le_mul (by omega) (by omega)
    omega
  have e5 : hiE.val (nu [x, y]) = ((x * y / 18446744073709551616 : Nat) : Int) := by
    show arith .add .u64 (arith .add .u64 (arith .mul .u64 (x1.val _) (y1.val _)) (arith .shr .u64 (tE.val _) ((32 : Nat) : Int))) (arith .shr .u64 (arith .add .u64 (arith .and .u64 (tE.val _) ((4294967295 : Nat) : Int)) (arith .mul .u64 (x0.val _) (y1.val _))) ((32 : Nat) : Int)) = _
    rw [e0, e2, e3, e4, m32, a_mul, a_mul, a_add, s32, s32, a_add, a_add, ← b4]
    rw [← b4] at hl
    congr 1
    generalize x / 4294967296 * (y / 4294967296) = p1 at *
    generalize x / 4294967296 * (y % 4294967296) + x % 4294967296 * (y % 4294967296) / 4294967296 = t at *
    generalize x % 4294967296 * (y / 4294967296) = p2 at *
    omega
  have e6 : loE.val (nu [x, y]) = ((x * y % 18446744073709551616 : Nat) : Int) := a_mul x y
  rw [e5, e6] at h
  exact h

/-- A row of Add64. -/
theorem rowA {ν : Nat → Int} {p q r s t : AV} {x y c z k : Nat} (h1 : conc2 ν p = some (u64 x)) (h2 : conc2 ν q = some (u64 y)) (h3 : conc2 ν r = some (u64 c)) (h4 : conc2 ν s = some (u64 z)) (h5 : conc2 ν t = some (u64 k)) (hc : c ≤ 1)
    (hz : z = (x + y + c) % 18446744073709551616) (hk : k = (x + y + c) / 18446744073709551616) : Row.Ok ν Try.prog ⟨40, [p, q, r], .tp [s, t]⟩ := by
  refine ⟨[u64 x, u64 y, u64 c], .tuple #[u64 z, u64 k], by simp [concT, h1, h2, h3], by simp [conc, concT, h4, h5], ?_⟩
  rw [hz, hk]
  exact add64 x y c hc

theorem rowS {ν : Nat → Int} {p q r s t : AV} {x y c z k : Nat} (h1 : conc2 ν p = some (u64 x)) (h2 : conc2 ν q = some (u64 y)) (h3 : conc2 ν r = some (u64 c)) (h4 : conc2 ν s = some (u64 z)) (h5 : conc2 ν t = some (u64 k)) (hc : c ≤ 1)
    (hz : z = (x + 18446744073709551616 - y - c) % 18446744073709551616) (hk : k = if x < y + c then 1 else 0) : Row.Ok ν Try.prog ⟨39, [p, q, r], .tp [s, t]⟩ := by
  refine ⟨[u64 x, u64 y, u64 c], .tuple #[u64 z, u64 k], by simp [concT, h1, h2, h3], by simp [conc, concT, h4, h5], ?_⟩
  rw [hz, hk]
  exact sub64 x y c hc

theorem rowM {ν : Nat → Int} {p q s t : AV} {x y z k : Nat} (h1 : conc2 ν p = some (u64 x)) (h2 : conc2 ν q = some (u64 y)) (h4 : conc2 ν s = some (u64 z)) (h5 : conc2 ν t = some (u64 k)) (hx : x < 18446744073709551616) (hy : y < 18446744073709551616)
    (hz : z = x * y / 18446744073709551616) (hk : k = x * y % 18446744073709551616) : Row.Ok ν Try.prog ⟨41, [p, q], .tp [s, t]⟩ := by
  refine ⟨[u64 x, u64 y], .tuple #[u64 z, u64 k], by simp [concT, h1, h2], by simp [conc, concT, h4, h5], ?_⟩
  rw [hz, hk]
  exact mul64 x y hx hy

def c0 : AV := .i .u64 (.c (.ofNat 0))
def cK (n : Nat) : AV := .i .u64 (.c (.ofNat n))

/-! plus -/

def plusT : List Row := [⟨40, [wd 0, wd 4, c0], .tp [wd 5, wd 6]⟩, ⟨40, [wd 1, c0, wd 6], .tp [wd 7, wd 8]⟩, ⟨40, [wd 2, c0, wd 8], .tp [wd 9, wd 10]⟩, ⟨40, [wd 3, c0, wd 10], .tp [wd 11, wd 12]⟩]

theorem plus_says : says noFacts tree plusT 100 3 47 [ns 0, wd 4] (heap0 [] gmax) (.tp [.ag [wd 5, wd 7, wd 9, wd 11], wd 12]) = true := by kernel_rfl

theorem plus_core (a b c d w s0 k0 s1 k1 s2 k2 s3 k3 : Nat) (h0 : s0 = (a + w + 0) % 18446744073709551616) (g0 : k0 = (a + w + 0) / 18446744073709551616) (h1 : s1 = (b + 0 + k0) % 18446744073709551616) (g1 : k1 = (b + 0 + k0) / 18446744073709551616)
    (h2 : s2 = (c + 0 + k1) % 18446744073709551616) (g2 : k2 = (c + 0 + k1) / 18446744073709551616) (h3 : s3 = (d + 0 + k2) % 18446744073709551616) (g3 : k3 = (d + 0 + k2) / 18446744073709551616) (q0 : k0 ≤ 1) (q1 : k1 ≤ 1) (q2 : k2 ≤ 1) :
    Pure Try.prog 47 [n4 a b c d, u64 w] (.tuple #[n4 s0 s1 s2 s3, u64 k3]) := by
  refine pure_of (ν := nu [a, b, c, d, w, s0, k0, s1, k1, s2, k2, s3, k3]) (noFacts_hold _) mixed tab_ok (fun r hr => ?_) plus_says rfl rfl
  simp only [plusT, List.mem_cons, List.not_mem_nil, or_false] at hr
  rcases hr with rfl | rfl | rfl | rfl
  · exact rowA (x := a) (y := w) (c := 0) (z := s0) (k := k0) rfl rfl rfl rfl rfl (by omega) h0 g0
  · exact rowA (x := b) (y := 0) (c := k0) (z := s1) (k := k1) rfl rfl rfl rfl rfl (by omega) h1 g1
  · exact rowA (x := c) (y := 0) (c := k1) (z := s2) (k := k2) rfl rfl rfl rfl rfl (by omega) h2 g2
  · exact rowA (x := d) (y := 0) (c := k2) (z := s3) (k := k3) rfl rfl rfl rfl rfl (by omega) h3 g3

/-- A function's answer, written otherwise. -/
theorem Pure.to {f : Nat} {us us' : List Value} {u u' : Value} (h : Pure Try.prog f us u) (e1 : us = us') (e2 : u = u') : Pure Try.prog f us' u' := by
  subst e1; subst e2; exact h

theorem plus_ok (N w : Nat) (hN : N < B4) (hw : w < 18446744073709551616) : Pure Try.prog 47 [num N, u64 w] (.tuple #[num (N + w), u64 ((N + w) / B4)]) := by
  have hs := split4 N
  rw [Nat.div_eq_of_lt hN] at hs
  obtain ⟨l0, l1, l2, l3⟩ := w_lt N
  refine Pure.to (plus_core (w0 N) (w1 N) (w2 N) (w3 N) w _ _ _ _ _ _ _ _ rfl rfl rfl rfl rfl rfl rfl rfl (by omega) (by omega) (by omega)) rfl ?_
  generalize w0 N = a at *
  generalize w1 N = b at *
  generalize w2 N = c at *
  generalize w3 N = d at *
  have key : N + w = (a + w + 0) % 18446744073709551616 + (b + 0 + (a + w + 0) / 18446744073709551616) % 18446744073709551616 * 18446744073709551616 + (c + 0 + (b + 0 + (a + w + 0) / 18446744073709551616) / 18446744073709551616) % 18446744073709551616 * 340282366920938463463374607431768211456 +
      (d + 0 + (c + 0 + (b + 0 + (a + w + 0) / 18446744073709551616) / 18446744073709551616) / 18446744073709551616) % 18446744073709551616 * 6277101735386680763835789423207666416102355444464034512896 + (d + 0 + (c + 0 + (b + 0 + (a + w + 0) / 18446744073709551616) / 18446744073709551616) / 18446744073709551616) / 18446744073709551616 * B4 := by
    rw [hs]
    unfold B4
    omega
  rw [(dig4 (Nat.mod_lt _ (by decide)) (Nat.mod_lt _ (by decide)) (Nat.mod_lt _ (by decide)) (Nat.mod_lt _ (by decide)) key).2.2.2.2, num_of (Nat.mod_lt _ (by decide)) (Nat.mod_lt _ (by decide)) (Nat.mod_lt _ (by decide)) (Nat.mod_lt _ (by decide)) key]

/-! least -/

def hiB : AI := .e .and .u64 (.s 3) (.c (.ofNat 9223372036854775807))
def topE : AI := .e .mul .u64 (.c (.ofNat 19)) (.e .shr .u64 (.s 3) (.c (.ofNat 63)))
def leastT : List Row := [⟨47, [.ag [wd 0, wd 1, wd 2, .i .u64 hiB], .i .u64 topE], .tp [ns 4, wd 8]⟩, ⟨47, [ns 4, cK 19], .tp [ns 9, wd 13]⟩]
def leastF (b : Bool) : Facts := ⟨[], [(.eql, .e .shr .u64 (.s 12) (.c (.ofNat 63)), .c (.ofNat 1), b)]⟩
theorem least_sF : says (leastF false) tree leastT 100 3 43 [ns 0] (heap0 [] gmax) (ns 4) = true := by kernel_rfl
theorem least_sT : says (leastF true) tree leastT 100 3 43 [ns 0] (heap0 [] gmax) (.ag [wd 9, wd 10, wd 11, .i .u64 (.e .and .u64 (.s 12) (.c (.ofNat 9223372036854775807)))]) = true := by kernel_rfl

theorem m63 (x : Nat) : arith .and .u64 (x : Int) ((9223372036854775807 : Nat) : Int) = ((x % 9223372036854775808 : Nat) : Int) := a_mask x 63 9223372036854775807 (by decide) (by decide)
theorem s63 (x : Nat) : arith .shr .u64 (x : Int) ((63 : Nat) : Int) = ((x / 9223372036854775808 : Nat) : Int) := a_shr .u64 x 63 (by decide)

theorem least_ok (N : Nat) (hN : N < B4) : Pure Try.prog 43 [num N] (num (N % prime)) := by
  have hs := split4 N
  rw [Nat.div_eq_of_lt hN] at hs
  obtain ⟨l0, l1, l2, l3⟩ := w_lt N
  obtain ⟨M, hM⟩ : ∃ M, M = w0 N + w1 N * 18446744073709551616 + w2 N * 340282366920938463463374607431768211456 + w3 N % 9223372036854775808 * 6277101735386680763835789423207666416102355444464034512896 := ⟨_, rfl⟩
  have hM1 : n4 (w0 N) (w1 N) (w2 N) (w3 N % 9223372036854775808) = num M := num_of (e := 0) l0 l1 l2 (by omega) (by rw [hM]; omega)
  have hMN : N = M + w3 N / 9223372036854775808 * 57896044618658097711785492504343953926634992332820282019728792003956564819968 := by omega
  have hMb : M < 57896044618658097711785492504343953926634992332820282019728792003956564819968 := by omega
  have ht : w3 N / 9223372036854775808 ≤ 1 := by omega
  obtain ⟨t, htE⟩ : ∃ t, t = w3 N / 9223372036854775808 := ⟨_, rfl⟩
  obtain ⟨R, hR⟩ : ∃ R, R = M + 19 * t := ⟨_, rfl⟩
  have hRb : R < 57896044618658097711785492504343953926634992332820282019728792003956564819987 := by omega
  have hres : N % prime = if R < prime then R else R - prime := by unfold prime; split <;> omega
  let ν := nu (numL N ++ numL R ++ [0] ++ numL (R + 19) ++ [0])
  have hT : ∀ r ∈ leastT, r.Ok ν Try.prog := by
    intro r hr
    simp only [leastT, List.mem_cons, List.not_mem_nil, or_false] at hr
    rcases hr with rfl | rfl
    · have e1 : hiB.val ν = ((w3 N % 9223372036854775808 : Nat) : Int) := m63 (w3 N)
      have e2 : topE.val ν = ((19 * t : Nat) : Int) := by
        show arith .mul .u64 ((19 : Nat) : Int) (arith .shr .u64 ((w3 N : Nat) : Int) ((63 : Nat) : Int)) = _
        rw [s63, a_mul, ← htE, Nat.mod_eq_of_lt (by omega)]
      have p := plus_ok M (19 * t) (by unfold B4; omega) (by omega)
      rw [← hR, Nat.div_eq_of_lt (show R < B4 by unfold B4; omega), ← hM1] at p
      refine ⟨[n4 (w0 N) (w1 N) (w2 N) (w3 N % 9223372036854775808), u64 (19 * t)], .tuple #[num R, u64 0], ?_, rfl, p⟩
      show (match conc2 ν (.ag [wd 0, wd 1, wd 2, .i .u64 hiB]), concT ν [.i .u64 topE] with | some v, some l => some (v :: l) | _, _ => none) = _
      simp only [conc2, concL, conc1, concT, e1, e2, wd, Option.map_some]
      rfl
    · have p := plus_ok R 19 (by unfold B4; omega) (by omega)
      rw [Nat.div_eq_of_lt (show R + 19 < B4 by unfold B4; omega)] at p
      exact ⟨[num R, u64 19], .tuple #[num (R + 19), u64 0], rfl, rfl, p⟩
  have hs9 := split4 (R + 19)
  rw [Nat.div_eq_of_lt (show R + 19 < B4 by unfold B4; omega)] at hs9
  obtain ⟨k0, k1, k2, k3⟩ := w_lt (R + 19)
  have hcmp : compare .eql ((AI.e .shr .u64 (.s 12) (.c (.ofNat 63))).val ν) ((AI.c (.ofNat 1)).val ν) = decide (w3 (R + 19) / 9223372036854775808 = 1) := by
    show (arith .shr .u64 ((w3 (R + 19) : Nat) : Int) ((63 : Nat) : Int) == ((1 : Nat) : Int)) = _
    rw [s63]
    by_cases h : w3 (R + 19) / 9223372036854775808 = 1 <;> simp [h] <;> omega
  by_cases hb : w3 (R + 19) / 9223372036854775808 = 1
  · have hF : (leastF true).Hold ν := ⟨(fun p hp => by cases hp), fun p hp => by
      simp only [leastF, List.mem_cons, List.not_mem_nil, or_false] at hp
      subst hp
      rw [hcmp]; simp [hb]⟩
    have e3 : (AI.e .and .u64 (.s 12) (.c (.ofNat 9223372036854775807))).val ν = ((w3 (R + 19) % 9223372036854775808 : Nat) : Int) := m63 (w3 (R + 19))
    refine pure_of hF mixed tab_ok hT least_sT rfl ?_
    have hge : ¬ R < prime := by unfold prime; omega
    rw [hres, if_neg hge]
    have : n4 (w0 (R + 19)) (w1 (R + 19)) (w2 (R + 19)) (w3 (R + 19) % 9223372036854775808) = num (R - prime) := num_of (e := 0) k0 k1 k2 (by omega) (by unfold prime at *; omega)
    rw [← this]
    show (concL ν [wd 9, wd 10, wd 11, .i .u64 (.e .and .u64 (.s 12) (.c (.ofNat 9223372036854775807)))]).map (fun vs => Value.agg vs.toArray) = _
    simp only [concL, conc1, e3, wd, Option.map_some]
    rfl
  · have hF : (leastF false).Hold ν := ⟨(fun p hp => by cases hp), fun p hp => by
      simp only [leastF, List.mem_cons, List.not_mem_nil, or_false] at hp
      subst hp
      rw [hcmp]; simp [hb]⟩
    refine pure_of hF mixed tab_ok hT least_sF rfl ?_
    have hge : R < prime := by unfold prime; omega
    rw [hres, if_pos hge]
    rfl

end Go.Proofs.Ytlalonomdblhdaa
