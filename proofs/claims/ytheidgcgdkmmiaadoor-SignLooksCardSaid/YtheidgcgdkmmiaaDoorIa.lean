/-
 THE FIELD's WORDS: what its inner functions answer; products. Own work.
-/
import Derived.Test.YtheidgcgdkmmiaaDoorTab
import Derived.Test.YtheidgcgdkmmiaaDoorShZ
import Derived.Shelf.Spec.BitsCarry
namespace Go.Proofs.YtheidgcgdkmmiaaDoor
open Go.Sh
set_option maxRecDepth 100000
theorem add64 (x y c : Nat) (hc : c ≤ 1) : Pure Tryd.prog 60 [u64 x, u64 y, u64 c] (.tuple #[u64 ((x + y + c) % 18446744073709551616), u64 ((x + y + c) / 18446744073709551616)]) := .inr fun w => by
 show (callFunc 60 #[.int .u64 x, .int .u64 y, .int .u64 c]).run Tryd.prog w = _
 rw [run_callFunc_extern Tryd.func60 (by kernel_rfl) (by kernel_rfl) (by kernel_rfl) (e := add64Entry) (by kernel_rfl), run_add64 x y c (by omega) (by omega) (by omega) (by omega)]
 simp only [Result.andThen, u64]
 congr 5 <;> omega
theorem sub64 (x y b : Nat) (hb : b ≤ 1) : Pure Tryd.prog 79 [u64 x, u64 y, u64 b] (.tuple #[u64 ((x + 18446744073709551616 - y - b) % 18446744073709551616), u64 (if x < y + b then 1 else 0)]) := .inr fun w => by
 show (callFunc 79 #[.int .u64 x, .int .u64 y, .int .u64 b]).run Tryd.prog w = _
 rw [run_callFunc_extern Tryd.func79 (by kernel_rfl) (by kernel_rfl) (by kernel_rfl) (e := sub64Entry) (by kernel_rfl), run_sub64 x y b hb]
 rfl
def x1 : AI := .e .shr .u64 (.s 0) (.c (.ofNat 32))
def y1 : AI := .e .shr .u64 (.s 1) (.c (.ofNat 32))
def x0 : AI := .e .and .u64 (.s 0) (.c (.ofNat 4294967295))
def y0 : AI := .e .and .u64 (.s 1) (.c (.ofNat 4294967295))
def tE : AI := .e .add .u64 (.e .mul .u64 x1 y0) (.e .shr .u64 (.e .mul .u64 x0 y0) (.c (.ofNat 32)))
def hiE : AI := .e .add .u64 (.e .add .u64 (.e .mul .u64 x1 y1) (.e .shr .u64 tE (.c (.ofNat 32)))) (.e .shr .u64 (.e .add .u64 (.e .and .u64 tE (.c (.ofNat 4294967295))) (.e .mul .u64 x0 y1)) (.c (.ofNat 32)))
def loE : AI := .e .mul .u64 (.s 0) (.s 1)
theorem s32 (x : Nat) : qaj .shr .u64 (x : Int) ((32 : Nat) : Int) = ((x / 4294967296 : Nat) : Int) := a_shr .u64 x 32 (by decide)
theorem m32 (x : Nat) : qaj .and .u64 (x : Int) ((4294967295 : Nat) : Int) = ((x % 4294967296 : Nat) : Int) := a_mask x 32 4294967295 (by decide) (by decide)
theorem mul64 (x y : Nat) (hx : x < 18446744073709551616) (hy : y < 18446744073709551616) : Pure Tryd.prog 80 [u64 x, u64 y] (.tuple #[u64 (x * y / 18446744073709551616), u64 (x * y % 18446744073709551616)]) := by
 have h := qan (ν := nu [x, y]) (P := Tryd.prog) (tab := tree) (T := []) (fuel := 100) (d := 2) (f := 80) (args := [wd 0, wd 1]) (r := .tp [.i .u64 hiE, .i .u64 loE]) (us := [u64 x, u64 y])
  (u := .tuple #[.int .u64 (hiE.val (nu [x, y])), .int .u64 (loE.val (nu [x, y]))]) (qab _) qak qaf (fun r hr => by cases hr) (by kernel_rfl) rfl rfl
 have e0 : x0.val (nu [x, y]) = ((x % 4294967296 : Nat) : Int) := m32 x
 have e1 : y0.val (nu [x, y]) = ((y % 4294967296 : Nat) : Int) := m32 y
 have e2 : x1.val (nu [x, y]) = ((x / 4294967296 : Nat) : Int) := s32 x
 have e3 : y1.val (nu [x, y]) = ((y / 4294967296 : Nat) : Int) := s32 y
 obtain ⟨b1, b2, b3, b4⟩ := Go.Lib.mul64_hi x y hx hy
 have e4 : tE.val (nu [x, y]) = ((x / 4294967296 * (y % 4294967296) + x % 4294967296 * (y % 4294967296) / 4294967296 : Nat) : Int) := by
  show qaj .add .u64 (qaj .mul .u64 (x1.val _) (y0.val _)) (qaj .shr .u64 (qaj .mul .u64 (x0.val _) (y0.val _)) ((32 : Nat) : Int)) = _
  rw [e0, e1, e2, a_mul, a_mul, s32, a_add, Nat.mod_eq_of_lt b1]
  congr 1
  have b5 := Nat.lt_of_le_of_lt (Nat.le_add_right (x / 4294967296 * (y % 4294967296)) (x % 4294967296 * (y % 4294967296) / 4294967296)) b2
  rw [Nat.mod_eq_of_lt b5, Nat.mod_eq_of_lt b2]
 have hl : x * y / 18446744073709551616 < 18446744073709551616 := by
  have : x * y ≤ 18446744073709551615 * 18446744073709551615 := Nat.mul_le_mul (by omega) (by omega)
  omega
 have e5 : hiE.val (nu [x, y]) = ((x * y / 18446744073709551616 : Nat) : Int) := by
  show qaj .add .u64 (qaj .add .u64 (qaj .mul .u64 (x1.val _) (y1.val _)) (qaj .shr .u64 (tE.val _) ((32 : Nat) : Int))) (qaj .shr .u64 (qaj .add .u64 (qaj .and .u64 (tE.val _) ((4294967295 : Nat) : Int)) (qaj .mul .u64 (x0.val _) (y1.val _))) ((32 : Nat) : Int)) = _
  rw [e0, e2, e3, e4, m32, a_mul, a_mul, a_add, s32, s32, a_add, a_add, ← b4]
  rw [← b4] at hl
  congr 1
  generalize x / 4294967296 * (y / 4294967296) = p1 at *
  generalize x / 4294967296 * (y % 4294967296) + x % 4294967296 * (y % 4294967296) / 4294967296 = t at *
  generalize x % 4294967296 * (y / 4294967296) = p2 at *
  omega
 have e6 : loE.val (nu [x, y]) = ((x * y % 18446744073709551616 : Nat) : Int) := a_mul x y
 rw [e5, e6] at h
 exact h
theorem rowA {ν : Nat → Int} {p q r s t : AV} {x y c z k : Nat} (h1 : qag ν p = some (u64 x)) (h2 : qag ν q = some (u64 y)) (h3 : qag ν r = some (u64 c)) (h4 : qag ν s = some (u64 z)) (h5 : qag ν t = some (u64 k)) (hc : c ≤ 1)
  (hz : z = (x + y + c) % 18446744073709551616) (hk : k = (x + y + c) / 18446744073709551616) : Row.Ok ν Tryd.prog ⟨60, [p, q, r], .tp [s, t]⟩ := by
 refine ⟨[u64 x, u64 y, u64 c], .tuple #[u64 z, u64 k], by simp [qai, h1, h2, h3], by simp [conc, qai, h4, h5], ?_⟩
 rw [hz, hk]
 exact add64 x y c hc
theorem rowS {ν : Nat → Int} {p q r s t : AV} {x y c z k : Nat} (h1 : qag ν p = some (u64 x)) (h2 : qag ν q = some (u64 y)) (h3 : qag ν r = some (u64 c)) (h4 : qag ν s = some (u64 z)) (h5 : qag ν t = some (u64 k)) (hc : c ≤ 1)
  (hz : z = (x + 18446744073709551616 - y - c) % 18446744073709551616) (hk : k = if x < y + c then 1 else 0) : Row.Ok ν Tryd.prog ⟨79, [p, q, r], .tp [s, t]⟩ := by
 refine ⟨[u64 x, u64 y, u64 c], .tuple #[u64 z, u64 k], by simp [qai, h1, h2, h3], by simp [conc, qai, h4, h5], ?_⟩
 rw [hz, hk]
 exact sub64 x y c hc
theorem rowM {ν : Nat → Int} {p q s t : AV} {x y z k : Nat} (h1 : qag ν p = some (u64 x)) (h2 : qag ν q = some (u64 y)) (h4 : qag ν s = some (u64 z)) (h5 : qag ν t = some (u64 k)) (hx : x < 18446744073709551616) (hy : y < 18446744073709551616)
  (hz : z = x * y / 18446744073709551616) (hk : k = x * y % 18446744073709551616) : Row.Ok ν Tryd.prog ⟨80, [p, q], .tp [s, t]⟩ := by
 refine ⟨[u64 x, u64 y], .tuple #[u64 z, u64 k], by simp [qai, h1, h2], by simp [conc, qai, h4, h5], ?_⟩
 rw [hz, hk]
 exact mul64 x y hx hy
def c0 : AV := .i .u64 (.c (.ofNat 0))
def cK (n : Nat) : AV := .i .u64 (.c (.ofNat n))
/-! plus -/
def plusT : List Row := [⟨60, [wd 0, wd 4, c0], .tp [wd 5, wd 6]⟩, ⟨60, [wd 1, c0, wd 6], .tp [wd 7, wd 8]⟩, ⟨60, [wd 2, c0, wd 8], .tp [wd 9, wd 10]⟩, ⟨60, [wd 3, c0, wd 10], .tp [wd 11, wd 12]⟩]
theorem plus_says : says qae tree plusT 100 3 102 [ns 0, wd 4] (qaA [] gmax) (.tp [.ag [wd 5, wd 7, wd 9, wd 11], wd 12]) = true := by kernel_rfl
theorem plus_core (a b c d w s0 k0 s1 k1 s2 k2 s3 k3 : Nat) (h0 : s0 = (a + w + 0) % 18446744073709551616) (g0 : k0 = (a + w + 0) / 18446744073709551616) (h1 : s1 = (b + 0 + k0) % 18446744073709551616) (g1 : k1 = (b + 0 + k0) / 18446744073709551616)
  (h2 : s2 = (c + 0 + k1) % 18446744073709551616) (g2 : k2 = (c + 0 + k1) / 18446744073709551616) (h3 : s3 = (d + 0 + k2) % 18446744073709551616) (g3 : k3 = (d + 0 + k2) / 18446744073709551616) (q0 : k0 ≤ 1) (q1 : k1 ≤ 1) (q2 : k2 ≤ 1) :
  Pure Tryd.prog 102 [n4 a b c d, u64 w] (.tuple #[n4 s0 s1 s2 s3, u64 k3]) := by
 refine qan (ν := nu [a, b, c, d, w, s0, k0, s1, k1, s2, k2, s3, k3]) (qab _) qak qaf (fun r hr => ?_) plus_says rfl rfl
 simp only [plusT, List.mem_cons, List.not_mem_nil, or_false] at hr
 rcases hr with rfl | rfl | rfl | rfl
 ·exact rowA (x := a) (y := w) (c := 0) (z := s0) (k := k0) rfl rfl rfl rfl rfl (by omega) h0 g0
 ·exact rowA (x := b) (y := 0) (c := k0) (z := s1) (k := k1) rfl rfl rfl rfl rfl (by omega) h1 g1
 ·exact rowA (x := c) (y := 0) (c := k1) (z := s2) (k := k2) rfl rfl rfl rfl rfl (by omega) h2 g2
 ·exact rowA (x := d) (y := 0) (c := k2) (z := s3) (k := k3) rfl rfl rfl rfl rfl (by omega) h3 g3
theorem Pure.to {f : Nat} {us us' : List Value} {u u' : Value} (h : Pure Tryd.prog f us u) (e1 : us = us') (e2 : u = u') : Pure Tryd.prog f us' u' := by
 subst e1; subst e2; exact h
theorem plus_ok (N w : Nat) (hN : N < B4) (hw : w < 18446744073709551616) : Pure Tryd.prog 102 [num N, u64 w] (.tuple #[num (N + w), u64 ((N + w) / B4)]) := by
 have hs := qbr N
 rw [Nat.div_eq_of_lt hN] at hs
 obtain ⟨l0, l1, l2, l3⟩ := w_lt N
 refine Pure.to (plus_core (w0 N) (w1 N) (w2 N) (w3 N) w _ _ _ _ _ _ _ _ rfl rfl rfl rfl rfl rfl rfl rfl (by omega) (by omega) (by omega)) rfl ?_
 generalize w0 N = a at *
 generalize w1 N = b at *
 generalize w2 N = c at *
 generalize w3 N = d at *
 have key : N + w = (a + w + 0) % 18446744073709551616 + (b + 0 + (a + w + 0) / 18446744073709551616) % 18446744073709551616 * 18446744073709551616 + (c + 0 + (b + 0 + (a + w + 0) / 18446744073709551616) / 18446744073709551616) % 18446744073709551616 * 340282366920938463463374607431768211456 +
   (d + 0 + (c + 0 + (b + 0 + (a + w + 0) / 18446744073709551616) / 18446744073709551616) / 18446744073709551616) % 18446744073709551616 * 6277101735386680763835789423207666416102355444464034512896 + (d + 0 + (c + 0 + (b + 0 + (a + w + 0) / 18446744073709551616) / 18446744073709551616) / 18446744073709551616) / 18446744073709551616 * B4 := by
  rw [hs]
  unfold B4
  omega
 rw [(dig4 (Nat.mod_lt _ (by decide)) (Nat.mod_lt _ (by decide)) (Nat.mod_lt _ (by decide)) (Nat.mod_lt _ (by decide)) key).2.2.2.2, num_of (Nat.mod_lt _ (by decide)) (Nat.mod_lt _ (by decide)) (Nat.mod_lt _ (by decide)) (Nat.mod_lt _ (by decide)) key]
/-! least -/
def hiB : AI := .e .and .u64 (.s 3) (.c (.ofNat 9223372036854775807))
def topE : AI := .e .mul .u64 (.c (.ofNat 19)) (.e .shr .u64 (.s 3) (.c (.ofNat 63)))
def leastT : List Row := [⟨102, [.ag [wd 0, wd 1, wd 2, .i .u64 hiB], .i .u64 topE], .tp [ns 4, wd 8]⟩, ⟨102, [ns 4, cK 19], .tp [ns 9, wd 13]⟩]
def leastF (b : Bool) : Facts := ⟨[], [(.eql, .e .shr .u64 (.s 12) (.c (.ofNat 63)), .c (.ofNat 1), b)], []⟩
theorem least_sF : says (leastF false) tree leastT 100 3 92 [ns 0] (qaA [] gmax) (ns 4) = true := by kernel_rfl
theorem least_sT : says (leastF true) tree leastT 100 3 92 [ns 0] (qaA [] gmax) (.ag [wd 9, wd 10, wd 11, .i .u64 (.e .and .u64 (.s 12) (.c (.ofNat 9223372036854775807)))]) = true := by kernel_rfl
theorem m63 (x : Nat) : qaj .and .u64 (x : Int) ((9223372036854775807 : Nat) : Int) = ((x % 9223372036854775808 : Nat) : Int) := a_mask x 63 9223372036854775807 (by decide) (by decide)
theorem s63 (x : Nat) : qaj .shr .u64 (x : Int) ((63 : Nat) : Int) = ((x / 9223372036854775808 : Nat) : Int) := a_shr .u64 x 63 (by decide)
theorem least_ok (N : Nat) (hN : N < B4) : Pure Tryd.prog 92 [num N] (num (N % qaa)) := by
 have hs := qbr N
 rw [Nat.div_eq_of_lt hN] at hs
 obtain ⟨l0, l1, l2, l3⟩ := w_lt N
 obtain ⟨M, hM⟩ : ∃ M, M = w0 N + w1 N * 18446744073709551616 + w2 N * 340282366920938463463374607431768211456 + w3 N % 9223372036854775808 * 6277101735386680763835789423207666416102355444464034512896 := ⟨_, rfl⟩
 have hM1 : n4 (w0 N) (w1 N) (w2 N) (w3 N % 9223372036854775808) = num M := num_of (e := 0) l0 l1 l2 (by omega) (by rw [hM]; omega)
 have hMN : N = M + w3 N / 9223372036854775808 * 57896044618658097711785492504343953926634992332820282019728792003956564819968 := by omega
 have hMb : M < 57896044618658097711785492504343953926634992332820282019728792003956564819968 := by omega
 have ht : w3 N / 9223372036854775808 ≤ 1 := by omega
 obtain ⟨t, htE⟩ : ∃ t, t = w3 N / 9223372036854775808 := ⟨_, rfl⟩
 obtain ⟨R, hR⟩ : ∃ R, R = M + 19 * t := ⟨_, rfl⟩
 have hRb : R < 57896044618658097711785492504343953926634992332820282019728792003956564819987 := by omega
 have hres : N % qaa = if R < qaa then R else R - qaa := by unfold qaa; split <;> omega
 let ν := nu (numL N ++ numL R ++ [0] ++ numL (R + 19) ++ [0])
 have hT : ∀ r ∈ leastT, r.Ok ν Tryd.prog := by
  intro r hr
  simp only [leastT, List.mem_cons, List.not_mem_nil, or_false] at hr
  rcases hr with rfl | rfl
  ·have e1 : hiB.val ν = ((w3 N % 9223372036854775808 : Nat) : Int) := m63 (w3 N)
   have e2 : topE.val ν = ((19 * t : Nat) : Int) := by
    show qaj .mul .u64 ((19 : Nat) : Int) (qaj .shr .u64 ((w3 N : Nat) : Int) ((63 : Nat) : Int)) = _
    rw [s63, a_mul, ← htE, Nat.mod_eq_of_lt (by omega)]
   have p := plus_ok M (19 * t) (by unfold B4; omega) (by omega)
   rw [← hR, Nat.div_eq_of_lt (show R < B4 by unfold B4; omega), ← hM1] at p
   refine ⟨[n4 (w0 N) (w1 N) (w2 N) (w3 N % 9223372036854775808), u64 (19 * t)], .tuple #[num R, u64 0], ?_, rfl, p⟩
   show (match qag ν (.ag [wd 0, wd 1, wd 2, .i .u64 hiB]), qai ν [.i .u64 topE] with | some v, some l => some (v :: l) | _, _ => none) = _
   simp only [qag, qap, conc1, qai, e1, e2, wd, Option.map_some]
   rfl
  ·have p := plus_ok R 19 (by unfold B4; omega) (by omega)
   rw [Nat.div_eq_of_lt (show R + 19 < B4 by unfold B4; omega)] at p
   exact ⟨[num R, u64 19], .tuple #[num (R + 19), u64 0], rfl, rfl, p⟩
 have hs9 := qbr (R + 19)
 rw [Nat.div_eq_of_lt (show R + 19 < B4 by unfold B4; omega)] at hs9
 obtain ⟨k0, k1, k2, k3⟩ := w_lt (R + 19)
 have hcmp : qaE .eql ((AI.e .shr .u64 (.s 12) (.c (.ofNat 63))).val ν) ((AI.c (.ofNat 1)).val ν) = decide (w3 (R + 19) / 9223372036854775808 = 1) := by
  show (qaj .shr .u64 ((w3 (R + 19) : Nat) : Int) ((63 : Nat) : Int) == ((1 : Nat) : Int)) = _
  rw [s63]
  by_cases h : w3 (R + 19) / 9223372036854775808 = 1 <;> simp [h] <;> omega
 by_cases hb : w3 (R + 19) / 9223372036854775808 = 1
 ·have hF : (leastF true).Hold ν := ⟨(fun p hp => by cases hp), fun p hp => by
   simp only [leastF, List.mem_cons, List.not_mem_nil, or_false] at hp
   subst hp
   rw [hcmp]; simp [hb], fun p hp => by cases hp⟩
  have e3 : (AI.e .and .u64 (.s 12) (.c (.ofNat 9223372036854775807))).val ν = ((w3 (R + 19) % 9223372036854775808 : Nat) : Int) := m63 (w3 (R + 19))
  refine qan hF qak qaf hT least_sT rfl ?_
  have hge : ¬ R < qaa := by unfold qaa; omega
  rw [hres, if_neg hge]
  have : n4 (w0 (R + 19)) (w1 (R + 19)) (w2 (R + 19)) (w3 (R + 19) % 9223372036854775808) = num (R - qaa) := num_of (e := 0) k0 k1 k2 (by omega) (by unfold qaa at *; omega)
  rw [← this]
  show (qap ν [wd 9, wd 10, wd 11, .i .u64 (.e .and .u64 (.s 12) (.c (.ofNat 9223372036854775807)))]).map (fun vs => Value.agg vs.toArray) = _
  simp only [qap, conc1, e3, wd, Option.map_some]
  rfl
 ·have hF : (leastF false).Hold ν := ⟨(fun p hp => by cases hp), fun p hp => by
   simp only [leastF, List.mem_cons, List.not_mem_nil, or_false] at hp
   subst hp
   rw [hcmp]; simp [hb], fun p hp => by cases hp⟩
  refine qan hF qak qaf hT least_sF rfl ?_
  have hge : R < qaa := by unfold qaa; omega
  rw [hres, if_pos hge]
  rfl
theorem qbD {ν : Nat → Int} {p r : AV} {N : Nat} (hN : N < B4) (h1 : qag ν p = some (num N)) (h2 : conc ν r = some (num (N % qaa))) : Row.Ok ν Tryd.prog ⟨92, [p], r⟩ :=
 ⟨[num N], num (N % qaa), by simp [qai, h1], h2, least_ok N hN⟩
/-! add -/
def addT : List Row := [⟨60, [wd 0, wd 4, c0], .tp [wd 8, wd 9]⟩, ⟨60, [wd 1, wd 5, wd 9], .tp [wd 10, wd 11]⟩, ⟨60, [wd 2, wd 6, wd 11], .tp [wd 12, wd 13]⟩, ⟨60, [wd 3, wd 7, wd 13], .tp [wd 14, wd 15]⟩,
 ⟨92, [.ag [wd 8, wd 10, wd 12, wd 14]], ns 16⟩]
theorem add_says : says qae tree addT 100 3 95 [ns 0, ns 4] (qaA [] gmax) (ns 16) = true := by kernel_rfl
theorem add_core (M a b c d a' b' c' d' s0 k0 s1 k1 s2 k2 s3 k3 : Nat) (h0 : s0 = (a + a' + 0) % 18446744073709551616) (g0 : k0 = (a + a' + 0) / 18446744073709551616) (h1 : s1 = (b + b' + k0) % 18446744073709551616) (g1 : k1 = (b + b' + k0) / 18446744073709551616)
  (h2 : s2 = (c + c' + k1) % 18446744073709551616) (g2 : k2 = (c + c' + k1) / 18446744073709551616) (h3 : s3 = (d + d' + k2) % 18446744073709551616) (g3 : k3 = (d + d' + k2) / 18446744073709551616) (q0 : k0 ≤ 1) (q1 : k1 ≤ 1) (q2 : k2 ≤ 1)
  (hM : M < B4) (hm : n4 s0 s1 s2 s3 = num M) : Pure Tryd.prog 95 [n4 a b c d, n4 a' b' c' d'] (num (M % qaa)) := by
 refine qan (ν := nu ([a, b, c, d, a', b', c', d', s0, k0, s1, k1, s2, k2, s3, k3] ++ numL (M % qaa))) (qab _) qak qaf (fun r hr => ?_) add_says rfl rfl
 simp only [addT, List.mem_cons, List.not_mem_nil, or_false] at hr
 rcases hr with rfl | rfl | rfl | rfl | rfl
 ·exact rowA (x := a) (y := a') (c := 0) (z := s0) (k := k0) rfl rfl rfl rfl rfl (by omega) h0 g0
 ·exact rowA (x := b) (y := b') (c := k0) (z := s1) (k := k1) rfl rfl rfl rfl rfl (by omega) h1 g1
 ·exact rowA (x := c) (y := c') (c := k1) (z := s2) (k := k2) rfl rfl rfl rfl rfl (by omega) h2 g2
 ·exact rowA (x := d) (y := d') (c := k2) (z := s3) (k := k3) rfl rfl rfl rfl rfl (by omega) h3 g3
 ·exact qbD hM (by rw [← hm]; rfl) rfl
theorem add_ok (x y : Nat) (hx : x < qaa) (hy : y < qaa) : Pure Tryd.prog 95 [num x, num y] (num ((x + y) % qaa)) := by
 have hxs := qbr x
 rw [Nat.div_eq_of_lt (show x < B4 by unfold B4; unfold qaa at hx; omega)] at hxs
 have hys := qbr y
 rw [Nat.div_eq_of_lt (show y < B4 by unfold B4; unfold qaa at hy; omega)] at hys
 obtain ⟨l0, l1, l2, l3⟩ := w_lt x
 obtain ⟨m0, m1, m2, m3⟩ := w_lt y
 refine add_core (x + y) (w0 x) (w1 x) (w2 x) (w3 x) (w0 y) (w1 y) (w2 y) (w3 y) _ _ _ _ _ _ _ _ rfl rfl rfl rfl rfl rfl rfl rfl (by omega) (by omega) (by omega) (by unfold B4; unfold qaa at hx hy; omega) ?_
 refine num_of (e := (w3 x + w3 y + (w2 x + w2 y + (w1 x + w1 y + (w0 x + w0 y + 0) / 18446744073709551616) / 18446744073709551616) / 18446744073709551616) / 18446744073709551616) (Nat.mod_lt _ (by decide)) (Nat.mod_lt _ (by decide)) (Nat.mod_lt _ (by decide)) (Nat.mod_lt _ (by decide)) ?_
 generalize w0 x = a at *
 generalize w1 x = b at *
 generalize w2 x = c at *
 generalize w3 x = d at *
 generalize w0 y = a' at *
 generalize w1 y = b' at *
 generalize w2 y = c' at *
 generalize w3 y = d' at *
 rw [hxs, hys]
 unfold B4
 omega
/-! negative -/
def negT : List Row := [⟨79, [cK 18446744073709551597, wd 0, c0], .tp [wd 4, wd 5]⟩, ⟨79, [cK 18446744073709551615, wd 1, wd 5], .tp [wd 6, wd 7]⟩, ⟨79, [cK 18446744073709551615, wd 2, wd 7], .tp [wd 8, wd 9]⟩,
 ⟨79, [cK 9223372036854775807, wd 3, wd 9], .tp [wd 10, wd 11]⟩, ⟨92, [.ag [wd 4, wd 6, wd 8, wd 10]], ns 12⟩]
theorem neg_says : says qae tree negT 100 3 96 [ns 0] (qaA [] gmax) (ns 12) = true := by kernel_rfl
theorem neg_core (M a b c d s0 k0 s1 k1 s2 k2 s3 k3 : Nat) (h0 : s0 = (18446744073709551597 + 18446744073709551616 - a - 0) % 18446744073709551616) (g0 : k0 = if 18446744073709551597 < a + 0 then 1 else 0)
  (h1 : s1 = (18446744073709551615 + 18446744073709551616 - b - k0) % 18446744073709551616) (g1 : k1 = if 18446744073709551615 < b + k0 then 1 else 0) (h2 : s2 = (18446744073709551615 + 18446744073709551616 - c - k1) % 18446744073709551616) (g2 : k2 = if 18446744073709551615 < c + k1 then 1 else 0)
  (h3 : s3 = (9223372036854775807 + 18446744073709551616 - d - k2) % 18446744073709551616) (g3 : k3 = if 9223372036854775807 < d + k2 then 1 else 0) (q0 : k0 ≤ 1) (q1 : k1 ≤ 1) (q2 : k2 ≤ 1)
  (hM : M < B4) (hm : n4 s0 s1 s2 s3 = num M) : Pure Tryd.prog 96 [n4 a b c d] (num (M % qaa)) := by
 refine qan (ν := nu ([a, b, c, d, s0, k0, s1, k1, s2, k2, s3, k3] ++ numL (M % qaa))) (qab _) qak qaf (fun r hr => ?_) neg_says rfl rfl
 simp only [negT, List.mem_cons, List.not_mem_nil, or_false] at hr
 rcases hr with rfl | rfl | rfl | rfl | rfl
 ·exact rowS (x := 18446744073709551597) (y := a) (c := 0) (z := s0) (k := k0) rfl rfl rfl rfl rfl (by omega) h0 g0
 ·exact rowS (x := 18446744073709551615) (y := b) (c := k0) (z := s1) (k := k1) rfl rfl rfl rfl rfl (by omega) h1 g1
 ·exact rowS (x := 18446744073709551615) (y := c) (c := k1) (z := s2) (k := k2) rfl rfl rfl rfl rfl (by omega) h2 g2
 ·exact rowS (x := 9223372036854775807) (y := d) (c := k2) (z := s3) (k := k3) rfl rfl rfl rfl rfl (by omega) h3 g3
 ·exact qbD hM (by rw [← hm]; rfl) rfl
theorem ite_le (p : Prop) [Decidable p] : (if p then 1 else 0 : Nat) ≤ 1 := by split <;> decide
theorem neg_ok (x : Nat) (hx : x < qaa) : Pure Tryd.prog 96 [num x] (num ((qaa - x) % qaa)) := by
 have hxs := qbr x
 rw [Nat.div_eq_of_lt (show x < B4 by unfold B4; unfold qaa at hx; omega)] at hxs
 obtain ⟨l0, l1, l2, l3⟩ := w_lt x
 refine neg_core (qaa - x) (w0 x) (w1 x) (w2 x) (w3 x) _ _ _ _ _ _ _ _ rfl rfl rfl rfl rfl rfl rfl rfl (ite_le _) (ite_le _) (ite_le _) (by unfold B4; unfold qaa at hx ⊢; omega) ?_
 refine num_of (e := 0) (Nat.mod_lt _ (by decide)) (Nat.mod_lt _ (by decide)) (Nat.mod_lt _ (by decide)) (Nat.mod_lt _ (by decide)) ?_
 unfold qaa at hx ⊢
 generalize w0 x = a at *
 generalize w1 x = b at *
 generalize w2 x = c at *
 generalize w3 x = d at *
 rw [hxs]
 rw [hxs] at hx
 by_cases p0 : 18446744073709551597 < a + 0
 ·simp only [p0, if_true]
  by_cases p1 : 18446744073709551615 < b + 1
  ·simp only [p1, if_true]
   by_cases p2 : 18446744073709551615 < c + 1
   ·simp only [p2, if_true]; omega
   ·simp only [p2, if_false]; omega
  ·simp only [p1, if_false]
   by_cases p2 : 18446744073709551615 < c + 0
   ·omega
   ·simp only [p2, if_false]; omega
 ·simp only [p0, if_false]
  by_cases p1 : 18446744073709551615 < b + 0
  ·omega
  ·simp only [p1, if_false]
   by_cases p2 : 18446744073709551615 < c + 0
   ·omega
   ·simp only [p2, if_false]; omega
/-! mulWord -/
def mwT : List Row := [⟨80, [wd 4, wd 8], .tp [wd 9, wd 10]⟩, ⟨80, [wd 5, wd 8], .tp [wd 11, wd 12]⟩, ⟨80, [wd 6, wd 8], .tp [wd 13, wd 14]⟩, ⟨80, [wd 7, wd 8], .tp [wd 15, wd 16]⟩,
 ⟨60, [wd 12, wd 9, c0], .tp [wd 17, wd 18]⟩, ⟨60, [wd 14, wd 11, wd 18], .tp [wd 19, wd 20]⟩, ⟨60, [wd 16, wd 13, wd 20], .tp [wd 21, wd 22]⟩,
 ⟨60, [wd 0, wd 10, c0], .tp [wd 23, wd 24]⟩, ⟨60, [wd 1, wd 17, wd 24], .tp [wd 25, wd 26]⟩, ⟨60, [wd 2, wd 19, wd 26], .tp [wd 27, wd 28]⟩, ⟨60, [wd 3, wd 21, wd 28], .tp [wd 29, wd 30]⟩]
def overE : AI := .e .add .u64 (.e .add .u64 (.s 15) (.s 22)) (.s 30)
theorem mw_says : says qae tree mwT 100 3 104 [ns 0, ns 4, wd 8] (qaA [] gmax) (.tp [.ag [wd 23, wd 25, wd 27, wd 29], .i .u64 overE]) = true := by kernel_rfl
theorem mw_core (n0 n1 n2 n3 a b c d w h0 l0 h1 l1 h2 l2 h3 l3 s1 k1 s2 k2 s3 k3 r0 e0 r1 e1 r2 e2 r3 e3 : Nat) (ba : a < 18446744073709551616) (bb : b < 18446744073709551616) (bc : c < 18446744073709551616) (bd : d < 18446744073709551616) (bw : w < 18446744073709551616)
  (q0 : h0 = a * w / 18446744073709551616) (p0 : l0 = a * w % 18446744073709551616) (q1 : h1 = b * w / 18446744073709551616) (p1 : l1 = b * w % 18446744073709551616) (q2 : h2 = c * w / 18446744073709551616) (p2 : l2 = c * w % 18446744073709551616) (q3 : h3 = d * w / 18446744073709551616) (p3 : l3 = d * w % 18446744073709551616)
  (f1 : s1 = (l1 + h0 + 0) % 18446744073709551616) (g1 : k1 = (l1 + h0 + 0) / 18446744073709551616) (f2 : s2 = (l2 + h1 + k1) % 18446744073709551616) (g2 : k2 = (l2 + h1 + k1) / 18446744073709551616) (f3 : s3 = (l3 + h2 + k2) % 18446744073709551616) (g3 : k3 = (l3 + h2 + k2) / 18446744073709551616)
  (t0 : r0 = (n0 + l0 + 0) % 18446744073709551616) (u0 : e0 = (n0 + l0 + 0) / 18446744073709551616) (t1 : r1 = (n1 + s1 + e0) % 18446744073709551616) (u1 : e1 = (n1 + s1 + e0) / 18446744073709551616) (t2 : r2 = (n2 + s2 + e1) % 18446744073709551616) (u2 : e2 = (n2 + s2 + e1) / 18446744073709551616)
  (t3 : r3 = (n3 + s3 + e2) % 18446744073709551616) (u3 : e3 = (n3 + s3 + e2) / 18446744073709551616) (z1 : k1 ≤ 1) (z2 : k2 ≤ 1) (y0 : e0 ≤ 1) (y1 : e1 ≤ 1) (y2 : e2 ≤ 1) (ho : h3 + k3 + e3 < 18446744073709551616) :
  Pure Tryd.prog 104 [n4 n0 n1 n2 n3, n4 a b c d, u64 w] (.tuple #[n4 r0 r1 r2 r3, u64 (h3 + k3 + e3)]) := by
 have ov : overE.val (nu [n0, n1, n2, n3, a, b, c, d, w, h0, l0, h1, l1, h2, l2, h3, l3, s1, k1, s2, k2, s3, k3, r0, e0, r1, e1, r2, e2, r3, e3]) = ((h3 + k3 + e3 : Nat) : Int) := by
  show qaj .add .u64 (qaj .add .u64 (h3 : Int) (k3 : Int)) (e3 : Int) = _
  rw [a_add, a_add]
  omega
 refine qan (ν := nu [n0, n1, n2, n3, a, b, c, d, w, h0, l0, h1, l1, h2, l2, h3, l3, s1, k1, s2, k2, s3, k3, r0, e0, r1, e1, r2, e2, r3, e3]) (qab _) qak qaf (fun r hr => ?_) mw_says rfl ?_
 ·simp only [mwT, List.mem_cons, List.not_mem_nil, or_false] at hr
  rcases hr with rfl | rfl | rfl | rfl | rfl | rfl | rfl | rfl | rfl | rfl | rfl
  ·exact rowM (x := a) (y := w) (z := h0) (k := l0) rfl rfl rfl rfl ba bw q0 p0
  ·exact rowM (x := b) (y := w) (z := h1) (k := l1) rfl rfl rfl rfl bb bw q1 p1
  ·exact rowM (x := c) (y := w) (z := h2) (k := l2) rfl rfl rfl rfl bc bw q2 p2
  ·exact rowM (x := d) (y := w) (z := h3) (k := l3) rfl rfl rfl rfl bd bw q3 p3
  ·exact rowA (x := l1) (y := h0) (c := 0) (z := s1) (k := k1) rfl rfl rfl rfl rfl (by omega) f1 g1
  ·exact rowA (x := l2) (y := h1) (c := k1) (z := s2) (k := k2) rfl rfl rfl rfl rfl (by omega) f2 g2
  ·exact rowA (x := l3) (y := h2) (c := k2) (z := s3) (k := k3) rfl rfl rfl rfl rfl (by omega) f3 g3
  ·exact rowA (x := n0) (y := l0) (c := 0) (z := r0) (k := e0) rfl rfl rfl rfl rfl (by omega) t0 u0
  ·exact rowA (x := n1) (y := s1) (c := e0) (z := r1) (k := e1) rfl rfl rfl rfl rfl (by omega) t1 u1
  ·exact rowA (x := n2) (y := s2) (c := e1) (z := r2) (k := e2) rfl rfl rfl rfl rfl (by omega) t2 u2
  ·exact rowA (x := n3) (y := s3) (c := e2) (z := r3) (k := e3) rfl rfl rfl rfl rfl (by omega) t3 u3
 ·simp only [conc, qai, qag, qap, conc1, wd, ov]
  rfl
theorem qa0 (x w : Nat) (hx : x < B4) : x * w = w0 x * w + w1 x * w * 18446744073709551616 + w2 x * w * 340282366920938463463374607431768211456 + w3 x * w * 6277101735386680763835789423207666416102355444464034512896 := by
 have hs := qbr x
 rw [Nat.div_eq_of_lt hx, Nat.zero_mul, Nat.add_zero] at hs
 have h2 : x * w = (w0 x + w1 x * 18446744073709551616 + w2 x * 340282366920938463463374607431768211456 + w3 x * 6277101735386680763835789423207666416102355444464034512896) * w := congrArg (· * w) hs
 rw [h2, Nat.add_mul, Nat.add_mul, Nat.add_mul, Nat.mul_right_comm (w1 x), Nat.mul_right_comm (w2 x), Nat.mul_right_comm (w3 x)]
theorem dm (x : Nat) : ∃ q r, q = x / 18446744073709551616 ∧ r = x % 18446744073709551616 ∧ x = r + q * 18446744073709551616 ∧ r < 18446744073709551616 := ⟨_, _, rfl, rfl, by omega, by omega⟩
theorem mw_lin (n0 n1 n2 n3 P Q R S h0 l0 h1 l1 h2 l2 h3 l3 s1 k1 s2 k2 s3 k3 r0 e0 r1 e1 r2 e2 r3 e3 : Nat) (E0 : P = l0 + h0 * 18446744073709551616) (E1 : Q = l1 + h1 * 18446744073709551616) (E2 : R = l2 + h2 * 18446744073709551616) (E3 : S = l3 + h3 * 18446744073709551616)
  (F1 : l1 + h0 + 0 = s1 + k1 * 18446744073709551616) (F2 : l2 + h1 + k1 = s2 + k2 * 18446744073709551616) (F3 : l3 + h2 + k2 = s3 + k3 * 18446744073709551616)
  (G0 : n0 + l0 + 0 = r0 + e0 * 18446744073709551616) (G1 : n1 + s1 + e0 = r1 + e1 * 18446744073709551616) (G2 : n2 + s2 + e1 = r2 + e2 * 18446744073709551616) (G3 : n3 + s3 + e2 = r3 + e3 * 18446744073709551616) :
  n0 + n1 * 18446744073709551616 + n2 * 340282366920938463463374607431768211456 + n3 * 6277101735386680763835789423207666416102355444464034512896 + (P + Q * 18446744073709551616 + R * 340282366920938463463374607431768211456 + S * 6277101735386680763835789423207666416102355444464034512896) =
   r0 + r1 * 18446744073709551616 + r2 * 340282366920938463463374607431768211456 + r3 * 6277101735386680763835789423207666416102355444464034512896 + (h3 + k3 + e3) * 115792089237316195423570985008687907853269984665640564039457584007913129639936 := by
 omega
theorem mw_over (n x w over r0 r1 r2 r3 : Nat) (hn : n < 115792089237316195423570985008687907853269984665640564039457584007913129639936) (hp : x * w ≤ 115792089237316195423570985008687907853269984665640564039457584007913129639935 * 18446744073709551615)
  (h : n + x * w = r0 + r1 * 18446744073709551616 + r2 * 340282366920938463463374607431768211456 + r3 * 6277101735386680763835789423207666416102355444464034512896 + over * 115792089237316195423570985008687907853269984665640564039457584007913129639936) : over < 18446744073709551616 := by
 generalize x * w = p at *
 omega
theorem car1 {x y k q r : Nat} (h : x + y + k = r + q * 18446744073709551616) (hx : x < 18446744073709551616) (hy : y < 18446744073709551616) (hk : k ≤ 1) : q ≤ 1 := by omega
theorem mw_ok (n x w : Nat) (hn : n < B4) (hx : x < B4) (hw : w < 18446744073709551616) : Pure Tryd.prog 104 [num n, num x, u64 w] (.tuple #[num (n + x * w), u64 ((n + x * w) / B4)]) := by
 have hns := qbr n
 rw [Nat.div_eq_of_lt hn, Nat.zero_mul, Nat.add_zero] at hns
 obtain ⟨m0, m1, m2, m3⟩ := w_lt n
 obtain ⟨b0, b1, b2, b3⟩ := w_lt x
 have hp := qa0 x w hx
 have hh : ∀ a h l : Nat, a < 18446744073709551616 → a * w = l + h * 18446744073709551616 → h < 18446744073709551616 := by
  intro a h l ha he
  have v0 : a * w ≤ 18446744073709551615 * 18446744073709551615 := Nat.mul_le_mul (by omega) (by omega)
  omega
 obtain ⟨h0, l0, eh0, el0, E0, d0⟩ := dm (w0 x * w)
 obtain ⟨h1, l1, eh1, el1, E1, d1⟩ := dm (w1 x * w)
 obtain ⟨h2, l2, eh2, el2, E2, d2⟩ := dm (w2 x * w)
 obtain ⟨h3, l3, eh3, el3, E3, d3⟩ := dm (w3 x * w)
 have c0 := hh _ _ _ b0 E0
 have c1 := hh _ _ _ b1 E1
 have c2 := hh _ _ _ b2 E2
 obtain ⟨k1, s1, g1, f1, F1, d4⟩ := dm (l1 + h0 + 0)
 have z1 := car1 F1 d1 c0 (Nat.zero_le _)
 obtain ⟨k2, s2, g2, f2, F2, d5⟩ := dm (l2 + h1 + k1)
 have z2 := car1 F2 d2 c1 z1
 obtain ⟨k3, s3, g3, f3, F3, d6⟩ := dm (l3 + h2 + k2)
 obtain ⟨e0, r0, u0, t0, G0, d7⟩ := dm (w0 n + l0 + 0)
 have y0 := car1 G0 m0 d0 (Nat.zero_le _)
 obtain ⟨e1, r1, u1, t1, G1, d8⟩ := dm (w1 n + s1 + e0)
 have y1 := car1 G1 m1 d4 y0
 obtain ⟨e2, r2, u2, t2, G2, d9⟩ := dm (w2 n + s2 + e1)
 have y2 := car1 G2 m2 d5 y1
 obtain ⟨e3, r3, u3, t3, G3, d10⟩ := dm (w3 n + s3 + e2)
 have key : n + x * w = r0 + r1 * 18446744073709551616 + r2 * 340282366920938463463374607431768211456 + r3 * 6277101735386680763835789423207666416102355444464034512896 + (h3 + k3 + e3) * B4 := by
  rw [hp]
  conv => lhs; rw [hns]
  exact mw_lin _ _ _ _ _ _ _ _ _ _ _ _ _ _ _ _ _ _ _ _ _ _ _ _ _ _ _ _ _ _ E0 E1 E2 E3 F1 F2 F3 G0 G1 G2 G3
 have hB : x ≤ 115792089237316195423570985008687907853269984665640564039457584007913129639935 := by unfold B4 at hx; exact Nat.le_of_lt_succ hx
 have ho : h3 + k3 + e3 < 18446744073709551616 := mw_over n x w _ r0 r1 r2 r3 hn (Nat.mul_le_mul hB (Nat.le_of_lt_succ hw)) key
 refine Pure.to (mw_core (w0 n) (w1 n) (w2 n) (w3 n) (w0 x) (w1 x) (w2 x) (w3 x) w h0 l0 h1 l1 h2 l2 h3 l3 s1 k1 s2 k2 s3 k3 r0 e0 r1 e1 r2 e2 r3 e3 b0 b1 b2 b3 hw eh0 el0 eh1 el1 eh2 el2 eh3 el3 f1 g1 f2 g2 f3 g3 t0 u0 t1 u1 t2 u2 t3 u3 z1 z2 y0 y1 y2 ho) rfl ?_
 rw [(dig4 d7 d8 d9 d10 key).2.2.2.2, num_of d7 d8 d9 d10 key]
/-! mul -/
theorem rowMW {ν : Nat → Int} {p q r s t : AV} {n x w : Nat} (hn : n < B4) (hx : x < B4) (hw : w < 18446744073709551616) (h1 : qag ν p = some (num n)) (h2 : qag ν q = some (num x)) (h3 : qag ν r = some (u64 w)) (h4 : qag ν s = some (num (n + x * w))) (h5 : qag ν t = some (u64 ((n + x * w) / B4))) :
  Row.Ok ν Tryd.prog ⟨104, [p, q, r], .tp [s, t]⟩ :=
 ⟨[num n, num x, u64 w], .tuple #[num (n + x * w), u64 ((n + x * w) / B4)], by simp [qai, h1, h2, h3], by simp [conc, qai, h4, h5], mw_ok n x w hn hx hw⟩
theorem rowP {ν : Nat → Int} {p q s t : AV} {n w : Nat} (hn : n < B4) (hw : w < 18446744073709551616) (h1 : qag ν p = some (num n)) (h2 : qag ν q = some (u64 w)) (h4 : qag ν s = some (num (n + w))) (h5 : qag ν t = some (u64 ((n + w) / B4))) :
  Row.Ok ν Tryd.prog ⟨102, [p, q], .tp [s, t]⟩ :=
 ⟨[num n, u64 w], .tuple #[num (n + w), u64 ((n + w) / B4)], by simp [qai, h1, h2], by simp [conc, qai, h4, h5], plus_ok n w hn hw⟩
theorem num_shift (T : Nat) (hT : T / B4 < 18446744073709551616) : n4 (w1 T) (w2 T) (w3 T) (T / B4) = num (T / 18446744073709551616) := by
 obtain ⟨l0, l1, l2, l3⟩ := w_lt T
 refine num_of (e := 0) l1 l2 l3 hT ?_
 have hs := qbr T
 unfold B4 at *
 generalize w0 T = a at *
 generalize w1 T = b at *
 generalize w2 T = c at *
 generalize w3 T = d at *
 omega
def timesE (k : Nat) : AI := .e .mul .u64 (.c (.ofNat 38)) (.s k)
def mulT : List Row := [⟨104, [.ag [c0, c0, c0, c0], ns 0, wd 4], .tp [ns 8, wd 12]⟩, ⟨104, [ns 9, ns 0, wd 5], .tp [ns 13, wd 17]⟩, ⟨104, [ns 14, ns 0, wd 6], .tp [ns 18, wd 22]⟩, ⟨104, [ns 19, ns 0, wd 7], .tp [ns 23, wd 27]⟩,
 ⟨104, [.ag [wd 8, wd 13, wd 18, wd 23], ns 24, cK 38], .tp [ns 28, wd 32]⟩, ⟨102, [ns 28, .i .u64 (timesE 32)], .tp [ns 33, wd 37]⟩, ⟨102, [ns 33, .i .u64 (timesE 37)], .tp [ns 38, wd 42]⟩, ⟨92, [ns 38], ns 43⟩]
theorem mul_says : says qae tree mulT 100 3 94 [ns 0, ns 4] (qaA [] gmax) (ns 43) = true := by kernel_rfl
theorem times_val {ν : Nat → Int} {k x : Nat} (h : ν k = (x : Int)) (hx : x < 18446744073709551616 / 38) : (timesE k).val ν = ((38 * x : Nat) : Int) := by
 show qaj .mul .u64 ((38 : Nat) : Int) (ν k) = _
 rw [h, a_mul, Nat.mod_eq_of_lt (by omega)]
set_option maxHeartbeats 2000000 in
theorem mul_core (a b T0 T1 T2 T3 L H T4 T5 T6 : Nat) (ha : a < B4) (hT0 : T0 = 0 + a * w0 b) (hT1 : T1 = T0 / 18446744073709551616 + a * w1 b) (hT2 : T2 = T1 / 18446744073709551616 + a * w2 b) (hT3 : T3 = T2 / 18446744073709551616 + a * w3 b)
  (hL : n4 (w0 T0) (w0 T1) (w0 T2) (w0 T3) = num L) (hLb : L < B4) (hH : H = T3 / 18446744073709551616) (hT4 : T4 = L + H * 38) (hT5 : T5 = T4 % B4 + 38 * (T4 / B4)) (hT6 : T6 = T5 % B4 + 38 * (T5 / B4))
  (d0 : T0 / B4 < 18446744073709551616) (d1 : T1 / B4 < 18446744073709551616) (d2 : T2 / B4 < 18446744073709551616) (d3 : T3 / B4 < 18446744073709551616) (d4 : T4 / B4 < 1000) (d5 : T5 / B4 < 1000) (d6 : T6 < B4)
  (c0' : T0 / 18446744073709551616 < B4) (c1' : T1 / 18446744073709551616 < B4) (c2' : T2 / 18446744073709551616 < B4) (c3' : H < B4) :
  Pure Tryd.prog 94 [num a, num b] (num (T6 % qaa)) := by
 obtain ⟨l0, l1, l2, l3⟩ := w_lt b
 let l : List Nat := numL a ++ numL b ++ (numL T0 ++ [T0 / B4]) ++ (numL T1 ++ [T1 / B4]) ++ (numL T2 ++ [T2 / B4]) ++ (numL T3 ++ [T3 / B4]) ++ (numL T4 ++ [T4 / B4]) ++ (numL T5 ++ [T5 / B4]) ++ (numL T6 ++ [T6 / B4]) ++ numL (T6 % qaa)
 refine qan (ν := nu l) (qab _) qak qaf (fun r hr => ?_) mul_says rfl rfl
 have t1 : qag (nu l) (.i .u64 (timesE 32)) = some (u64 (38 * (T4 / B4))) := congrArg (fun z => some (Value.int .u64 z)) (times_val (x := T4 / B4) rfl (by omega))
 have t2 : qag (nu l) (.i .u64 (timesE 37)) = some (u64 (38 * (T5 / B4))) := congrArg (fun z => some (Value.int .u64 z)) (times_val (x := T5 / B4) rfl (by omega))
 have s0 : qag (nu l) (ns 9) = some (num (T0 / 18446744073709551616)) := congrArg some (num_shift T0 d0)
 have s1 : qag (nu l) (ns 14) = some (num (T1 / 18446744073709551616)) := congrArg some (num_shift T1 d1)
 have s2 : qag (nu l) (ns 19) = some (num (T2 / 18446744073709551616)) := congrArg some (num_shift T2 d2)
 have s3 : qag (nu l) (ns 24) = some (num H) := by rw [hH]; exact congrArg some (num_shift T3 d3)
 have sL : qag (nu l) (.ag [wd 8, wd 13, wd 18, wd 23]) = some (num L) := congrArg some hL
 simp only [mulT, List.mem_cons, List.not_mem_nil, or_false] at hr
 rcases hr with rfl | rfl | rfl | rfl | rfl | rfl | rfl | rfl
 ·exact rowMW (n := 0) (x := a) (w := w0 b) (by unfold B4; decide) ha l0 rfl rfl rfl (by rw [← hT0]; rfl) (by rw [← hT0]; rfl)
 ·exact rowMW (n := T0 / 18446744073709551616) (x := a) (w := w1 b) c0' ha l1 s0 rfl rfl (by rw [← hT1]; rfl) (by rw [← hT1]; rfl)
 ·exact rowMW (n := T1 / 18446744073709551616) (x := a) (w := w2 b) c1' ha l2 s1 rfl rfl (by rw [← hT2]; rfl) (by rw [← hT2]; rfl)
 ·exact rowMW (n := T2 / 18446744073709551616) (x := a) (w := w3 b) c2' ha l3 s2 rfl rfl (by rw [← hT3]; rfl) (by rw [← hT3]; rfl)
 ·exact rowMW (n := L) (x := H) (w := 38) hLb c3' (by decide) sL s3 rfl (by rw [← hT4]; rfl) (by rw [← hT4]; rfl)
 ·exact rowP (n := T4 % B4) (w := 38 * (T4 / B4)) (Nat.mod_lt _ (by decide)) (by omega) (by rw [qbE]; rfl) t1 (by rw [← hT5]; rfl) (by rw [← hT5]; rfl)
 ·exact rowP (n := T5 % B4) (w := 38 * (T5 / B4)) (Nat.mod_lt _ (by decide)) (by omega) (by rw [qbE]; rfl) t2 (by rw [← hT6]; rfl) (by rw [← hT6]; rfl)
 ·exact qbD d6 rfl rfl
theorem mul_low (L T0 T1 T2 T3 : Nat) (hL : L = w0 T0 + w0 T1 * 18446744073709551616 + w0 T2 * 340282366920938463463374607431768211456 + w0 T3 * 6277101735386680763835789423207666416102355444464034512896) : n4 (w0 T0) (w0 T1) (w0 T2) (w0 T3) = num L ∧ L < B4 := by
 have l0 := (w_lt T0).1
 have l1 := (w_lt T1).1
 have l2 := (w_lt T2).1
 have l3 := (w_lt T3).1
 refine ⟨num_of (e := 0) l0 l1 l2 l3 (by rw [hL]; omega), ?_⟩
 rw [hL]
 unfold B4
 omega
theorem mul_lin (P0 P1 P2 P3 T0 T1 T2 T3 q0 q1 q2 q3 r0 r1 r2 r3 : Nat) (h0 : T0 = 0 + P0) (e0 : T0 = r0 + q0 * 18446744073709551616) (h1 : T1 = q0 + P1) (e1 : T1 = r1 + q1 * 18446744073709551616) (h2 : T2 = q1 + P2) (e2 : T2 = r2 + q2 * 18446744073709551616) (h3 : T3 = q2 + P3) (e3 : T3 = r3 + q3 * 18446744073709551616) :
  P0 + P1 * 18446744073709551616 + P2 * 340282366920938463463374607431768211456 + P3 * 6277101735386680763835789423207666416102355444464034512896 = (r0 + r1 * 18446744073709551616 + r2 * 340282366920938463463374607431768211456 + r3 * 6277101735386680763835789423207666416102355444464034512896) + q3 * 115792089237316195423570985008687907853269984665640564039457584007913129639936 := by
 omega
theorem quot_lt (q P T : Nat) (hq : q < B4) (hP : P ≤ (B4 - 1) * 18446744073709551615) (hT : T = q + P) : T / 18446744073709551616 < B4 ∧ T / B4 < 18446744073709551616 := by
 unfold B4 at *
 omega
theorem fold_p (L H T4 T5 T6 : Nat) (hL : L < B4) (hH : H < B4) (h4 : T4 = L + H * 38) (h5 : T5 = T4 % B4 + 38 * (T4 / B4)) (h6 : T6 = T5 % B4 + 38 * (T5 / B4)) : T4 / B4 < 1000 ∧ T5 / B4 < 1000 ∧ T6 < B4 ∧ T6 % qaa = (L + H * B4) % qaa := by
 have a4 : T4 / B4 < 1000 := by unfold B4 at *; omega
 have a5 : T5 / B4 ≤ 1 := by unfold B4 at *; omega
 have a6 : T6 < B4 := by
  rcases Nat.lt_or_ge T5 B4 with h | h
  ·rw [h6, Nat.div_eq_of_lt h, Nat.mod_eq_of_lt h]; exact h
  ·unfold B4 at *; omega
 refine ⟨a4, by omega, a6, ?_⟩
 have g1 : T4 = T4 % B4 + T4 / B4 * B4 := (Nat.mod_add_div' T4 B4).symm
 have g2 : T5 = T5 % B4 + T5 / B4 * B4 := (Nat.mod_add_div' T5 B4).symm
 generalize T4 / B4 = x at *
 generalize T4 % B4 = y at *
 generalize T5 / B4 = u at *
 generalize T5 % B4 = v at *
 unfold B4 qaa at *
 omega
theorem mul_ok (a b : Nat) (ha : a < B4) (hb : b < B4) : Pure Tryd.prog 94 [num a, num b] (num (a * b % qaa)) := by
 obtain ⟨l0, l1, l2, l3⟩ := w_lt b
 have hab := qa0 b a hb
 rw [Nat.mul_comm b a, Nat.mul_comm (w0 b), Nat.mul_comm (w1 b), Nat.mul_comm (w2 b), Nat.mul_comm (w3 b)] at hab
 have bd : ∀ w, w < 18446744073709551616 → a * w ≤ (B4 - 1) * 18446744073709551615 := fun w hw => Nat.mul_le_mul (Nat.le_pred_of_lt ha) (Nat.le_of_lt_succ hw)
 obtain ⟨T0, hT0⟩ : ∃ T, T = 0 + a * w0 b := ⟨_, rfl⟩
 obtain ⟨c0', d0⟩ := quot_lt 0 _ _ (by decide) (bd _ l0) hT0
 obtain ⟨T1, hT1⟩ : ∃ T, T = T0 / 18446744073709551616 + a * w1 b := ⟨_, rfl⟩
 obtain ⟨c1', d1⟩ := quot_lt _ _ _ c0' (bd _ l1) hT1
 obtain ⟨T2, hT2⟩ : ∃ T, T = T1 / 18446744073709551616 + a * w2 b := ⟨_, rfl⟩
 obtain ⟨c2', d2⟩ := quot_lt _ _ _ c1' (bd _ l2) hT2
 obtain ⟨T3, hT3⟩ : ∃ T, T = T2 / 18446744073709551616 + a * w3 b := ⟨_, rfl⟩
 obtain ⟨c3', d3⟩ := quot_lt _ _ _ c2' (bd _ l3) hT3
 obtain ⟨L, hL⟩ : ∃ L, L = w0 T0 + w0 T1 * 18446744073709551616 + w0 T2 * 340282366920938463463374607431768211456 + w0 T3 * 6277101735386680763835789423207666416102355444464034512896 := ⟨_, rfl⟩
 obtain ⟨nL, bL⟩ := mul_low L T0 T1 T2 T3 hL
 obtain ⟨T4, hT4⟩ : ∃ T, T = L + T3 / 18446744073709551616 * 38 := ⟨_, rfl⟩
 obtain ⟨T5, hT5⟩ : ∃ T, T = T4 % B4 + 38 * (T4 / B4) := ⟨_, rfl⟩
 obtain ⟨T6, hT6⟩ : ∃ T, T = T5 % B4 + 38 * (T5 / B4) := ⟨_, rfl⟩
 obtain ⟨d4, d5, d6, hm⟩ := fold_p L _ T4 T5 T6 bL c3' hT4 hT5 hT6
 have e : ∀ T, T = w0 T + T / 18446744073709551616 * 18446744073709551616 := fun T => (Nat.mod_add_div' T _).symm
 have key : a * b = L + T3 / 18446744073709551616 * B4 := by
  rw [hab, hL]
  exact mul_lin _ _ _ _ T0 T1 T2 T3 _ _ _ _ _ _ _ _ hT0 (e T0) hT1 (e T1) hT2 (e T2) hT3 (e T3)
 rw [key, ← hm]
 exact mul_core a b T0 T1 T2 T3 L _ T4 T5 T6 ha hT0 hT1 hT2 hT3 nL bL rfl hT4 hT5 hT6 d0 d1 d2 d3 d4 d5 d6 c0' c1' c2' c3'
/-! read and lay -/
theorem read_says : says qae tree [] 100 3 93 [bs 0] (qaA [] gmax) (.ag [.i .u64 (rdE 0), .i .u64 (rdE 8), .i .u64 (rdE 16), .i .u64 (rdE 24)]) = true := by kernel_rfl
theorem read_ok (x : Nat) : Pure Tryd.prog 93 [byt x] (num x) := by
 obtain ⟨l0, l1, l2, l3⟩ := w_lt x
 refine qan (ν := nu (byL x)) (qab _) qak qaf (fun r hr => by cases hr) read_says rfl ?_
 have e0 : (rdE 0).val (nu (byL x)) = ((w0 x : Nat) : Int) := rdE_word l0 rfl rfl rfl rfl rfl rfl rfl rfl
 have e1 : (rdE 8).val (nu (byL x)) = ((w1 x : Nat) : Int) := rdE_word l1 rfl rfl rfl rfl rfl rfl rfl rfl
 have e2 : (rdE 16).val (nu (byL x)) = ((w2 x : Nat) : Int) := rdE_word l2 rfl rfl rfl rfl rfl rfl rfl rfl
 have e3 : (rdE 24).val (nu (byL x)) = ((w3 x : Nat) : Int) := rdE_word l3 rfl rfl rfl rfl rfl rfl rfl rfl
 show (qap _ [.i .u64 (rdE 0), .i .u64 (rdE 8), .i .u64 (rdE 16), .i .u64 (rdE 24)]).map (fun vs => Value.agg vs.toArray) = _
 simp only [qap, conc1, e0, e1, e2, e3, Option.map_some]
 rfl
def lb (k n : Nat) : AV := .i .u8 (.w .u8 (.e .shr .u64 (.s k) (.c (.ofNat n))))
def lb0 (k : Nat) : AV := .i .u8 (.w .u8 (.s k))
def layR : List AV := [lb0 0, lb 0 8, lb 0 16, lb 0 24, lb 0 32, lb 0 40, lb 0 48, lb 0 56, lb0 1, lb 1 8, lb 1 16, lb 1 24, lb 1 32, lb 1 40, lb 1 48, lb 1 56, lb0 2, lb 2 8, lb 2 16, lb 2 24, lb 2 32, lb 2 40, lb 2 48, lb 2 56, lb0 3, lb 3 8, lb 3 16, lb 3 24, lb 3 32, lb 3 40, lb 3 48, lb 3 56]
theorem lay_says : says qae tree [] 100 3 91 [ns 0] (qaA [] gmax) (.ag layR) = true := by kernel_rfl
theorem qal {ν : Nat → Int} {k y : Nat} (h : ν k = (y : Int)) (n : Nat) (hn : n ≤ 64) : conc1 ν (lb k n) = some (u8 (y / 2 ^ n % 256)) := congrArg (fun z => some (Value.int .u8 z)) (layE_val h n hn)
theorem lb0_val {ν : Nat → Int} {k y : Nat} (h : ν k = (y : Int)) : conc1 ν (lb0 k) = some (u8 (y % 256)) := by
 show some (Value.int .u8 (IntKind.u8.wrap (ν k))) = _
 rw [h, a_w8]
 rfl
theorem lay_ok (x : Nat) : Pure Tryd.prog 91 [num x] (byt x) := by
 refine qan (ν := nu (numL x)) (qab _) qak qaf (fun r hr => by cases hr) lay_says rfl ?_
 have f0 : nu (numL x) 0 = ((w0 x : Nat) : Int) := rfl
 have f1 : nu (numL x) 1 = ((w1 x : Nat) : Int) := rfl
 have f2 : nu (numL x) 2 = ((w2 x : Nat) : Int) := rfl
 have f3 : nu (numL x) 3 = ((w3 x : Nat) : Int) := rfl
 show (qap _ layR).map (fun vs => Value.agg vs.toArray) = _
 simp only [layR, qap, lb0_val f0, lb0_val f1, lb0_val f2, lb0_val f3, qal f0 8 (by decide), qal f0 16 (by decide), qal f0 24 (by decide), qal f0 32 (by decide), qal f0 40 (by decide), qal f0 48 (by decide), qal f0 56 (by decide),
  qal f1 8 (by decide), qal f1 16 (by decide), qal f1 24 (by decide), qal f1 32 (by decide), qal f1 40 (by decide), qal f1 48 (by decide), qal f1 56 (by decide),
  qal f2 8 (by decide), qal f2 16 (by decide), qal f2 24 (by decide), qal f2 32 (by decide), qal f2 40 (by decide), qal f2 48 (by decide), qal f2 56 (by decide),
  qal f3 8 (by decide), qal f3 16 (by decide), qal f3 24 (by decide), qal f3 32 (by decide), qal f3 40 (by decide), qal f3 48 (by decide), qal f3 56 (by decide), Option.map_some]
 rfl
end Go.Proofs.YtheidgcgdkmmiaaDoor
