/-
  THE FIELD: the product; numbers read and laid; what Mod, Add, Sub and Mul answer. Own work.
-/
import Derived.Test.YtlalonomdblhdaaFb
namespace Go.Proofs.Ytlalonomdblhdaa
open Go.Sh
set_option maxRecDepth 100000

/-! mul -/

theorem rowMW {ν : Nat → Int} {p q r s t : AV} {n x w : Nat} (hn : n < B4) (hx : x < B4) (hw : w < 18446744073709551616) (h1 : conc2 ν p = some (num n)) (h2 : conc2 ν q = some (num x)) (h3 : conc2 ν r = some (u64 w)) (h4 : conc2 ν s = some (num (n + x * w))) (h5 : conc2 ν t = some (u64 ((n + x * w) / B4))) :
    Row.Ok ν Try.prog ⟨46, [p, q, r], .tp [s, t]⟩ :=
  ⟨[num n, num x, u64 w], .tuple #[num (n + x * w), u64 ((n + x * w) / B4)], by simp [concT, h1, h2, h3], by simp [conc, concT, h4, h5], mw_ok n x w hn hx hw⟩

theorem rowP {ν : Nat → Int} {p q s t : AV} {n w : Nat} (hn : n < B4) (hw : w < 18446744073709551616) (h1 : conc2 ν p = some (num n)) (h2 : conc2 ν q = some (u64 w)) (h4 : conc2 ν s = some (num (n + w))) (h5 : conc2 ν t = some (u64 ((n + w) / B4))) :
    Row.Ok ν Try.prog ⟨47, [p, q], .tp [s, t]⟩ :=
  ⟨[num n, u64 w], .tuple #[num (n + w), u64 ((n + w) / B4)], by simp [concT, h1, h2], by simp [conc, concT, h4, h5], plus_ok n w hn hw⟩

theorem num_shift (T : Nat) (hT : T / B4 < 18446744073709551616) : n4 (w1 T) (w2 T) (w3 T) (T / B4) = num (T / 18446744073709551616) := by
  obtain ⟨l0, l1, l2, l3⟩ := w_lt T
  refine num_of (e := 0) l1 l2 l3 hT ?_
  have hs := split4 T
  unfold B4 at *
  generalize w0 T = a at *
  generalize w1 T = b at *
  generalize w2 T = c at *
  generalize w3 T = d at *
  omega

def timesE (k : Nat) : AI := .e .mul .u64 (.c (.ofNat 38)) (.s k)
def mulT : List Row := [⟨46, [.ag [c0, c0, c0, c0], ns 0, wd 4], .tp [ns 8, wd 12]⟩, ⟨46, [ns 9, ns 0, wd 5], .tp [ns 13, wd 17]⟩, ⟨46, [ns 14, ns 0, wd 6], .tp [ns 18, wd 22]⟩, ⟨46, [ns 19, ns 0, wd 7], .tp [ns 23, wd 27]⟩,
  ⟨46, [.ag [wd 8, wd 13, wd 18, wd 23], ns 24, cK 38], .tp [ns 28, wd 32]⟩, ⟨47, [ns 28, .i .u64 (timesE 32)], .tp [ns 33, wd 37]⟩, ⟨47, [ns 33, .i .u64 (timesE 37)], .tp [ns 38, wd 42]⟩, ⟨43, [ns 38], ns 43⟩]
theorem mul_says : says noFacts tree mulT 100 3 36 [ns 0, ns 4] (heap0 [] gmax) (ns 43) = true := by kernel_rfl

theorem times_val {ν : Nat → Int} {k x : Nat} (h : ν k = (x : Int)) (hx : x < 18446744073709551616 / 38) : (timesE k).val ν = ((38 * x : Nat) : Int) := by
  show arith .mul .u64 ((38 : Nat) : Int) (ν k) = _
  rw [h, a_mul, Nat.mod_eq_of_lt (by omega)]

set_option maxHeartbeats 2000000 in
theorem mul_core (a b T0 T1 T2 T3 L H T4 T5 T6 : Nat) (ha : a < B4) (hT0 : T0 = 0 + a * w0 b) (hT1 : T1 = T0 / 18446744073709551616 + a * w1 b) (hT2 : T2 = T1 / 18446744073709551616 + a * w2 b) (hT3 : T3 = T2 / 18446744073709551616 + a * w3 b)
    (hL : n4 (w0 T0) (w0 T1) (w0 T2) (w0 T3) = num L) (hLb : L < B4) (hH : H = T3 / 18446744073709551616) (hT4 : T4 = L + H * 38) (hT5 : T5 = T4 % B4 + 38 * (T4 / B4)) (hT6 : T6 = T5 % B4 + 38 * (T5 / B4))
    (d0 : T0 / B4 < 18446744073709551616) (d1 : T1 / B4 < 18446744073709551616) (d2 : T2 / B4 < 18446744073709551616) (d3 : T3 / B4 < 18446744073709551616) (d4 : T4 / B4 < 1000) (d5 : T5 / B4 < 1000) (d6 : T6 < B4)
    (c0' : T0 / 18446744073709551616 < B4) (c1' : T1 / 18446744073709551616 < B4) (c2' : T2 / 18446744073709551616 < B4) (c3' : H < B4) :
    Pure Try.prog 36 [num a, num b] (num (T6 % prime)) := by
  obtain ⟨l0, l1, l2, l3⟩ := w_lt b
  let l : List Nat := numL a ++ numL b ++ (numL T0 ++ [T0 / B4]) ++ (numL T1 ++ [T1 / B4]) ++ (numL T2 ++ [T2 / B4]) ++ (numL T3 ++ [T3 / B4]) ++ (numL T4 ++ [T4 / B4]) ++ (numL T5 ++ [T5 / B4]) ++ (numL T6 ++ [T6 / B4]) ++ numL (T6 % prime)
  refine pure_of (ν := nu l) (noFacts_hold _) mixed tab_ok (fun r hr => ?_) mul_says rfl rfl
  have t1 : conc2 (nu l) (.i .u64 (timesE 32)) = some (u64 (38 * (T4 / B4))) := congrArg (fun z => some (Value.int .u64 z)) (times_val (x := T4 / B4) rfl (by omega))
  have t2 : conc2 (nu l) (.i .u64 (timesE 37)) = some (u64 (38 * (T5 / B4))) := congrArg (fun z => some (Value.int .u64 z)) (times_val (x := T5 / B4) rfl (by omega))
  have s0 : conc2 (nu l) (ns 9) = some (num (T0 / 18446744073709551616)) := congrArg some (num_shift T0 d0)
  have s1 : conc2 (nu l) (ns 14) = some (num (T1 / 18446744073709551616)) := congrArg some (num_shift T1 d1)
  have s2 : conc2 (nu l) (ns 19) = some (num (T2 / 18446744073709551616)) := congrArg some (num_shift T2 d2)
  have s3 : conc2 (nu l) (ns 24) = some (num H) := by rw [hH]; exact congrArg some (num_shift T3 d3)
  have sL : conc2 (nu l) (.ag [wd 8, wd 13, wd 18, wd 23]) = some (num L) := congrArg some hL
  simp only [mulT, List.mem_cons, List.not_mem_nil, or_false] at hr
  rcases hr with rfl | rfl | rfl | rfl | rfl | rfl | rfl | rfl
  · exact rowMW (n := 0) (x := a) (w := w0 b) (by unfold B4; decide) ha l0 rfl rfl rfl (by rw [← hT0]; rfl) (by rw [← hT0]; rfl)
  · exact rowMW (n := T0 / 18446744073709551616) (x := a) (w := w1 b) c0' ha l1 s0 rfl rfl (by rw [← hT1]; rfl) (by rw [← hT1]; rfl)
  · exact rowMW (n := T1 / 18446744073709551616) (x := a) (w := w2 b) c1' ha l2 s1 rfl rfl (by rw [← hT2]; rfl) (by rw [← hT2]; rfl)
  · exact rowMW (n := T2 / 18446744073709551616) (x := a) (w := w3 b) c2' ha l3 s2 rfl rfl (by rw [← hT3]; rfl) (by rw [← hT3]; rfl)
  · exact rowMW (n := L) (x := H) (w := 38) hLb c3' (by decide) sL s3 rfl (by rw [← hT4]; rfl) (by rw [← hT4]; rfl)
  · exact rowP (n := T4 % B4) (w := 38 * (T4 / B4)) (Nat.mod_lt _ (by decide)) (by omega) (by rw [num_mod]; rfl) t1 (by rw [← hT5]; rfl) (by rw [← hT5]; rfl)
  · exact rowP (n := T5 % B4) (w := 38 * (T5 / B4)) (Nat.mod_lt _ (by decide)) (by omega) (by rw [num_mod]; rfl) t2 (by rw [← hT6]; rfl) (by rw [← hT6]; rfl)
  · exact rowLeast d6 rfl rfl

theorem mul_low (L T0 T1 T2 T3 : Nat) (hL : L = w0 T0 + w0 T1 * 18446744073709551616 + w0 T2 * 340282366920938463463374607431768211456 + w0 T3 * 6277101735386680763835789423207666416102355444464034512896) : n4 (w0 T0) (w0 T1) (w0 T2) (w0 T3) = num L ∧ L < B4 := by
  have l0 := (w_lt T0).1
  have l1 := (w_lt T1).1
  have l2 := (w_lt T2).1
  have l3 := (w_lt T3).1
  refine ⟨num_of (e := 0) l0 l1 l2 l3 (by rw [hL]; omega), ?_⟩
  rw [hL]
  unfold B4
  omega

theorem mul_lin (P0 P1 P2 P3 T0 T1 T2 T3 q0 q1 q2 q3 r0 r1 r2 r3 : Nat) (h0 : T0 = 0 + P0) (e0 : T0 = r0 + q0 * 18446744073709551616) (h1 : T1 = q0 + P1) (e1 : T1 = r1 + q1 * 18446744073709551616) (h2 : T2 = q1 + P2) (e2 : T2 = r2 + q2 * 18446744073709551616) (h3 : T3 = q2 + P3) (e3 : T3 = r3 + q3 * 18446744073709551616) :
    P0 + P1 * 18446744073709551616 + P2 * 340282366920938463463374607431768211456 + P3 * 6277101735386680763835789423207666416102355444464034512896 = (r0 + r1 * 18446744073709551616 + r2 * 340282366920938463463374607431768211456 + r3 * 6277101735386680763835789423207666416102355444464034512896) + q3 * 115792089237316195423570985008687907853269984665640564039457584007913129639936 := by
  omega

theorem quot_lt (q P T : Nat) (hq : q < B4) (hP : P ≤ (B4 - 1) * 18446744073709551615) (hT : T = q + P) : T / 18446744073709551616 < B4 ∧ T / B4 < 18446744073709551616 := by
  unfold B4 at *
  omega

theorem fold_p (L H T4 T5 T6 : Nat) (hL : L < B4) (hH : H < B4) (h4 : T4 = L + H * 38) (h5 : T5 = T4 % B4 + 38 * (T4 / B4)) (h6 : T6 = T5 % B4 + 38 * (T5 / B4)) : T4 / B4 < 1000 ∧ T5 / B4 < 1000 ∧ T6 < B4 ∧ T6 % prime = (L + H * B4) % prime := by
  have a4 : T4 / B4 < 1000 := by unfold B4 at *; omega
  have a5 : T5 / B4 ≤ 1 := by unfold B4 at *; omega
  have a6 : T6 < B4 := by
    rcases Nat.lt_or_ge T5 B4 with h | h
    · rw [h6, Nat.div_eq_of_lt h, Nat.mod_eq_of_lt h]; exact h
    · unfold B4 at *; omega
  refine ⟨a4, by omega, a6, ?_⟩
  have g1 : T4 = T4 % B4 + T4 / B4 * B4 := (Nat.mod_add_div' T4 B4).symm
  have g2 : T5 = T5 % B4 + T5 / B4 * B4 := (Nat.mod_add_div' T5 B4).symm
  generalize T4 / B4 = x at *
  generalize T4 % B4 = y at *
  generalize T5 / B4 = u at *
  generalize T5 % B4 = v at *
  unfold B4 prime at *
  omega

theorem mul_ok (a b : Nat) (ha : a < B4) (hb : b < B4) : Pure Try.prog 36 [num a, num b] (num (a * b % prime)) := by
  obtain ⟨l0, l1, l2, l3⟩ := w_lt b
  have hab := split_mul4 b a hb
  rw [Nat.mul_comm b a, Nat.mul_comm (w0 b), Nat.mul_comm (w1 b), Nat.mul_comm (w2 b), Nat.mul_comm (w3 b)] at hab
  have bd : ∀ w, w < 18446744073709551616 → a * w ≤ (B4 - 1) * 18446744073709551615 := fun w hw => Nat.mul_le_mul (Nat.le_pred_of_lt ha) (Nat.le_of_lt_succ hw)
  obtain ⟨T0, hT0⟩ : ∃ T, T = 0 + a * w0 b := ⟨_, rfl⟩
  obtain ⟨c0', d0⟩ := quot_lt 0 _ _ (by decide) (bd _ l0) hT0
  obtain ⟨T1, hT1⟩ : ∃ T, T = T0 / 18446744073709551616 + a * w1 b := ⟨_, rfl⟩
  obtain ⟨c1', d1⟩ := quot_lt _ _ _ c0' (bd _ l1) hT1
  obtain ⟨T2, hT2⟩ : ∃ T, T = T1 / 18446744073709551616 + a * w2 b := ⟨_, rfl⟩
  obtain ⟨c2', d2⟩ := quot_lt _ _ _ c1' (bd _ l2) hT2
  obtain ⟨T3, hT3⟩ : ∃ T, T = T2 / 18446744073709551616 + a * w3 b := ⟨_, rfl⟩
  obtain ⟨c3', d3⟩ := quot_lt _ _ _ c2' (bd _ l3) hT3
  obtain ⟨L, hL⟩ : ∃ L, L = w0 T0 + w0 T1 * 18446744073709551616 + w0 T2 * 340282366920938463463374607431768211456 + w0 T3 * 6277101735386680763835789423207666416102355444464034512896 := ⟨_, rfl⟩
  obtain ⟨nL, bL⟩ := mul_low L T0 T1 T2 T3 hL
  obtain ⟨T4, hT4⟩ : ∃ T, T = L + T3 / 18446744073709551616 * 38 := ⟨_, rfl⟩
  obtain ⟨T5, hT5⟩ : ∃ T, T = T4 % B4 + 38 * (T4 / B4) := ⟨_, rfl⟩
  obtain ⟨T6, hT6⟩ : ∃ T, T = T5 % B4 + 38 * (T5 / B4) := ⟨_, rfl⟩
  obtain ⟨d4, d5, d6, hm⟩ := fold_p L _ T4 T5 T6 bL c3' hT4 hT5 hT6
  have e : ∀ T, T = w0 T + T / 18446744073709551616 * 18446744073709551616 := fun T => (Nat.mod_add_div' T _).symm
  have key : a * b = L + T3 / 18446744073709551616 * B4 := by
    rw [hab, hL]
    exact mul_lin _ _ _ _ T0 T1 T2 T3 _ _ _ _ _ _ _ _ hT0 (e T0) hT1 (e T1) hT2 (e T2) hT3 (e T3)
  rw [key, ← hm]
  exact mul_core a b T0 T1 T2 T3 L _ T4 T5 T6 ha hT0 hT1 hT2 hT3 nL bL rfl hT4 hT5 hT6 d0 d1 d2 d3 d4 d5 d6 c0' c1' c2' c3'

/-! read and lay -/

theorem read_says : says noFacts tree [] 100 3 37 [bs 0] (heap0 [] gmax) (.ag [.i .u64 (rdE 0), .i .u64 (rdE 8), .i .u64 (rdE 16), .i .u64 (rdE 24)]) = true := by kernel_rfl

theorem read_ok (x : Nat) : Pure Try.prog 37 [byt x] (num x) := by
  obtain ⟨l0, l1, l2, l3⟩ := w_lt x
  refine pure_of (ν := nu (byL x)) (noFacts_hold _) mixed tab_ok (fun r hr => by cases hr) read_says rfl ?_
  have e0 : (rdE 0).val (nu (byL x)) = ((w0 x : Nat) : Int) := rdE_word l0 rfl rfl rfl rfl rfl rfl rfl rfl
  have e1 : (rdE 8).val (nu (byL x)) = ((w1 x : Nat) : Int) := rdE_word l1 rfl rfl rfl rfl rfl rfl rfl rfl
  have e2 : (rdE 16).val (nu (byL x)) = ((w2 x : Nat) : Int) := rdE_word l2 rfl rfl rfl rfl rfl rfl rfl rfl
  have e3 : (rdE 24).val (nu (byL x)) = ((w3 x : Nat) : Int) := rdE_word l3 rfl rfl rfl rfl rfl rfl rfl rfl
  show (concL _ [.i .u64 (rdE 0), .i .u64 (rdE 8), .i .u64 (rdE 16), .i .u64 (rdE 24)]).map (fun vs => Value.agg vs.toArray) = _
  simp only [concL, conc1, e0, e1, e2, e3, Option.map_some]
  rfl

def lb (k n : Nat) : AV := .i .u8 (.w .u8 (.e .shr .u64 (.s k) (.c (.ofNat n))))
def lb0 (k : Nat) : AV := .i .u8 (.w .u8 (.s k))
def layR : List AV := [lb0 0, lb 0 8, lb 0 16, lb 0 24, lb 0 32, lb 0 40, lb 0 48, lb 0 56, lb0 1, lb 1 8, lb 1 16, lb 1 24, lb 1 32, lb 1 40, lb 1 48, lb 1 56, lb0 2, lb 2 8, lb 2 16, lb 2 24, lb 2 32, lb 2 40, lb 2 48, lb 2 56, lb0 3, lb 3 8, lb 3 16, lb 3 24, lb 3 32, lb 3 40, lb 3 48, lb 3 56]
theorem lay_says : says noFacts tree [] 100 3 35 [ns 0] (heap0 [] gmax) (.ag layR) = true := by kernel_rfl

theorem lb_val {ν : Nat → Int} {k y : Nat} (h : ν k = (y : Int)) (n : Nat) (hn : n ≤ 64) : conc1 ν (lb k n) = some (u8 (y / 2 ^ n % 256)) := congrArg (fun z => some (Value.int .u8 z)) (layE_val h n hn)
theorem lb0_val {ν : Nat → Int} {k y : Nat} (h : ν k = (y : Int)) : conc1 ν (lb0 k) = some (u8 (y % 256)) := by
  show some (Value.int .u8 (IntKind.u8.wrap (ν k))) = _
  rw [h, a_w8]
  rfl

theorem lay_ok (x : Nat) : Pure Try.prog 35 [num x] (byt x) := by
  refine pure_of (ν := nu (numL x)) (noFacts_hold _) mixed tab_ok (fun r hr => by cases hr) lay_says rfl ?_
  have f0 : nu (numL x) 0 = ((w0 x : Nat) : Int) := rfl
  have f1 : nu (numL x) 1 = ((w1 x : Nat) : Int) := rfl
  have f2 : nu (numL x) 2 = ((w2 x : Nat) : Int) := rfl
  have f3 : nu (numL x) 3 = ((w3 x : Nat) : Int) := rfl
  show (concL _ layR).map (fun vs => Value.agg vs.toArray) = _
  simp only [layR, concL, lb0_val f0, lb0_val f1, lb0_val f2, lb0_val f3, lb_val f0 8 (by decide), lb_val f0 16 (by decide), lb_val f0 24 (by decide), lb_val f0 32 (by decide), lb_val f0 40 (by decide), lb_val f0 48 (by decide), lb_val f0 56 (by decide),
    lb_val f1 8 (by decide), lb_val f1 16 (by decide), lb_val f1 24 (by decide), lb_val f1 32 (by decide), lb_val f1 40 (by decide), lb_val f1 48 (by decide), lb_val f1 56 (by decide),
    lb_val f2 8 (by decide), lb_val f2 16 (by decide), lb_val f2 24 (by decide), lb_val f2 32 (by decide), lb_val f2 40 (by decide), lb_val f2 48 (by decide), lb_val f2 56 (by decide),
    lb_val f3 8 (by decide), lb_val f3 16 (by decide), lb_val f3 24 (by decide), lb_val f3 32 (by decide), lb_val f3 40 (by decide), lb_val f3 48 (by decide), lb_val f3 56 (by decide), Option.map_some]
  rfl

end Go.Proofs.Ytlalonomdblhdaa
