/-
  NUMBERS MODULO L: what the page's MulAdd answers; bytes of a slice as words. Own work.
-/
import Derived.Test.YtnlhpiieihnbiaaDoorNt
import Derived.Test.YtnlhpiieihnbiaaDoorShG3
namespace Go.Proofs.YtnlhpiieihnbiaaDoor
open Go.Sh
open Go.ChangeShapes Go.WideShapes Go.ChangeAt Go.RowKit
set_option maxRecDepth 100000

theorem lin4 (a0 a1 a2 a3 b0 b1 b2 b3 s0 s1 s2 s3 k0 k1 k2 k3 c : Nat) (h0 : s0 + 18446744073709551616 * k0 = a0 + b0 + c) (h1 : s1 + 18446744073709551616 * k1 = a1 + b1 + k0) (h2 : s2 + 18446744073709551616 * k2 = a2 + b2 + k1) (h3 : s3 + 18446744073709551616 * k3 = a3 + b3 + k2) :
    (a0 + a1 * 18446744073709551616 + a2 * 340282366920938463463374607431768211456 + a3 * 6277101735386680763835789423207666416102355444464034512896) + (b0 + b1 * 18446744073709551616 + b2 * 340282366920938463463374607431768211456 + b3 * 6277101735386680763835789423207666416102355444464034512896) + c =
    s0 + s1 * 18446744073709551616 + s2 * 340282366920938463463374607431768211456 + s3 * 6277101735386680763835789423207666416102355444464034512896 + k3 * B4 := by
  unfold B4
  omega

def nuZ (L ws : List Nat) : Nat → Int := fun k => if k < 128 then nub L k else ((ws.getD (k - 128) 0 : Nat) : Int)
def pmB (k : Nat) : AV := .ag [wd k, wd (k + 1), wd (k + 2), wd (k + 3)]
def pmW (k : Nat) : AV := .ag [wd k, wd (k + 1), wd (k + 2), wd (k + 3), wd (k + 4), wd (k + 5), wd (k + 6), wd (k + 7)]
def pmS : AV := .ag [wd 148, wd 150, wd 152, wd 154, wd 156, wd 158, wd 160, wd 162]
def pmT : List Row := [⟨29, [rw8 0], pmB 128⟩, ⟨29, [rw8 1], pmB 132⟩, ⟨29, [rw8 2], pmB 136⟩, ⟨28, [pmB 128, pmB 132], pmW 140⟩,
  ⟨30, [wd 140, wd 136, c0], .tp [wd 148, wd 149]⟩, ⟨30, [wd 141, wd 137, wd 149], .tp [wd 150, wd 151]⟩, ⟨30, [wd 142, wd 138, wd 151], .tp [wd 152, wd 153]⟩, ⟨30, [wd 143, wd 139, wd 153], .tp [wd 154, wd 155]⟩,
  ⟨30, [wd 144, c0, wd 155], .tp [wd 156, wd 157]⟩, ⟨30, [wd 145, c0, wd 157], .tp [wd 158, wd 159]⟩, ⟨30, [wd 146, c0, wd 159], .tp [wd 160, wd 161]⟩, ⟨30, [wd 147, c0, wd 161], .tp [wd 162, wd 163]⟩,
  ⟨24, [pmS], pmB 164⟩, ⟨21, [pmB 164], rw8 3⟩]
theorem pm_says : says noFacts tree pmT 400 3 12 [rw8 0, rw8 1, rw8 2] (heap0 [] gmax) (rw8 3) = true := by kernel_rfl
def add8 (a b c s k : Nat) : Prop := s = (a + b + c) % 18446744073709551616 ∧ k = (a + b + c) / 18446744073709551616
theorem add8_all {a b c s k : Nat} (h : add8 a b c s k) : s + 18446744073709551616 * k = a + b + c := by rw [h.1, h.2]; omega
theorem add8_k {a b c s k : Nat} (h : add8 a b c s k) (ha : a < 18446744073709551616) (hb : b < 18446744073709551616) (hc : c ≤ 1) : k ≤ 1 := by rw [h.2]; omega
theorem add8_s {a b c s k : Nat} (h : add8 a b c s k) : s < 18446744073709551616 := by rw [h.1]; omega
theorem rowOfB {ν : Nat → Int} {p r : AV} {x : Nat} (h1 : conc2 ν p = some (byt x)) (h2 : conc ν r = some (num x)) : Row.Ok ν Tryd.prog ⟨29, [p], r⟩ := ⟨[byt x], num x, by simp [concT, h1], h2, Of_ok x⟩
theorem rowBytesP {ν : Nat → Int} {p r : AV} {x : Nat} (h1 : conc2 ν p = some (num x)) (h2 : conc ν r = some (byt x)) : Row.Ok ν Tryd.prog ⟨21, [p], r⟩ := ⟨[num x], byt x, by simp [concT, h1], h2, Bytes_ok x⟩
theorem rowModL {ν : Nat → Int} {p r : AV} {T n : Nat} (hT : T < B4 * B4) (hn : T % ordL = n) (h1 : conc2 ν p = some (num8 T)) (h2 : conc ν r = some (num n)) : Row.Ok ν Tryd.prog ⟨24, [p], r⟩ :=
  ⟨[num8 T], num n, by simp [concT, h1], h2, by rw [← hn]; exact modL_ok T hT⟩
theorem pm_core (x y z T T' S S' n t0 t1 t2 t3 t4 t5 t6 t7 s0 s1 s2 s3 s4 s5 s6 s7 k0 k1 k2 k3 k4 k5 k6 k7 : Nat) (hx : x < B4) (hy : y < B4) (hT : x * y = T) (hT' : T / B4 = T') (e0 : Sh.w0 T = t0) (e1 : w1 T = t1) (e2 : w2 T = t2) (e3 : w3 T = t3) (e4 : Sh.w0 T' = t4) (e5 : w1 T' = t5) (e6 : w2 T' = t6) (e7 : w3 T' = t7)
    (a0 : add8 t0 (Sh.w0 z) 0 s0 k0) (a1 : add8 t1 (w1 z) k0 s1 k1) (a2 : add8 t2 (w2 z) k1 s2 k2) (a3 : add8 t3 (w3 z) k2 s3 k3) (a4 : add8 t4 0 k3 s4 k4) (a5 : add8 t5 0 k4 s5 k5) (a6 : add8 t6 0 k5 s6 k6) (a7 : add8 t7 0 k6 s7 k7)
    (q0 : k0 ≤ 1) (q1 : k1 ≤ 1) (q2 : k2 ≤ 1) (q3 : k3 ≤ 1) (q4 : k4 ≤ 1) (q5 : k5 ≤ 1) (q6 : k6 ≤ 1) (hS : S < B4 * B4) (hS' : S / B4 = S') (f0 : Sh.w0 S = s0) (f1 : w1 S = s1) (f2 : w2 S = s2) (f3 : w3 S = s3) (f4 : Sh.w0 S' = s4) (f5 : w1 S' = s5) (f6 : w2 S' = s6) (f7 : w3 S' = s7) (hn : S % ordL = n) :
    Pure Tryd.prog 12 [byt x, byt y, byt z] (byt n) := by
  have eT : num8 T = .agg #[u64 t0, u64 t1, u64 t2, u64 t3, u64 t4, u64 t5, u64 t6, u64 t7] := by unfold num8; rw [hT', e0, e1, e2, e3, e4, e5, e6, e7]
  have eS : num8 S = .agg #[u64 s0, u64 s1, u64 s2, u64 s3, u64 s4, u64 s5, u64 s6, u64 s7] := by unfold num8; rw [hS', f0, f1, f2, f3, f4, f5, f6, f7]
  refine pure_of (ν := nuZ [x, y, z, n] [Sh.w0 x, w1 x, w2 x, w3 x, Sh.w0 y, w1 y, w2 y, w3 y, Sh.w0 z, w1 z, w2 z, w3 z, t0, t1, t2, t3, t4, t5, t6, t7, s0, k0, s1, k1, s2, k2, s3, k3, s4, k4, s5, k5, s6, k6, s7, k7, Sh.w0 n, w1 n, w2 n, w3 n]) (args := [rw8 0, rw8 1, rw8 2]) (noFacts_hold _) mixed tab_ok (fun r hr => ?_) pm_says (by kernel_rfl) (by kernel_rfl)
  simp only [pmT, List.mem_cons, List.not_mem_nil, or_false] at hr
  rcases hr with rfl | rfl | rfl | rfl | rfl | rfl | rfl | rfl | rfl | rfl | rfl | rfl | rfl | rfl
  · exact rowOfB (x := x) (by kernel_rfl) (by kernel_rfl)
  · exact rowOfB (x := y) (by kernel_rfl) (by kernel_rfl)
  · exact rowOfB (x := z) (by kernel_rfl) (by kernel_rfl)
  · exact ⟨[num x, num y], num8 T, by kernel_rfl, by rw [eT]; kernel_rfl, by rw [← hT]; exact times_ok x y hx hy⟩
  · exact rowA (x := t0) (y := Sh.w0 z) (c := 0) (z := s0) (k := k0) (by kernel_rfl) (by kernel_rfl) (by kernel_rfl) (by kernel_rfl) (by kernel_rfl) (by decide) a0.1 a0.2
  · exact rowA (x := t1) (y := w1 z) (c := k0) (z := s1) (k := k1) (by kernel_rfl) (by kernel_rfl) (by kernel_rfl) (by kernel_rfl) (by kernel_rfl) q0 a1.1 a1.2
  · exact rowA (x := t2) (y := w2 z) (c := k1) (z := s2) (k := k2) (by kernel_rfl) (by kernel_rfl) (by kernel_rfl) (by kernel_rfl) (by kernel_rfl) q1 a2.1 a2.2
  · exact rowA (x := t3) (y := w3 z) (c := k2) (z := s3) (k := k3) (by kernel_rfl) (by kernel_rfl) (by kernel_rfl) (by kernel_rfl) (by kernel_rfl) q2 a3.1 a3.2
  · exact rowA (x := t4) (y := 0) (c := k3) (z := s4) (k := k4) (by kernel_rfl) (by kernel_rfl) (by kernel_rfl) (by kernel_rfl) (by kernel_rfl) q3 a4.1 a4.2
  · exact rowA (x := t5) (y := 0) (c := k4) (z := s5) (k := k5) (by kernel_rfl) (by kernel_rfl) (by kernel_rfl) (by kernel_rfl) (by kernel_rfl) q4 a5.1 a5.2
  · exact rowA (x := t6) (y := 0) (c := k5) (z := s6) (k := k6) (by kernel_rfl) (by kernel_rfl) (by kernel_rfl) (by kernel_rfl) (by kernel_rfl) q5 a6.1 a6.2
  · exact rowA (x := t7) (y := 0) (c := k6) (z := s7) (k := k7) (by kernel_rfl) (by kernel_rfl) (by kernel_rfl) (by kernel_rfl) (by kernel_rfl) q6 a7.1 a7.2
  · exact rowModL (T := S) hS hn (by rw [eS]; kernel_rfl) (by kernel_rfl)
  · exact rowBytesP (x := n) (by kernel_rfl) (by kernel_rfl)
theorem PMulAdd_ok {x y z n : Nat} (hx : x < B4) (hy : y < B4) (hz : z < B4) (hn : (x * y + z) % ordL = n) : Pure Tryd.prog 12 [byt x, byt y, byt z] (byt n) := by
  obtain ⟨T, hT⟩ : ∃ T, x * y = T := ⟨_, rfl⟩
  obtain ⟨T', hT'⟩ : ∃ T', T / B4 = T' := ⟨_, rfl⟩
  obtain ⟨S, hS⟩ : ∃ S, T + z = S := ⟨_, rfl⟩
  have hb : S < B4 * B4 := by rw [← hS, ← hT]; exact mu_bound hx hy hz
  have hTb : T' < B4 := by rw [← hT']; exact Nat.div_lt_of_lt_mul (by omega)
  obtain ⟨l0, l1, l2, l3⟩ := w_lt T
  obtain ⟨l4, l5, l6, l7⟩ := w_lt T'
  obtain ⟨m0, m1, m2, m3⟩ := w_lt z
  have sT := split4 T
  have sT' := split4 T'
  have sz := split4 z
  rw [hT'] at sT
  rw [Nat.div_eq_of_lt hTb, Nat.zero_mul, Nat.add_zero] at sT'
  rw [Nat.div_eq_of_lt hz, Nat.zero_mul, Nat.add_zero] at sz
  have z0 : (0 : Nat) < 18446744073709551616 := by decide
  obtain ⟨s0, k0, a0⟩ : ∃ s k, add8 (Sh.w0 T) (Sh.w0 z) 0 s k := ⟨_, _, rfl, rfl⟩
  have q0 := add8_k a0 l0 m0 (by decide)
  obtain ⟨s1, k1, a1⟩ : ∃ s k, add8 (w1 T) (w1 z) k0 s k := ⟨_, _, rfl, rfl⟩
  have q1 := add8_k a1 l1 m1 q0
  obtain ⟨s2, k2, a2⟩ : ∃ s k, add8 (w2 T) (w2 z) k1 s k := ⟨_, _, rfl, rfl⟩
  have q2 := add8_k a2 l2 m2 q1
  obtain ⟨s3, k3, a3⟩ : ∃ s k, add8 (w3 T) (w3 z) k2 s k := ⟨_, _, rfl, rfl⟩
  have q3 := add8_k a3 l3 m3 q2
  obtain ⟨s4, k4, a4⟩ : ∃ s k, add8 (Sh.w0 T') 0 k3 s k := ⟨_, _, rfl, rfl⟩
  have q4 := add8_k a4 l4 z0 q3
  obtain ⟨s5, k5, a5⟩ : ∃ s k, add8 (w1 T') 0 k4 s k := ⟨_, _, rfl, rfl⟩
  have q5 := add8_k a5 l5 z0 q4
  obtain ⟨s6, k6, a6⟩ : ∃ s k, add8 (w2 T') 0 k5 s k := ⟨_, _, rfl, rfl⟩
  have q6 := add8_k a6 l6 z0 q5
  obtain ⟨s7, k7, a7⟩ : ∃ s k, add8 (w3 T') 0 k6 s k := ⟨_, _, rfl, rfl⟩
  have lo := lin4 _ _ _ _ _ _ _ _ _ _ _ _ _ _ _ _ _ (add8_all a0) (add8_all a1) (add8_all a2) (add8_all a3)
  have hi := lin4 _ _ _ _ _ _ _ _ _ _ _ _ _ _ _ _ _ (add8_all a4) (add8_all a5) (add8_all a6) (add8_all a7)
  rw [← sz] at lo
  rw [← sT'] at hi
  have key : S = s0 + s1 * 18446744073709551616 + s2 * 340282366920938463463374607431768211456 + s3 * 6277101735386680763835789423207666416102355444464034512896 + (T' + k3) * B4 := by
    rw [← hS, sT, Nat.add_mul]
    omega
  obtain ⟨f0, f1, f2, f3, fe⟩ := dig4 (add8_s a0) (add8_s a1) (add8_s a2) (add8_s a3) key
  have key2 : T' + k3 = s4 + s5 * 18446744073709551616 + s6 * 340282366920938463463374607431768211456 + s7 * 6277101735386680763835789423207666416102355444464034512896 + k7 * B4 := by
    rw [← hi]
    simp
  obtain ⟨f4, f5, f6, f7, _⟩ := dig4 (add8_s a4) (add8_s a5) (add8_s a6) (add8_s a7) key2
  exact pm_core x y z T T' S (T' + k3) n _ _ _ _ _ _ _ _ _ _ _ _ _ _ _ _ _ _ _ _ _ _ _ k7 hx hy hT hT' rfl rfl rfl rfl rfl rfl rfl rfl a0 a1 a2 a3 a4 a5 a6 a7 q0 q1 q2 q3 q4 q5 q6 hb fe f0 f1 f2 f3 f4 f5 f6 f7 (by rw [← hS, ← hT]; exact hn)
theorem rowPMu {ν : Nat → Int} {p q r s : AV} {x y z n : Nat} (hx : x < B4) (hy : y < B4) (hz : z < B4) (hn : (x * y + z) % ordL = n) (h1 : conc2 ν p = some (byt x)) (h2 : conc2 ν q = some (byt y)) (h3 : conc2 ν r = some (byt z)) (h4 : conc ν s = some (byt n)) : Row.Ok ν Tryd.prog ⟨12, [p, q, r], s⟩ :=
  ⟨[byt x, byt y, byt z], byt n, by simp [concT, h1, h2, h3], h4, PMulAdd_ok hx hy hz hn⟩
theorem rowPBelow {ν : Nat → Int} {p : AV} {x : Nat} (b : Bool) (hx : x < B4) (hb : decide (x < ordL) = b) (h1 : conc2 ν p = some (byt x)) : Row.Ok ν Tryd.prog ⟨13, [p], .b b⟩ :=
  ⟨[byt x], .bool b, by simp [concT, h1], rfl, by rw [← hb]; exact PBelow_ok x hx⟩

/-! Bytes as a number: the lowest first. -/

def wS (f : Nat → Nat) : Nat → Nat
  | 0 => 0
  | m + 1 => wS f m + 2 ^ (8 * m) * f m
theorem wS_lt {f : Nat → Nat} (hf : ∀ i, f i < 256) : ∀ m, wS f m < 2 ^ (8 * m)
  | 0 => Nat.one_pos
  | m + 1 => by
    have h1 := wS_lt hf m
    have h2 := hf m
    have e : 2 ^ (8 * (m + 1)) = 2 ^ (8 * m) * 256 := by rw [Nat.mul_add, Nat.pow_add]
    show wS f m + 2 ^ (8 * m) * f m < _
    rw [e]
    have h3 : 2 ^ (8 * m) * f m ≤ 2 ^ (8 * m) * 255 := Nat.mul_le_mul_left _ (by omega)
    omega
theorem wS_split (f : Nat → Nat) (a : Nat) : ∀ b, wS f (a + b) = wS f a + 2 ^ (8 * a) * wS (fun i => f (a + i)) b
  | 0 => by simp [wS]
  | b + 1 => by
    show wS f (a + b) + 2 ^ (8 * (a + b)) * f (a + b) = wS f a + 2 ^ (8 * a) * (wS (fun i => f (a + i)) b + 2 ^ (8 * b) * f (a + b))
    rw [wS_split f a b, Nat.mul_add (2 ^ (8 * a)), ← Nat.mul_assoc, ← Nat.pow_add, ← Nat.mul_add, Nat.add_assoc]
theorem wS_word {f : Nat → Nat} (hf : ∀ i, f i < 256) (n j : Nat) : wS f n / 2 ^ (64 * j) % 2 ^ 64 = wS (fun i => f (8 * j + i)) (min 8 (n - 8 * j)) := by
  have e64 : 64 * j = 8 * (8 * j) := by omega
  by_cases h : n ≤ 8 * j
  · rw [show n - 8 * j = 0 by omega, Nat.div_eq_of_lt (Nat.lt_of_lt_of_le (wS_lt hf n) (by rw [e64]; exact Nat.pow_le_pow_right (by decide) (by omega)))]
    rfl
  · obtain ⟨b, rfl⟩ : ∃ b, n = 8 * j + b := ⟨n - 8 * j, by omega⟩
    rw [wS_split f (8 * j) b, e64, Nat.add_mul_div_left _ _ (Nat.pow_pos (by decide)), Nat.div_eq_of_lt (wS_lt hf _), Nat.zero_add, show 8 * j + b - 8 * j = b by omega]
    by_cases hb : b ≤ 8
    · rw [Nat.min_eq_right hb, Nat.mod_eq_of_lt]
      exact Nat.lt_of_lt_of_le (wS_lt (fun i => hf _) b) (Nat.pow_le_pow_right (by decide) (by omega))
    · obtain ⟨c, rfl⟩ : ∃ c, b = 8 + c := ⟨b - 8, by omega⟩
      rw [wS_split, Nat.min_eq_left (by omega), Nat.add_mul_mod_self_left, Nat.mod_eq_of_lt (wS_lt (fun i => hf _) 8)]
/-- How the machine reads so many bytes. -/
def wE (k : Nat) : Nat → AI
  | 0 => .c (.ofNat 0)
  | m + 1 => .e .or .u64 (wE k m) (.e .shl .u64 (.w .u64 (.s (k + m))) (.c (.ofNat (8 * m))))
theorem wE_val {ν : Nat → Int} {k : Nat} {f : Nat → Nat} (hf : ∀ i, f i < 256) : ∀ m, m ≤ 8 → (∀ i, i < m → ν (k + i) = ((f i : Nat) : Int)) → (wE k m).val ν = ((wS f m : Nat) : Int)
  | 0, _, _ => rfl
  | m + 1, hm, h => by
    have ih := wE_val hf m (by omega) fun i hi => h i (by omega)
    show arith .or .u64 ((wE k m).val ν) (arith .shl .u64 (IntKind.u64.wrap (ν (k + m))) ((8 * m : Nat) : Int)) = _
    rw [ih, h m (by omega)]
    exact a_orS (wS f m) (f m) (8 * m) (by omega) (wS_lt hf m) (hf m)
def wAG (k n : Nat) : AV := .ag ((List.range 8).map fun j => .i .u64 (wE (k + 8 * j) (min 8 (n - 8 * j))))
theorem wAG_val {ν : Nat → Int} {k n : Nat} {f : Nat → Nat} (hf : ∀ i, f i < 256) (h : ∀ i, i < n → ν (k + i) = ((f i : Nat) : Int)) : conc2 ν (wAG k n) = some (num8 (wS f n)) := by
  have e : ∀ j, (wE (k + 8 * j) (min 8 (n - 8 * j))).val ν = ((wS f n / 2 ^ (64 * j) % 2 ^ 64 : Nat) : Int) := by
    intro j
    rw [wS_word hf n j]
    refine wE_val (fun i => hf _) _ (Nat.min_le_left _ _) fun i hi => ?_
    rw [Nat.add_assoc]
    exact h _ (by omega)
  have b4 : B4 = 2 ^ 256 := by decide
  show (concL ν [.i .u64 (wE (k + 8 * 0) (min 8 (n - 8 * 0))), .i .u64 (wE (k + 8 * 1) (min 8 (n - 8 * 1))), .i .u64 (wE (k + 8 * 2) (min 8 (n - 8 * 2))), .i .u64 (wE (k + 8 * 3) (min 8 (n - 8 * 3))), .i .u64 (wE (k + 8 * 4) (min 8 (n - 8 * 4))), .i .u64 (wE (k + 8 * 5) (min 8 (n - 8 * 5))), .i .u64 (wE (k + 8 * 6) (min 8 (n - 8 * 6))), .i .u64 (wE (k + 8 * 7) (min 8 (n - 8 * 7)))]).map (fun vs => Value.agg vs.toArray) = _
  simp only [concL, conc1, e, Option.map_some]
  generalize wS f n = x
  obtain ⟨M, hM⟩ : ∃ M, M = 2 ^ 64 := ⟨_, rfl⟩
  have p1 : ∀ j, 2 ^ (64 * j) = M ^ j := fun j => by rw [hM, ← Nat.pow_mul]
  have h4 : B4 = M ^ 4 := by rw [b4, hM, ← Nat.pow_mul]
  have h1 : (18446744073709551616 : Nat) = M := by rw [hM]
  have h2 : (340282366920938463463374607431768211456 : Nat) = M ^ 2 := by rw [hM, ← Nat.pow_mul]
  have h3 : (6277101735386680763835789423207666416102355444464034512896 : Nat) = M ^ 3 := by rw [hM, ← Nat.pow_mul]
  have d : ∀ a b, x / M ^ a / M ^ b = x / M ^ (a + b) := fun a b => by rw [Nat.div_div_eq_div_mul, ← Nat.pow_add]
  unfold num8 Sh.w0 w1 w2 w3
  rw [h2, h3, h1, h4, d 4 2, d 4 3]
  have d1 : x / M ^ 4 / M = x / M ^ 5 := by have := d 4 1; rwa [Nat.pow_one] at this
  rw [d1]
  simp only [p1, ← hM, Nat.pow_zero, Nat.div_one, Nat.pow_one]
  rfl

end Go.Proofs.YtnlhpiieihnbiaaDoor
