/-
  THE PAGE's PRODUCT modulo the prime: what trystref06's Mul answers. Own work.
-/
import Derived.Test.YtdillfhieilgnaaFk
namespace Go.Proofs.Ytdillfhieilgnaa
open Go.Sh
set_option maxRecDepth 100000

def n8 (L H : Nat) : Value := .agg #[u64 (Sh.w0 L), u64 (w1 L), u64 (w2 L), u64 (w3 L), u64 (Sh.w0 H), u64 (w1 H), u64 (w2 H), u64 (w3 H)]
def es (k : Nat) : AV := .ag [wd k, wd (k + 1), wd (k + 2), wd (k + 3), wd (k + 4), wd (k + 5), wd (k + 6), wd (k + 7)]
def c38 : AV := .ag [cK 38, c0, c0, c0]
def sumE (i j : Nat) : AI := .e .add .u64 (.s i) (.s j)
def sumV (i j : Nat) : AV := .ag [.i .u64 (sumE i j), c0, c0, c0]

theorem rowTimes {ν : Nat → Int} {p q r : AV} {x y T H : Nat} (hx : x < B4) (hy : y < B4) (hT : T = x * y) (hH : H = T / B4) (h1 : conc2 ν p = some (num x)) (h2 : conc2 ν q = some (num y)) (h3 : conc ν r = some (n8 T H)) : Row.Ok ν Try.prog ⟨40, [p, q], r⟩ := by
  refine ⟨[num x, num y], n8 T H, by simp [concT, h1, h2], h3, ?_⟩
  rw [hH, hT]
  exact times_ok x y hx hy
theorem rowAddC {ν : Nat → Int} {p q r s : AV} {x y V c : Nat} (hx : x < B4) (hy : y < B4) (hV : V = x + y) (hc : c = V / B4) (h1 : conc2 ν p = some (num x)) (h2 : conc2 ν q = some (num y)) (h3 : conc2 ν r = some (num V)) (h4 : conc2 ν s = some (u64 c)) : Row.Ok ν Try.prog ⟨37, [p, q], .tp [r, s]⟩ := by
  refine ⟨[num x, num y], .tuple #[num V, u64 c], by simp [concT, h1, h2], by simp [conc, concT, h3, h4], ?_⟩
  rw [hc, hV]
  exact radd_ok x y hx hy

theorem sum_val {ν : Nat → Int} {i j a b C : Nat} (h1 : ν i = ((Sh.w0 a : Nat) : Int)) (h2 : ν j = (b : Int)) (ha : a < 1000) (hC : C = a + b) (hl : C < 1000) : (sumE i j).val ν = (C : Int) := by
  show arith .add .u64 (ν i) (ν j) = _
  have : Sh.w0 a = a := Nat.mod_eq_of_lt (by omega)
  rw [h1, h2, this, a_add, hC, Nat.mod_eq_of_lt (by omega)]
theorem small_num (C : Nat) (hl : C < 1000) : num C = n4 C 0 0 0 := by
  have g0 : Sh.w0 C = C := Nat.mod_eq_of_lt (by omega)
  have g1 : w1 C = 0 := by unfold w1; omega
  have g2 : w2 C = 0 := by unfold w2; omega
  have g3 : w3 C = 0 := by unfold w3; omega
  unfold num
  rw [g0, g1, g2, g3]
theorem sumV_conc {ν : Nat → Int} {i j C : Nat} (h : (sumE i j).val ν = (C : Int)) (hl : C < 1000) : conc2 ν (sumV i j) = some (num C) := by
  rw [small_num C hl]
  show (concL ν [.i .u64 (sumE i j), c0, c0, c0]).map (fun vs => Value.agg vs.toArray) = _
  simp only [concL, conc1, h, c0, Option.map_some]
  rfl
theorem c38_conc (ν : Nat → Int) : conc2 ν c38 = some (num 38) := by
  rw [small_num 38 (by decide)]
  rfl

def neS (i j : Nat) (b : Bool) : BinOp × AI × AI × Bool := (.neq, sumE i j, .c (.ofNat 0), b)
theorem neS_holds {ν : Nat → Int} {i j C : Nat} {b : Bool} (h : (sumE i j).val ν = (C : Int)) (hb : decide (C ≠ 0) = b) : compare (neS i j b).1 ((neS i j b).2.1.val ν) ((neS i j b).2.2.1.val ν) = (neS i j b).2.2.2 := by
  show ((sumE i j).val ν != ((0 : Nat) : Int)) = b
  rw [h, ← hb]
  by_cases hc : C = 0 <;> simp [hc]

def rmT0 : List Row := [⟨40, [ns 0, ns 4], es 8⟩, ⟨40, [ns 12, c38], es 16⟩, ⟨37, [ns 8, ns 16], .tp [ns 24, wd 28]⟩]
def rmT1 : List Row := rmT0 ++ [⟨15, [ns 24], ns 29⟩]
def rmT2' : List Row := rmT0 ++ [⟨40, [sumV 20 28, c38], es 29⟩, ⟨37, [ns 24, ns 29], .tp [ns 37, wd 41]⟩]
def rmT2 : List Row := rmT2' ++ [⟨15, [ns 37], ns 42⟩]
def rmT3 : List Row := rmT2' ++ [⟨40, [sumV 33 41, c38], es 42⟩, ⟨37, [ns 37, ns 42], .tp [ns 50, wd 54]⟩, ⟨15, [ns 50], ns 55⟩]
def rmF1 : Facts := ⟨[], [neS 20 28 false]⟩
def rmF2 : Facts := ⟨[], [neS 20 28 true, neS 33 41 false]⟩
def rmF3 : Facts := ⟨[], [neS 20 28 true, neS 33 41 true, neS 46 54 false]⟩
theorem rm_says1 : says rmF1 tree rmT1 600 5 21 [ns 0, ns 4] (heap0 [] gmax) (ns 29) = true := by kernel_rfl
theorem rm_says2 : says rmF2 tree rmT2 600 5 21 [ns 0, ns 4] (heap0 [] gmax) (ns 42) = true := by kernel_rfl
theorem rm_says3 : says rmF3 tree rmT3 600 5 21 [ns 0, ns 4] (heap0 [] gmax) (ns 55) = true := by kernel_rfl

theorem mB (x : Nat) : x % B4 < B4 := Nat.mod_lt _ (by decide)

theorem rm_core1 (x y T H0 X0 K0 V1 c1 H1 r : Nat) (hx : x < B4) (hy : y < B4) (hT : T = x * y) (hH0 : H0 = T / B4) (bH0 : H0 < B4) (hX0 : X0 = H0 * 38) (hK0 : K0 = X0 / B4) (hV1 : V1 = T % B4 + X0 % B4) (hc1 : c1 = V1 / B4) (hH1 : H1 = K0 + c1) (bK0 : K0 < 1000) (bH1 : H1 < 1000)
    (z1 : H1 = 0) (bV1 : V1 < B4) (hr : r = V1 % prime) : Pure Try.prog 21 [num x, num y] (num r) := by
  have v1 : (sumE 20 28).val (nu (numL x ++ (numL y ++ (numL T ++ (numL H0 ++ (numL X0 ++ (numL K0 ++ (numL V1 ++ ([c1] ++ numL r))))))))) = (H1 : Int) := sum_val (a := K0) (b := c1) (by kernel_rfl) (by kernel_rfl) bK0 hH1 bH1
  have hF : Facts.Hold rmF1 (nu (numL x ++ (numL y ++ (numL T ++ (numL H0 ++ (numL X0 ++ (numL K0 ++ (numL V1 ++ ([c1] ++ numL r))))))))) := by
    refine ⟨fun p hp => (by cases hp), fun p hp => ?_⟩
    simp only [rmF1, List.mem_cons, List.not_mem_nil, or_false] at hp
    subst hp
    exact neS_holds v1 (by rw [z1]; rfl)
  refine pure_of hF mixed tab_ok (fun q hq => ?_) rm_says1 (by kernel_rfl) (by kernel_rfl)
  simp only [rmT1, rmT0, List.cons_append, List.nil_append, List.mem_cons, List.not_mem_nil, or_false] at hq
  rcases hq with rfl | rfl | rfl | rfl
  · exact rowTimes hx hy hT hH0 (by kernel_rfl) (by kernel_rfl) (by kernel_rfl)
  · exact rowTimes (x := H0) (y := 38) bH0 (by decide) hX0 hK0 (by kernel_rfl) (c38_conc _) (by kernel_rfl)
  · exact rowAddC (x := T % B4) (y := X0 % B4) (mB _) (mB _) hV1 hc1 (by rw [num_mod]; kernel_rfl) (by rw [num_mod]; kernel_rfl) (by kernel_rfl) (by kernel_rfl)
  · exact rowModR (x := V1) bV1 (by kernel_rfl) (by rw [← hr]; kernel_rfl)

theorem rm_core2 (x y T H0 X0 K0 V1 c1 H1 X1 K1 V2 c2 H2 r : Nat) (hx : x < B4) (hy : y < B4) (hT : T = x * y) (hH0 : H0 = T / B4) (bH0 : H0 < B4) (hX0 : X0 = H0 * 38) (hK0 : K0 = X0 / B4) (hV1 : V1 = T % B4 + X0 % B4) (hc1 : c1 = V1 / B4) (hH1 : H1 = K0 + c1) (bK0 : K0 < 1000) (bH1 : H1 < 1000)
    (z1 : H1 ≠ 0) (hX1 : X1 = H1 * 38) (hK1 : K1 = X1 / B4) (hV2 : V2 = V1 % B4 + X1 % B4) (hc2 : c2 = V2 / B4) (hH2 : H2 = K1 + c2) (bK1 : K1 < 1000) (bH2 : H2 < 1000) (z2 : H2 = 0) (bV2 : V2 < B4) (hr : r = V2 % prime) : Pure Try.prog 21 [num x, num y] (num r) := by
  have bB : H1 < B4 := Nat.lt_trans bH1 (by decide)
  have v1 : (sumE 20 28).val (nu (numL x ++ (numL y ++ (numL T ++ (numL H0 ++ (numL X0 ++ (numL K0 ++ (numL V1 ++ ([c1] ++ (numL X1 ++ (numL K1 ++ (numL V2 ++ ([c2] ++ numL r))))))))))))) = (H1 : Int) := sum_val (a := K0) (b := c1) (by kernel_rfl) (by kernel_rfl) bK0 hH1 bH1
  have v2 : (sumE 33 41).val (nu (numL x ++ (numL y ++ (numL T ++ (numL H0 ++ (numL X0 ++ (numL K0 ++ (numL V1 ++ ([c1] ++ (numL X1 ++ (numL K1 ++ (numL V2 ++ ([c2] ++ numL r))))))))))))) = (H2 : Int) := sum_val (a := K1) (b := c2) (by kernel_rfl) (by kernel_rfl) bK1 hH2 bH2
  have hF : Facts.Hold rmF2 (nu (numL x ++ (numL y ++ (numL T ++ (numL H0 ++ (numL X0 ++ (numL K0 ++ (numL V1 ++ ([c1] ++ (numL X1 ++ (numL K1 ++ (numL V2 ++ ([c2] ++ numL r))))))))))))) := by
    refine ⟨fun p hp => (by cases hp), fun p hp => ?_⟩
    simp only [rmF2, List.mem_cons, List.not_mem_nil, or_false] at hp
    rcases hp with rfl | rfl
    · exact neS_holds v1 (decide_eq_true z1)
    · exact neS_holds v2 (by rw [z2]; rfl)
  refine pure_of hF mixed tab_ok (fun q hq => ?_) rm_says2 (by kernel_rfl) (by kernel_rfl)
  simp only [rmT2, rmT2', rmT0, List.cons_append, List.nil_append, List.mem_cons, List.not_mem_nil, or_false] at hq
  rcases hq with rfl | rfl | rfl | rfl | rfl | rfl
  · exact rowTimes hx hy hT hH0 (by kernel_rfl) (by kernel_rfl) (by kernel_rfl)
  · exact rowTimes (x := H0) (y := 38) bH0 (by decide) hX0 hK0 (by kernel_rfl) (c38_conc _) (by kernel_rfl)
  · exact rowAddC (x := T % B4) (y := X0 % B4) (mB _) (mB _) hV1 hc1 (by rw [num_mod]; kernel_rfl) (by rw [num_mod]; kernel_rfl) (by kernel_rfl) (by kernel_rfl)
  · exact rowTimes (x := H1) (y := 38) bB (by decide) hX1 hK1 (sumV_conc v1 bH1) (c38_conc _) (by kernel_rfl)
  · exact rowAddC (x := V1 % B4) (y := X1 % B4) (mB _) (mB _) hV2 hc2 (by rw [num_mod]; kernel_rfl) (by rw [num_mod]; kernel_rfl) (by kernel_rfl) (by kernel_rfl)
  · exact rowModR (x := V2) bV2 (by kernel_rfl) (by rw [← hr]; kernel_rfl)

theorem rm_core3 (x y T H0 X0 K0 V1 c1 H1 X1 K1 V2 c2 H2 X2 K2 V3 c3 H3 r : Nat) (hx : x < B4) (hy : y < B4) (hT : T = x * y) (hH0 : H0 = T / B4) (bH0 : H0 < B4) (hX0 : X0 = H0 * 38) (hK0 : K0 = X0 / B4) (hV1 : V1 = T % B4 + X0 % B4) (hc1 : c1 = V1 / B4) (hH1 : H1 = K0 + c1) (bK0 : K0 < 1000) (bH1 : H1 < 1000)
    (z1 : H1 ≠ 0) (hX1 : X1 = H1 * 38) (hK1 : K1 = X1 / B4) (hV2 : V2 = V1 % B4 + X1 % B4) (hc2 : c2 = V2 / B4) (hH2 : H2 = K1 + c2) (bK1 : K1 < 1000) (bH2 : H2 < 1000) (z2 : H2 ≠ 0)
    (hX2 : X2 = H2 * 38) (hK2 : K2 = X2 / B4) (hV3 : V3 = V2 % B4 + X2 % B4) (hc3 : c3 = V3 / B4) (hH3 : H3 = K2 + c3) (bK2 : K2 < 1000) (bH3 : H3 < 1000) (z3 : H3 = 0) (bV3 : V3 < B4) (hr : r = V3 % prime) : Pure Try.prog 21 [num x, num y] (num r) := by
  have bB : H1 < B4 := Nat.lt_trans bH1 (by decide)
  have bB2 : H2 < B4 := Nat.lt_trans bH2 (by decide)
  have v1 : (sumE 20 28).val (nu (numL x ++ (numL y ++ (numL T ++ (numL H0 ++ (numL X0 ++ (numL K0 ++ (numL V1 ++ ([c1] ++ (numL X1 ++ (numL K1 ++ (numL V2 ++ ([c2] ++ (numL X2 ++ (numL K2 ++ (numL V3 ++ ([c3] ++ numL r))))))))))))))))) = (H1 : Int) := sum_val (a := K0) (b := c1) (by kernel_rfl) (by kernel_rfl) bK0 hH1 bH1
  have v2 : (sumE 33 41).val (nu (numL x ++ (numL y ++ (numL T ++ (numL H0 ++ (numL X0 ++ (numL K0 ++ (numL V1 ++ ([c1] ++ (numL X1 ++ (numL K1 ++ (numL V2 ++ ([c2] ++ (numL X2 ++ (numL K2 ++ (numL V3 ++ ([c3] ++ numL r))))))))))))))))) = (H2 : Int) := sum_val (a := K1) (b := c2) (by kernel_rfl) (by kernel_rfl) bK1 hH2 bH2
  have v3 : (sumE 46 54).val (nu (numL x ++ (numL y ++ (numL T ++ (numL H0 ++ (numL X0 ++ (numL K0 ++ (numL V1 ++ ([c1] ++ (numL X1 ++ (numL K1 ++ (numL V2 ++ ([c2] ++ (numL X2 ++ (numL K2 ++ (numL V3 ++ ([c3] ++ numL r))))))))))))))))) = (H3 : Int) := sum_val (a := K2) (b := c3) (by kernel_rfl) (by kernel_rfl) bK2 hH3 bH3
  have hF : Facts.Hold rmF3 (nu (numL x ++ (numL y ++ (numL T ++ (numL H0 ++ (numL X0 ++ (numL K0 ++ (numL V1 ++ ([c1] ++ (numL X1 ++ (numL K1 ++ (numL V2 ++ ([c2] ++ (numL X2 ++ (numL K2 ++ (numL V3 ++ ([c3] ++ numL r))))))))))))))))) := by
    refine ⟨fun p hp => (by cases hp), fun p hp => ?_⟩
    simp only [rmF3, List.mem_cons, List.not_mem_nil, or_false] at hp
    rcases hp with rfl | rfl | rfl
    · exact neS_holds v1 (decide_eq_true z1)
    · exact neS_holds v2 (decide_eq_true z2)
    · exact neS_holds v3 (by rw [z3]; rfl)
  refine pure_of hF mixed tab_ok (fun q hq => ?_) rm_says3 (by kernel_rfl) (by kernel_rfl)
  simp only [rmT3, rmT2', rmT0, List.cons_append, List.nil_append, List.mem_cons, List.not_mem_nil, or_false] at hq
  rcases hq with rfl | rfl | rfl | rfl | rfl | rfl | rfl | rfl
  · exact rowTimes hx hy hT hH0 (by kernel_rfl) (by kernel_rfl) (by kernel_rfl)
  · exact rowTimes (x := H0) (y := 38) bH0 (by decide) hX0 hK0 (by kernel_rfl) (c38_conc _) (by kernel_rfl)
  · exact rowAddC (x := T % B4) (y := X0 % B4) (mB _) (mB _) hV1 hc1 (by rw [num_mod]; kernel_rfl) (by rw [num_mod]; kernel_rfl) (by kernel_rfl) (by kernel_rfl)
  · exact rowTimes (x := H1) (y := 38) bB (by decide) hX1 hK1 (sumV_conc v1 bH1) (c38_conc _) (by kernel_rfl)
  · exact rowAddC (x := V1 % B4) (y := X1 % B4) (mB _) (mB _) hV2 hc2 (by rw [num_mod]; kernel_rfl) (by rw [num_mod]; kernel_rfl) (by kernel_rfl) (by kernel_rfl)
  · exact rowTimes (x := H2) (y := 38) bB2 (by decide) hX2 hK2 (sumV_conc v2 bH2) (c38_conc _) (by kernel_rfl)
  · exact rowAddC (x := V2 % B4) (y := X2 % B4) (mB _) (mB _) hV3 hc3 (by rw [num_mod]; kernel_rfl) (by rw [num_mod]; kernel_rfl) (by kernel_rfl) (by kernel_rfl)
  · exact rowModR (x := V3) bV3 (by kernel_rfl) (by rw [← hr]; kernel_rfl)

theorem fold38 (L H : Nat) : (L + H * B4) % prime = (L + H * 38) % prime := by
  have e : L + H * B4 = L + H * 38 + prime * (2 * H) := by unfold B4 prime; omega
  rw [e, Nat.add_mul_mod_self_left]

theorem rm_bound1 (H0 T X0 K0 V1 c1 H1 : Nat) (bH0 : H0 < B4) (hX0 : X0 = H0 * 38) (hK0 : K0 = X0 / B4) (hV1 : V1 = T % B4 + X0 % B4) (hc1 : c1 = V1 / B4) (hH1 : H1 = K0 + c1) : K0 < 1000 ∧ H1 < 1000 ∧ H1 ≤ 38 ∧ T % B4 + H0 * 38 = V1 % B4 + H1 * B4 := by
  have h1 := mB T
  generalize T % B4 = t at *
  unfold B4 at *
  omega
theorem rm_bound2 (V1 H1 X1 K1 V2 c2 H2 : Nat) (b : H1 ≤ 38) (hX1 : X1 = H1 * 38) (hK1 : K1 = X1 / B4) (hV2 : V2 = V1 % B4 + X1 % B4) (hc2 : c2 = V2 / B4) (hH2 : H2 = K1 + c2) : K1 < 1000 ∧ H2 < 1000 ∧ H2 ≤ 1 ∧ (H2 ≠ 0 → V2 % B4 ≤ 1444) ∧ V2 = V1 % B4 + H1 * 38 ∧ V2 = V2 % B4 + H2 * B4 := by
  have h1 := mB V1
  generalize V1 % B4 = t at *
  unfold B4 at *
  omega
theorem rm_bound3 (V2 H2 X2 K2 V3 c3 H3 : Nat) (b : H2 ≤ 1) (bv : V2 % B4 ≤ 1444) (hX2 : X2 = H2 * 38) (hK2 : K2 = X2 / B4) (hV3 : V3 = V2 % B4 + X2 % B4) (hc3 : c3 = V3 / B4) (hH3 : H3 = K2 + c3) : K2 < 1000 ∧ H3 < 1000 ∧ H3 = 0 ∧ V3 < B4 ∧ V3 = V2 % B4 + H2 * 38 := by
  generalize V2 % B4 = t at *
  unfold B4 at *
  omega

theorem rMul_ok (x y : Nat) (hx : x < B4) (hy : y < B4) : Pure Try.prog 21 [num x, num y] (num (x * y % prime)) := by
  obtain ⟨T, hT⟩ : ∃ T, T = x * y := ⟨_, rfl⟩
  obtain ⟨H0, hH0⟩ : ∃ H, H = T / B4 := ⟨_, rfl⟩
  have bH0 : H0 < B4 := by
    rw [hH0, hT]
    exact Nat.div_lt_of_lt_mul (Nat.mul_lt_mul'' hx hy)
  have eT : T = T % B4 + H0 * B4 := by rw [hH0]; exact (Nat.mod_add_div' T B4).symm
  obtain ⟨X0, hX0⟩ : ∃ X, X = H0 * 38 := ⟨_, rfl⟩
  obtain ⟨K0, hK0⟩ : ∃ K, K = X0 / B4 := ⟨_, rfl⟩
  obtain ⟨V1, hV1⟩ : ∃ V, V = T % B4 + X0 % B4 := ⟨_, rfl⟩
  obtain ⟨c1, hc1⟩ : ∃ c, c = V1 / B4 := ⟨_, rfl⟩
  obtain ⟨H1, hH1⟩ : ∃ H, H = K0 + c1 := ⟨_, rfl⟩
  obtain ⟨p1, p2, p3, p4⟩ := rm_bound1 H0 T X0 K0 V1 c1 H1 bH0 hX0 hK0 hV1 hc1 hH1
  have m1 : T % prime = (V1 % B4 + H1 * B4) % prime := by
    rw [← p4, ← fold38, ← eT]
  rw [← hT]
  by_cases z1 : H1 = 0
  · have hv : c1 = 0 := by omega
    have bV1 : V1 < B4 := by
      rw [hc1] at hv
      exact (Nat.div_eq_zero_iff_lt (by decide)).1 hv
    rw [z1, Nat.zero_mul, Nat.add_zero, Nat.mod_eq_of_lt bV1] at m1
    exact rm_core1 x y T H0 X0 K0 V1 c1 H1 _ hx hy hT hH0 bH0 hX0 hK0 hV1 hc1 hH1 p1 p2 z1 bV1 m1
  · obtain ⟨X1, hX1⟩ : ∃ X, X = H1 * 38 := ⟨_, rfl⟩
    obtain ⟨K1, hK1⟩ : ∃ K, K = X1 / B4 := ⟨_, rfl⟩
    obtain ⟨V2, hV2⟩ : ∃ V, V = V1 % B4 + X1 % B4 := ⟨_, rfl⟩
    obtain ⟨c2, hc2⟩ : ∃ c, c = V2 / B4 := ⟨_, rfl⟩
    obtain ⟨H2, hH2⟩ : ∃ H, H = K1 + c2 := ⟨_, rfl⟩
    obtain ⟨q1, q2, q3, q4, q5, q6⟩ := rm_bound2 V1 H1 X1 K1 V2 c2 H2 p3 hX1 hK1 hV2 hc2 hH2
    have m2 : T % prime = V2 % prime := by rw [m1, fold38, ← q5]
    by_cases z2 : H2 = 0
    · have bV2 : V2 < B4 := by
        rw [z2, Nat.zero_mul, Nat.add_zero] at q6
        rw [q6]
        exact mB V2
      exact rm_core2 x y T H0 X0 K0 V1 c1 H1 X1 K1 V2 c2 H2 _ hx hy hT hH0 bH0 hX0 hK0 hV1 hc1 hH1 p1 p2 z1 hX1 hK1 hV2 hc2 hH2 q1 q2 z2 bV2 m2
    · obtain ⟨X2, hX2⟩ : ∃ X, X = H2 * 38 := ⟨_, rfl⟩
      obtain ⟨K2, hK2⟩ : ∃ K, K = X2 / B4 := ⟨_, rfl⟩
      obtain ⟨V3, hV3⟩ : ∃ V, V = V2 % B4 + X2 % B4 := ⟨_, rfl⟩
      obtain ⟨c3, hc3⟩ : ∃ c, c = V3 / B4 := ⟨_, rfl⟩
      obtain ⟨H3, hH3⟩ : ∃ H, H = K2 + c3 := ⟨_, rfl⟩
      obtain ⟨r1, r2, r3, r4, r5⟩ := rm_bound3 V2 H2 X2 K2 V3 c3 H3 q3 (q4 z2) hX2 hK2 hV3 hc3 hH3
      have m3 : T % prime = V3 % prime := by
        rw [m2, r5, ← fold38, ← q6]
      exact rm_core3 x y T H0 X0 K0 V1 c1 H1 X1 K1 V2 c2 H2 X2 K2 V3 c3 H3 _ hx hy hT hH0 bH0 hX0 hK0 hV1 hc1 hH1 p1 p2 z1 hX1 hK1 hV2 hc2 hH2 q1 q2 z2 hX2 hK2 hV3 hc3 hH3 r1 r2 r3 r4 m3

end Go.Proofs.Ytdillfhieilgnaa
