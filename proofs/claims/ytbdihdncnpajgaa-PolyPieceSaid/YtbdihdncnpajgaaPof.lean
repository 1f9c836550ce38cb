/-
  poly: what a piece adds; what is least; the tag's bytes. Own work, in part by program.
-/
import Derived.Test.YtbdihdncnpajgaaPoe
namespace Go.Proofs.Ytbdihdncnpajgaa
open Go.Sh
open Go.ChangeShapes Go.WideShapes Go.ChangeAt Go.RowKit
set_option maxRecDepth 100000

/-- A number's bytes, the lowest first. -/
def dv (v : Nat → Nat) : Nat → Nat
  | 0 => 0
  | m + 1 => dv v m + v m * 256 ^ m
theorem dv_congr {v v' : Nat → Nat} : ∀ {m : Nat}, (∀ j, j < m → v j = v' j) → dv v m = dv v' m
  | 0, _ => rfl
  | m + 1, h => by
    show dv v m + v m * 256 ^ m = dv v' m + v' m * 256 ^ m
    rw [dv_congr fun j hj => h j (by omega), h m (Nat.lt_succ_self m)]
theorem dv_lt {v : Nat → Nat} : ∀ {m : Nat}, (∀ j, j < m → v j < 256) → dv v m < 256 ^ m
  | 0, _ => by show 0 < 1; decide
  | m + 1, h => by
    have h1 := dv_lt (v := v) (m := m) fun j hj => h j (by omega)
    have h2 := h m (Nat.lt_succ_self m)
    have h3 : v m * 256 ^ m ≤ 255 * 256 ^ m := Nat.mul_le_mul_right _ (by omega)
    show dv v m + v m * 256 ^ m < 256 ^ (m + 1)
    rw [Nat.pow_succ]
    omega
def pS (x s : Int) : Int := arith .shl .u64 (IntKind.u64.wrap x) s
theorem pS_num (x s : Nat) (hx : x < 256) (hs : s ≤ 32) : pS (x : Int) (s : Int) = ((x * 2 ^ s : Nat) : Int) := by
  have : 2 ^ s ≤ 2 ^ 32 := Nat.pow_le_pow_right (by decide) hs
  have h2 : x * 2 ^ s ≤ 255 * 2 ^ 32 := Nat.mul_le_mul (by omega) this
  unfold pS
  rw [w_u64 (by omega), shl64 _ _ (by omega) (by omega)]
theorem addI_at (h b : Wd) : L5.of (addI h b 17) = ⟨pA (pA (pA (pA (h 0) (pS (b 0) (((0 : Nat)) : Int))) (pS (b 1) (((8 : Nat)) : Int))) (pS (b 2) (((16 : Nat)) : Int))) (pS (b 3) (((24 : Nat)) : Int)), pA (pA (pA (h 1) (pS (b 4) (((6 : Nat)) : Int))) (pS (b 5) (((14 : Nat)) : Int))) (pS (b 6) (((22 : Nat)) : Int)), pA (pA (pA (h 2) (pS (b 7) (((4 : Nat)) : Int))) (pS (b 8) (((12 : Nat)) : Int))) (pS (b 9) (((20 : Nat)) : Int)), pA (pA (pA (h 3) (pS (b 10) (((2 : Nat)) : Int))) (pS (b 11) (((10 : Nat)) : Int))) (pS (b 12) (((18 : Nat)) : Int)), pA (pA (pA (pA (h 4) (pS (b 13) (((0 : Nat)) : Int))) (pS (b 14) (((8 : Nat)) : Int))) (pS (b 15) (((16 : Nat)) : Int))) (pS (b 16) (((24 : Nat)) : Int))⟩ := rfl
theorem addI_at16 (h b : Wd) : L5.of (addI h b 16) = ⟨pA (pA (pA (pA (h 0) (pS (b 0) (((0 : Nat)) : Int))) (pS (b 1) (((8 : Nat)) : Int))) (pS (b 2) (((16 : Nat)) : Int))) (pS (b 3) (((24 : Nat)) : Int)), pA (pA (pA (h 1) (pS (b 4) (((6 : Nat)) : Int))) (pS (b 5) (((14 : Nat)) : Int))) (pS (b 6) (((22 : Nat)) : Int)), pA (pA (pA (h 2) (pS (b 7) (((4 : Nat)) : Int))) (pS (b 8) (((12 : Nat)) : Int))) (pS (b 9) (((20 : Nat)) : Int)), pA (pA (pA (h 3) (pS (b 10) (((2 : Nat)) : Int))) (pS (b 11) (((10 : Nat)) : Int))) (pS (b 12) (((18 : Nat)) : Int)), pA (pA (pA (h 4) (pS (b 13) (((0 : Nat)) : Int))) (pS (b 14) (((8 : Nat)) : Int))) (pS (b 15) (((16 : Nat)) : Int))⟩ := rfl
def adN (l : L5 Nat) (B : Nat → Nat) : L5 Nat := ⟨l.a + B 0 * 1 + B 1 * 256 + B 2 * 65536 + B 3 * 16777216, l.b + B 4 * 64 + B 5 * 16384 + B 6 * 4194304, l.c + B 7 * 16 + B 8 * 4096 + B 9 * 1048576, l.d + B 10 * 4 + B 11 * 1024 + B 12 * 262144, l.e + B 13 * 1 + B 14 * 256 + B 15 * 65536 + B 16 * 16777216⟩
theorem ad_n5 (l : L5 Nat) (B : Nat → Nat) : n5 (adN l B) = n5 l + dv B 17 := by
  simp only [n5, adN, dv]
  omega
theorem add4 {x0 x1 x2 x3 x4 : Nat} (h : x0 < 67108864 ∧ x1 < 67108864 ∧ x2 < 67108864 * 64 ∧ x3 < 67108864 * 256 ∧ x4 < 67108864 * 256) : pA (pA (pA (pA (x0 : Int) (x1 : Int)) (x2 : Int)) (x3 : Int)) (x4 : Int) = ((x0 + x1 + x2 + x3 + x4 : Nat) : Int) := by
  unfold pA
  rw [addN _ _ (by omega), addN _ _ (by omega), addN _ _ (by omega), addN _ _ (by omega)]
theorem add3 {x0 x1 x2 x3 : Nat} (h : x0 < 67108864 ∧ x1 < 67108864 * 256 ∧ x2 < 67108864 * 256 ∧ x3 < 67108864 * 256) : pA (pA (pA (x0 : Int) (x1 : Int)) (x2 : Int)) (x3 : Int) = ((x0 + x1 + x2 + x3 : Nat) : Int) := by
  unfold pA
  rw [addN _ _ (by omega), addN _ _ (by omega), addN _ _ (by omega)]
theorem ad_num {h b : Wd} {l : L5 Nat} {B : Nat → Nat} (hh : L5.of h = l.cast) (hl : B5 l 67108864) (hb : ∀ j, j < 17 → b j = (B j : Int) ∧ B j < 256) : L5.of (addI h b 17) = (adN l B).cast ∧ B5 (adN l B) 4611686018427387904 := by
  obtain ⟨l1, l2, l3, l4, l5⟩ := hl
  simp only [L5.of, L5.cast, L5.mk.injEq] at hh
  obtain ⟨h0, h1, h2, h3, h4⟩ := hh
  have b0 := (hb 0 (by decide)).2
  have b1 := (hb 1 (by decide)).2
  have b2 := (hb 2 (by decide)).2
  have b3 := (hb 3 (by decide)).2
  have b4 := (hb 4 (by decide)).2
  have b5 := (hb 5 (by decide)).2
  have b6 := (hb 6 (by decide)).2
  have b7 := (hb 7 (by decide)).2
  have b8 := (hb 8 (by decide)).2
  have b9 := (hb 9 (by decide)).2
  have b10 := (hb 10 (by decide)).2
  have b11 := (hb 11 (by decide)).2
  have b12 := (hb 12 (by decide)).2
  have b13 := (hb 13 (by decide)).2
  have b14 := (hb 14 (by decide)).2
  have b15 := (hb 15 (by decide)).2
  have b16 := (hb 16 (by decide)).2
  rw [addI_at]
  simp only [h0, h1, h2, h3, h4, (hb 0 (by decide)).1, (hb 1 (by decide)).1, (hb 2 (by decide)).1, (hb 3 (by decide)).1, (hb 4 (by decide)).1, (hb 5 (by decide)).1, (hb 6 (by decide)).1, (hb 7 (by decide)).1, (hb 8 (by decide)).1, (hb 9 (by decide)).1, (hb 10 (by decide)).1, (hb 11 (by decide)).1, (hb 12 (by decide)).1, (hb 13 (by decide)).1, (hb 14 (by decide)).1, (hb 15 (by decide)).1, (hb 16 (by decide)).1]
  rw [pS_num _ 0 b0 (by decide), pS_num _ 8 b1 (by decide), pS_num _ 16 b2 (by decide), pS_num _ 24 b3 (by decide), pS_num _ 6 b4 (by decide), pS_num _ 14 b5 (by decide), pS_num _ 22 b6 (by decide), pS_num _ 4 b7 (by decide), pS_num _ 12 b8 (by decide), pS_num _ 20 b9 (by decide), pS_num _ 2 b10 (by decide), pS_num _ 10 b11 (by decide), pS_num _ 18 b12 (by decide), pS_num _ 0 b13 (by decide), pS_num _ 8 b14 (by decide), pS_num _ 16 b15 (by decide), pS_num _ 24 b16 (by decide)]
  rw [add4 (by omega), add3 (by omega), add3 (by omega), add3 (by omega), add4 (by omega)]
  refine ⟨rfl, ?_⟩
  simp only [adN, B5]
  refine ⟨?_, ?_, ?_, ?_, ?_⟩ <;> omega
theorem ad_num16 {b : Wd} {B : Nat → Nat} (hb : ∀ j, j < 16 → b j = (B j : Int) ∧ B j < 256) : ∃ l : L5 Nat, L5.of (addI (fun _ => 0) b 16) = l.cast ∧ B5 l 4611686018427387904 ∧ n5 l = dv B 16 := by
  have b0 := (hb 0 (by decide)).2
  have b1 := (hb 1 (by decide)).2
  have b2 := (hb 2 (by decide)).2
  have b3 := (hb 3 (by decide)).2
  have b4 := (hb 4 (by decide)).2
  have b5 := (hb 5 (by decide)).2
  have b6 := (hb 6 (by decide)).2
  have b7 := (hb 7 (by decide)).2
  have b8 := (hb 8 (by decide)).2
  have b9 := (hb 9 (by decide)).2
  have b10 := (hb 10 (by decide)).2
  have b11 := (hb 11 (by decide)).2
  have b12 := (hb 12 (by decide)).2
  have b13 := (hb 13 (by decide)).2
  have b14 := (hb 14 (by decide)).2
  have b15 := (hb 15 (by decide)).2
  refine ⟨⟨0 + B 0 * 1 + B 1 * 256 + B 2 * 65536 + B 3 * 16777216, 0 + B 4 * 64 + B 5 * 16384 + B 6 * 4194304, 0 + B 7 * 16 + B 8 * 4096 + B 9 * 1048576, 0 + B 10 * 4 + B 11 * 1024 + B 12 * 262144, 0 + B 13 * 1 + B 14 * 256 + B 15 * 65536⟩, ?_, ?_, ?_⟩
  · rw [addI_at16]
    simp only [(hb 0 (by decide)).1, (hb 1 (by decide)).1, (hb 2 (by decide)).1, (hb 3 (by decide)).1, (hb 4 (by decide)).1, (hb 5 (by decide)).1, (hb 6 (by decide)).1, (hb 7 (by decide)).1, (hb 8 (by decide)).1, (hb 9 (by decide)).1, (hb 10 (by decide)).1, (hb 11 (by decide)).1, (hb 12 (by decide)).1, (hb 13 (by decide)).1, (hb 14 (by decide)).1, (hb 15 (by decide)).1]
    rw [pS_num _ 0 b0 (by decide), pS_num _ 8 b1 (by decide), pS_num _ 16 b2 (by decide), pS_num _ 24 b3 (by decide), pS_num _ 6 b4 (by decide), pS_num _ 14 b5 (by decide), pS_num _ 22 b6 (by decide), pS_num _ 4 b7 (by decide), pS_num _ 12 b8 (by decide), pS_num _ 20 b9 (by decide), pS_num _ 2 b10 (by decide), pS_num _ 10 b11 (by decide), pS_num _ 18 b12 (by decide), pS_num _ 0 b13 (by decide), pS_num _ 8 b14 (by decide), pS_num _ 16 b15 (by decide)]
    rw [show (0 : Int) = ((0 : Nat) : Int) from rfl, add4 (by omega), add3 (by omega), add3 (by omega), add3 (by omega), add3 (by omega)]
    rfl
  · refine ⟨?_, ?_, ?_, ?_, ?_⟩ <;> (dsimp only; omega)
  · simp only [n5, dv]
    omega
/-! what is least -/
def ovN (l : L5 Nat) : L5 Nat :=
  let o0 := l.a + 5
  let o1 := l.b + o0 / 67108864
  let o2 := l.c + o1 / 67108864
  let o3 := l.d + o2 / 67108864
  let o4 := l.e + o3 / 67108864
  ⟨o0 % 67108864, o1 % 67108864, o2 % 67108864, o3 % 67108864, o4⟩
theorem ov_num {g : Wd} {l : L5 Nat} (hg : L5.of g = l.cast) (hl : B5 l 67108864) : ovI g = (ovN l).cast := by
  obtain ⟨l1, l2, l3, l4, l5⟩ := hl
  simp only [L5.of, L5.cast, L5.mk.injEq] at hg
  obtain ⟨h0, h1, h2, h3, h4⟩ := hg
  simp only [ovI, ovN, L5.cast]
  rw [h0, h1, h2, h3, h4, addN _ _ (by omega), shr26, addN _ _ (by omega), shr26, addN _ _ (by omega), shr26, addN _ _ (by omega), shr26, addN _ _ (by omega), and26 _ (by omega), and26 _ (by omega), and26 _ (by omega), and26 _ (by omega)]
theorem le_num {g : Wd} {l : L5 Nat} (hg : L5.of g = l.cast) (hl : B5 l 67108864) : ∃ r : L5 Nat, L5.of (leI (ovB g) g) = r.cast ∧ B5 r 67108864 ∧ n5 r = n5 l % pp := by
  have ho := ov_num hg hl
  have hb : ovB g = decide ((ovN l).e > 67108863) := by
    unfold ovB
    rw [ho]
    show decide (((ovN l).e : Int) > ((67108863 : Nat) : Int)) = _
    exact decide_eq_decide.2 (by omega)
  obtain ⟨l1, l2, l3, l4, l5⟩ := hl
  by_cases c : (ovN l).e > 67108863
  · rw [hb, decide_eq_true c]
    refine ⟨⟨(ovN l).a, (ovN l).b, (ovN l).c, (ovN l).d, (ovN l).e % 67108864⟩, ?_, ?_, ?_⟩
    · have e4 : leI true g 4 = (((ovN l).e % 67108864 : Nat) : Int) := by
        show arith .and .u64 (ovI g).e ((67108863 : Nat) : Int) = _
        rw [ho]
        exact and26 _ (by simp only [ovN]; omega)
      have eo : ∀ j, j < 4 → leI true g j = (ovI g).at j := fun j hj => by
        show (if Nat.beq j 4 then _ else _) = _
        rw [if_neg (by simp; omega)]
      show (⟨leI true g 0, leI true g 1, leI true g 2, leI true g 3, leI true g 4⟩ : L5 Int) = _
      rw [e4, eo 0 (by decide), eo 1 (by decide), eo 2 (by decide), eo 3 (by decide), ho]
      rfl
    · simp only [ovN, B5]
      omega
    · have e1 : n5 l = n5 ⟨(ovN l).a, (ovN l).b, (ovN l).c, (ovN l).d, (ovN l).e % 67108864⟩ + pp := by
        simp only [ovN] at c
        simp only [ovN, n5, pp]
        omega
      have e2 : n5 l < 1361129467683753853853498429727072845824 := by
        simp only [n5]
        omega
      have e3 : n5 ⟨(ovN l).a, (ovN l).b, (ovN l).c, (ovN l).d, (ovN l).e % 67108864⟩ < pp := by
        rw [e1] at e2
        unfold pp at *
        omega
      rw [e1, Nat.add_mod_right]
      exact (Nat.mod_eq_of_lt e3).symm
  · rw [hb, decide_eq_false c]
    refine ⟨l, hg, ⟨l1, l2, l3, l4, l5⟩, ?_⟩
    simp only [ovN] at c
    simp only [n5, pp]
    omega
/-! the tag's bytes -/
theorem or64 (x y : Nat) (hx : x < 18446744073709551616) (hy : y < 18446744073709551616) : arith .or .u64 (x : Int) (y : Int) = ((x ||| y : Nat) : Int) := by
  have t : ∀ x : Nat, x < 18446744073709551616 → (BitVec.ofInt 64 (x : Int)).toNat = x := fun x hx => by
    rw [BitVec.ofInt_natCast, BitVec.toNat_ofNat, Nat.mod_eq_of_lt hx]
  show IntKind.u64.wrap (((BitVec.ofInt 64 (x : Int) ||| BitVec.ofInt 64 (y : Int)).toNat : Nat) : Int) = _
  rw [BitVec.toNat_or, t x hx, t y hy, w_u64 (Nat.or_lt_two_pow (n := 64) hx hy)]
theorem cc_num {a : Wd} {l : L5 Nat} (ha : L5.of a = l.cast) (hl : B5 l 67108864) {i : Nat} (hi : i < 16) : ∃ c : Nat, ccI a i = (c : Int) ∧ c < 1152921504606846976 ∧ c % 256 = n5 l / 256 ^ i % 256 := by
  obtain ⟨l1, l2, l3, l4, l5⟩ := hl
  simp only [L5.of, L5.cast, L5.mk.injEq] at ha
  obtain ⟨h0, h1, h2, h3, h4⟩ := ha
  have hi : i = 0 ∨ i = 1 ∨ i = 2 ∨ i = 3 ∨ i = 4 ∨ i = 5 ∨ i = 6 ∨ i = 7 ∨ i = 8 ∨ i = 9 ∨ i = 10 ∨ i = 11 ∨ i = 12 ∨ i = 13 ∨ i = 14 ∨ i = 15 := by omega
  rcases hi with rfl | rfl | rfl | rfl | rfl | rfl | rfl | rfl | rfl | rfl | rfl | rfl | rfl | rfl | rfl | rfl
  · refine ⟨l.a / 1, ?_, by omega, by simp only [n5]; omega⟩
    show arith .shr .u64 (a 0) ((0 : Nat) : Int) = _
    rw [h0, shrN (k := .u64) _ 0 (by decide)]
  · refine ⟨l.a / 256, ?_, by omega, by simp only [n5]; omega⟩
    show arith .shr .u64 (a 0) ((8 : Nat) : Int) = _
    rw [h0, shrN (k := .u64) _ 8 (by decide)]
  · refine ⟨l.a / 65536, ?_, by omega, by simp only [n5]; omega⟩
    show arith .shr .u64 (a 0) ((16 : Nat) : Int) = _
    rw [h0, shrN (k := .u64) _ 16 (by decide)]
  · refine ⟨l.a / 16777216 + l.b * 4, ?_, by omega, by simp only [n5]; omega⟩
    show arith .or .u64 (arith .shr .u64 (a 0) ((24 : Nat) : Int)) (arith .shl .u64 (a 1) ((2 : Nat) : Int)) = _
    rw [h0, h1, shrN (k := .u64) _ 24 (by decide), shl64 _ 2 (by decide) (by omega), or64 _ _ (by omega) (by omega), Nat.or_comm, orAdd _ _ 2 (by omega), Nat.add_comm]
  · refine ⟨l.b / 64, ?_, by omega, by simp only [n5]; omega⟩
    show arith .shr .u64 (a 1) ((6 : Nat) : Int) = _
    rw [h1, shrN (k := .u64) _ 6 (by decide)]
  · refine ⟨l.b / 16384, ?_, by omega, by simp only [n5]; omega⟩
    show arith .shr .u64 (a 1) ((14 : Nat) : Int) = _
    rw [h1, shrN (k := .u64) _ 14 (by decide)]
  · refine ⟨l.b / 4194304 + l.c * 16, ?_, by omega, by simp only [n5]; omega⟩
    show arith .or .u64 (arith .shr .u64 (a 1) ((22 : Nat) : Int)) (arith .shl .u64 (a 2) ((4 : Nat) : Int)) = _
    rw [h1, h2, shrN (k := .u64) _ 22 (by decide), shl64 _ 4 (by decide) (by omega), or64 _ _ (by omega) (by omega), Nat.or_comm, orAdd _ _ 4 (by omega), Nat.add_comm]
  · refine ⟨l.c / 16, ?_, by omega, by simp only [n5]; omega⟩
    show arith .shr .u64 (a 2) ((4 : Nat) : Int) = _
    rw [h2, shrN (k := .u64) _ 4 (by decide)]
  · refine ⟨l.c / 4096, ?_, by omega, by simp only [n5]; omega⟩
    show arith .shr .u64 (a 2) ((12 : Nat) : Int) = _
    rw [h2, shrN (k := .u64) _ 12 (by decide)]
  · refine ⟨l.c / 1048576 + l.d * 64, ?_, by omega, by simp only [n5]; omega⟩
    show arith .or .u64 (arith .shr .u64 (a 2) ((20 : Nat) : Int)) (arith .shl .u64 (a 3) ((6 : Nat) : Int)) = _
    rw [h2, h3, shrN (k := .u64) _ 20 (by decide), shl64 _ 6 (by decide) (by omega), or64 _ _ (by omega) (by omega), Nat.or_comm, orAdd _ _ 6 (by omega), Nat.add_comm]
  · refine ⟨l.d / 4, ?_, by omega, by simp only [n5]; omega⟩
    show arith .shr .u64 (a 3) ((2 : Nat) : Int) = _
    rw [h3, shrN (k := .u64) _ 2 (by decide)]
  · refine ⟨l.d / 1024, ?_, by omega, by simp only [n5]; omega⟩
    show arith .shr .u64 (a 3) ((10 : Nat) : Int) = _
    rw [h3, shrN (k := .u64) _ 10 (by decide)]
  · refine ⟨l.d / 262144, ?_, by omega, by simp only [n5]; omega⟩
    show arith .shr .u64 (a 3) ((18 : Nat) : Int) = _
    rw [h3, shrN (k := .u64) _ 18 (by decide)]
  · refine ⟨l.e / 1, ?_, by omega, by simp only [n5]; omega⟩
    show arith .shr .u64 (a 4) ((0 : Nat) : Int) = _
    rw [h4, shrN (k := .u64) _ 0 (by decide)]
  · refine ⟨l.e / 256, ?_, by omega, by simp only [n5]; omega⟩
    show arith .shr .u64 (a 4) ((8 : Nat) : Int) = _
    rw [h4, shrN (k := .u64) _ 8 (by decide)]
  · refine ⟨l.e / 65536, ?_, by omega, by simp only [n5]; omega⟩
    show arith .shr .u64 (a 4) ((16 : Nat) : Int) = _
    rw [h4, shrN (k := .u64) _ 16 (by decide)]
theorem tm_num {a : Wd} {l : L5 Nat} (ha : L5.of a = l.cast) (hl : B5 l 67108864) {i s : Nat} (hi : i < 16) (hs : s < 256) : tmI a (s : Int) i = ((n5 l / 256 ^ i % 256 + s : Nat) : Int) := by
  obtain ⟨c, h1, h2, h3⟩ := cc_num ha hl hi
  unfold tmI
  rw [h1, andM (.inl rfl) c 255 8 (by decide) (by decide) (by show c < 18446744073709551616; omega), w_u64 (by omega), show (2 : Nat) ^ 8 = 256 from rfl, h3, addN _ _ (by omega)]
/-- Carried so far. -/
theorem cr_num {a K : Wd} {l : L5 Nat} {s : Nat → Nat} (ha : L5.of a = l.cast) (hl : B5 l 67108864) (hs : ∀ j, j < 16 → K (16 + j) = (s j : Int) ∧ s j < 256) : ∀ i, i < 16 → crI a K i = (((n5 l % 256 ^ (i + 1) + dv s (i + 1)) / 256 ^ i : Nat) : Int) ∧ (n5 l % 256 ^ (i + 1) + dv s (i + 1)) / 256 ^ i < 512
  | 0, hi => by
    have h0 := hs 0 hi
    refine ⟨?_, ?_⟩
    · show arith .add .u64 0 (tmI a (K 16) 0) = _
      rw [show K 16 = (s 0 : Int) from h0.1, tm_num ha hl hi h0.2, show (0 : Int) = ((0 : Nat) : Int) from rfl, addN _ _ (by omega)]
      simp [dv]
    · have := h0.2
      simp [dv]
      omega
  | i + 1, hi => by
    obtain ⟨h1, h2⟩ := cr_num ha hl hs i (by omega)
    have h3 := hs (i + 1) hi
    have e : (n5 l % 256 ^ (i + 1 + 1) + dv s (i + 1 + 1)) / 256 ^ (i + 1) = (n5 l % 256 ^ (i + 1) + dv s (i + 1)) / 256 ^ i / 256 + (n5 l / 256 ^ (i + 1) % 256 + s (i + 1)) := by
      have hp : 0 < 256 ^ (i + 1) := Nat.pow_pos (by decide)
      have e1 : n5 l % 256 ^ (i + 1 + 1) = n5 l % 256 ^ (i + 1) + 256 ^ (i + 1) * (n5 l / 256 ^ (i + 1) % 256) := by
        rw [Nat.pow_succ 256 (i + 1), Nat.mod_mul]
      rw [e1, show dv s (i + 1 + 1) = dv s (i + 1) + s (i + 1) * 256 ^ (i + 1) from rfl, Nat.div_div_eq_div_mul, ← Nat.pow_succ,
        show n5 l % 256 ^ (i + 1) + 256 ^ (i + 1) * (n5 l / 256 ^ (i + 1) % 256) + (dv s (i + 1) + s (i + 1) * 256 ^ (i + 1)) = n5 l % 256 ^ (i + 1) + dv s (i + 1) + 256 ^ (i + 1) * (n5 l / 256 ^ (i + 1) % 256 + s (i + 1)) by rw [Nat.mul_add, Nat.mul_comm (s (i + 1))]; omega,
        Nat.add_mul_div_left _ _ hp]
    refine ⟨?_, ?_⟩
    · show arith .add .u64 (arith .shr .u64 (crI a K i) ((8 : Nat) : Int)) (tmI a (K (16 + (i + 1))) (i + 1)) = _
      rw [h1, h3.1, tm_num ha hl hi h3.2, shrN (k := .u64) _ 8 (by decide), addN _ _ (by have := h3.2; omega), e]
    · rw [e]
      have := h3.2
      omega
theorem tg_num {a K : Wd} {l : L5 Nat} {s : Nat → Nat} (ha : L5.of a = l.cast) (hl : B5 l 67108864) (hs : ∀ j, j < 16 → K (16 + j) = (s j : Int) ∧ s j < 256) {i : Nat} (hi : i < 16) : tgI a K i = (((n5 l + dv s 16) / 256 ^ i % 256 : Nat) : Int) := by
  unfold tgI
  rw [(cr_num ha hl hs i hi).1, w_u8]
  congr 1
  have hd : ∀ m, ∃ t, dv s (i + 1 + m) = dv s (i + 1) + 256 ^ (i + 1) * t := by
    intro m
    induction m with
    | zero => exact ⟨0, rfl⟩
    | succ m ih =>
      obtain ⟨t, ht⟩ := ih
      refine ⟨t + s (i + 1 + m) * 256 ^ m, ?_⟩
      rw [show dv s (i + 1 + (m + 1)) = dv s (i + 1 + m) + s (i + 1 + m) * 256 ^ (i + 1 + m) from rfl, ht, Nat.mul_add, show 256 ^ (i + 1 + m) = 256 ^ (i + 1) * 256 ^ m from Nat.pow_add _ _ _, Nat.add_assoc, Nat.mul_left_comm (s (i + 1 + m))]
  obtain ⟨t, ht⟩ := hd (16 - (i + 1))
  rw [show i + 1 + (16 - (i + 1)) = 16 by omega] at ht
  have hp : 0 < 256 ^ i := Nat.pow_pos (by decide)
  have e : n5 l + dv s 16 = n5 l % 256 ^ (i + 1) + dv s (i + 1) + 256 ^ i * (256 * (n5 l / 256 ^ (i + 1) + t)) := by
    have h1 := Nat.mod_add_div (n5 l) (256 ^ (i + 1))
    rw [ht, ← Nat.mul_assoc, ← Nat.pow_succ, Nat.mul_add]
    generalize 256 ^ (i + 1) = X at *
    generalize X * (n5 l / X) = Y at *
    omega
  rw [e, Nat.add_mul_div_left _ _ hp, Nat.add_mul_mod_self_left]
end Go.Proofs.Ytbdihdncnpajgaa
