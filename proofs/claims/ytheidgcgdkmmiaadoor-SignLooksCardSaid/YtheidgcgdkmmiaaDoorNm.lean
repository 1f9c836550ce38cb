/-
 NUMBERS MODULO L: what curve's mulAdd answers. Own work.
-/
import Derived.Test.YtheidgcgdkmmiaaDoorLa
namespace Go.Proofs.YtheidgcgdkmmiaaDoor
open Go.Sh
set_option maxRecDepth 100000
def maT : List Row := [⟨80, [wd 0, wd 4], .tp [wd 12, wd 13]⟩, ⟨60, [wd 13, c0, c0], .tp [wd 14, wd 15]⟩, ⟨60, [wd 8, wd 14, c0], .tp [wd 16, wd 17]⟩, ⟨80, [wd 0, wd 5], .tp [wd 18, wd 19]⟩, ⟨60, [wd 19, kar 12, c0], .tp [wd 20, wd 21]⟩, ⟨60, [wd 9, wd 20, c0], .tp [wd 22, wd 23]⟩, ⟨80, [wd 0, wd 6], .tp [wd 24, wd 25]⟩, ⟨60, [wd 25, kar 18, c0], .tp [wd 26, wd 27]⟩, ⟨60, [wd 10, wd 26, c0], .tp [wd 28, wd 29]⟩, ⟨80, [wd 0, wd 7], .tp [wd 30, wd 31]⟩, ⟨60, [wd 31, kar 24, c0], .tp [wd 32, wd 33]⟩, ⟨60, [wd 11, wd 32, c0], .tp [wd 34, wd 35]⟩, ⟨80, [wd 1, wd 4], .tp [wd 36, wd 37]⟩, ⟨60, [wd 37, c0, c0], .tp [wd 38, wd 39]⟩, ⟨60, [wd 22, wd 38, c0], .tp [wd 40, wd 41]⟩, ⟨80, [wd 1, wd 5], .tp [wd 42, wd 43]⟩, ⟨60, [wd 43, kar 36, c0], .tp [wd 44, wd 45]⟩, ⟨60, [wd 28, wd 44, c0], .tp [wd 46, wd 47]⟩, ⟨80, [wd 1, wd 6], .tp [wd 48, wd 49]⟩, ⟨60, [wd 49, kar 42, c0], .tp [wd 50, wd 51]⟩, ⟨60, [wd 34, wd 50, c0], .tp [wd 52, wd 53]⟩, ⟨80, [wd 1, wd 7], .tp [wd 54, wd 55]⟩, ⟨60, [wd 55, kar 48, c0], .tp [wd 56, wd 57]⟩, ⟨60, [kar 30, wd 56, c0], .tp [wd 58, wd 59]⟩, ⟨80, [wd 2, wd 4], .tp [wd 60, wd 61]⟩, ⟨60, [wd 61, c0, c0], .tp [wd 62, wd 63]⟩, ⟨60, [wd 46, wd 62, c0], .tp [wd 64, wd 65]⟩, ⟨80, [wd 2, wd 5], .tp [wd 66, wd 67]⟩, ⟨60, [wd 67, kar 60, c0], .tp [wd 68, wd 69]⟩, ⟨60, [wd 52, wd 68, c0], .tp [wd 70, wd 71]⟩, ⟨80, [wd 2, wd 6], .tp [wd 72, wd 73]⟩, ⟨60, [wd 73, kar 66, c0], .tp [wd 74, wd 75]⟩, ⟨60, [wd 58, wd 74, c0], .tp [wd 76, wd 77]⟩, ⟨80, [wd 2, wd 7], .tp [wd 78, wd 79]⟩, ⟨60, [wd 79, kar 72, c0], .tp [wd 80, wd 81]⟩, ⟨60, [kar 54, wd 80, c0], .tp [wd 82, wd 83]⟩, ⟨80, [wd 3, wd 4], .tp [wd 84, wd 85]⟩, ⟨60, [wd 85, c0, c0], .tp [wd 86, wd 87]⟩, ⟨60, [wd 70, wd 86, c0], .tp [wd 88, wd 89]⟩, ⟨80, [wd 3, wd 5], .tp [wd 90, wd 91]⟩, ⟨60, [wd 91, kar 84, c0], .tp [wd 92, wd 93]⟩, ⟨60, [wd 76, wd 92, c0], .tp [wd 94, wd 95]⟩, ⟨80, [wd 3, wd 6], .tp [wd 96, wd 97]⟩, ⟨60, [wd 97, kar 90, c0], .tp [wd 98, wd 99]⟩, ⟨60, [wd 82, wd 98, c0], .tp [wd 100, wd 101]⟩, ⟨80, [wd 3, wd 7], .tp [wd 102, wd 103]⟩, ⟨60, [wd 103, kar 96, c0], .tp [wd 104, wd 105]⟩, ⟨60, [kar 78, wd 104, c0], .tp [wd 106, wd 107]⟩]
theorem ma_says : says qae tree maT 900 3 44 [ns 0, ns 4, ns 8] (qaA [] gmax) (.ag [wd 16, wd 40, wd 64, wd 88, wd 94, wd 100, wd 106, kar 102]) = true := by kernel_rfl
theorem ma_core (a0 a1 a2 a3 b0 b1 b2 b3 q0 q1 q2 q3 h00 l00 s00 c00 t00 d00 C00 h01 l01 s01 c01 t01 d01 C01 h02 l02 s02 c02 t02 d02 C02 h03 l03 s03 c03 t03 d03 C03 h10 l10 s10 c10 t10 d10 C10 h11 l11 s11 c11 t11 d11 C11 h12 l12 s12 c12 t12 d12 C12 h13 l13 s13 c13 t13 d13 C13 h20 l20 s20 c20 t20 d20 C20 h21 l21 s21 c21 t21 d21 C21 h22 l22 s22 c22 t22 d22 C22 h23 l23 s23 c23 t23 d23 C23 h30 l30 s30 c30 t30 d30 C30 h31 l31 s31 c31 t31 d31 C31 h32 l32 s32 c32 t32 d32 C32 h33 l33 s33 c33 t33 d33 C33 : Nat)
  (S00 : Step a0 b0 0 q0 h00 l00 s00 c00 t00 d00 C00) (S01 : Step a0 b1 C00 q1 h01 l01 s01 c01 t01 d01 C01) (S02 : Step a0 b2 C01 q2 h02 l02 s02 c02 t02 d02 C02) (S03 : Step a0 b3 C02 q3 h03 l03 s03 c03 t03 d03 C03) (S10 : Step a1 b0 0 t01 h10 l10 s10 c10 t10 d10 C10) (S11 : Step a1 b1 C10 t02 h11 l11 s11 c11 t11 d11 C11) (S12 : Step a1 b2 C11 t03 h12 l12 s12 c12 t12 d12 C12) (S13 : Step a1 b3 C12 C03 h13 l13 s13 c13 t13 d13 C13) (S20 : Step a2 b0 0 t11 h20 l20 s20 c20 t20 d20 C20) (S21 : Step a2 b1 C20 t12 h21 l21 s21 c21 t21 d21 C21) (S22 : Step a2 b2 C21 t13 h22 l22 s22 c22 t22 d22 C22) (S23 : Step a2 b3 C22 C13 h23 l23 s23 c23 t23 d23 C23) (S30 : Step a3 b0 0 t21 h30 l30 s30 c30 t30 d30 C30) (S31 : Step a3 b1 C30 t22 h31 l31 s31 c31 t31 d31 C31) (S32 : Step a3 b2 C31 t23 h32 l32 s32 c32 t32 d32 C32) (S33 : Step a3 b3 C32 C23 h33 l33 s33 c33 t33 d33 C33) :
  Pure Tryd.prog 44 [n4 a0 a1 a2 a3, n4 b0 b1 b2 b3, n4 q0 q1 q2 q3] (.agg #[u64 t00, u64 t10, u64 t20, u64 t30, u64 t31, u64 t32, u64 t33, u64 C33]) := by
 refine Pure.to (u := .agg #[u64 t00, u64 t10, u64 t20, u64 t30, u64 t31, u64 t32, u64 t33, .int .u64 ((AI.e .add .u64 (.e .add .u64 (.s 102) (.s 105)) (.s 107)).val (nu [a0, a1, a2, a3, b0, b1, b2, b3, q0, q1, q2, q3, h00, l00, s00, c00, t00, d00, h01, l01, s01, c01, t01, d01, h02, l02, s02, c02, t02, d02, h03, l03, s03, c03, t03, d03, h10, l10, s10, c10, t10, d10, h11, l11, s11, c11, t11, d11, h12, l12, s12, c12, t12, d12, h13, l13, s13, c13, t13, d13, h20, l20, s20, c20, t20, d20, h21, l21, s21, c21, t21, d21, h22, l22, s22, c22, t22, d22, h23, l23, s23, c23, t23, d23, h30, l30, s30, c30, t30, d30, h31, l31, s31, c31, t31, d31, h32, l32, s32, c32, t32, d32, h33, l33, s33, c33, t33, d33]))]) (qan (ν := nu [a0, a1, a2, a3, b0, b1, b2, b3, q0, q1, q2, q3, h00, l00, s00, c00, t00, d00, h01, l01, s01, c01, t01, d01, h02, l02, s02, c02, t02, d02, h03, l03, s03, c03, t03, d03, h10, l10, s10, c10, t10, d10, h11, l11, s11, c11, t11, d11, h12, l12, s12, c12, t12, d12, h13, l13, s13, c13, t13, d13, h20, l20, s20, c20, t20, d20, h21, l21, s21, c21, t21, d21, h22, l22, s22, c22, t22, d22, h23, l23, s23, c23, t23, d23, h30, l30, s30, c30, t30, d30, h31, l31, s31, c31, t31, d31, h32, l32, s32, c32, t32, d32, h33, l33, s33, c33, t33, d33]) (qab _) qak qaf (fun r hr => ?_) ma_says (by kernel_rfl) (by kernel_rfl)) rfl ?_
 rotate_left
 ·have e : (AI.e .add .u64 (.e .add .u64 (.s 102) (.s 105)) (.s 107)).val (nu [a0, a1, a2, a3, b0, b1, b2, b3, q0, q1, q2, q3, h00, l00, s00, c00, t00, d00, h01, l01, s01, c01, t01, d01, h02, l02, s02, c02, t02, d02, h03, l03, s03, c03, t03, d03, h10, l10, s10, c10, t10, d10, h11, l11, s11, c11, t11, d11, h12, l12, s12, c12, t12, d12, h13, l13, s13, c13, t13, d13, h20, l20, s20, c20, t20, d20, h21, l21, s21, c21, t21, d21, h22, l22, s22, c22, t22, d22, h23, l23, s23, c23, t23, d23, h30, l30, s30, c30, t30, d30, h31, l31, s31, c31, t31, d31, h32, l32, s32, c32, t32, d32, h33, l33, s33, c33, t33, d33]) = (C33 : Int) := kar_val (n := 102) (h := h33) (c := c33) (d := d33) (by kernel_rfl) (by kernel_rfl) (by kernel_rfl) S33.eC S33.lC
  rw [e]
  rfl
 simp only [maT, List.mem_cons, List.not_mem_nil, or_false] at hr
 rcases hr with rfl | rfl | rfl | rfl | rfl | rfl | rfl | rfl | rfl | rfl | rfl | rfl | rfl | rfl | rfl | rfl | rfl | rfl | rfl | rfl | rfl | rfl | rfl | rfl | rfl | rfl | rfl | rfl | rfl | rfl | rfl | rfl | rfl | rfl | rfl | rfl | rfl | rfl | rfl | rfl | rfl | rfl | rfl | rfl | rfl | rfl | rfl | rfl
 ·exact rowM (x := a0) (y := b0) (z := h00) (k := l00) (by kernel_rfl) (by kernel_rfl) (by kernel_rfl) (by kernel_rfl) S00.ha S00.hb S00.eh S00.el
 ·exact rowA (x := l00) (y := 0) (c := 0) (z := s00) (k := c00) (by kernel_rfl) (by kernel_rfl) (by kernel_rfl) (by kernel_rfl) (by kernel_rfl) (by decide) S00.es S00.ec
 ·exact rowA (x := q0) (y := s00) (c := 0) (z := t00) (k := d00) (by kernel_rfl) (by kernel_rfl) (by kernel_rfl) (by kernel_rfl) (by kernel_rfl) (by decide) (by rw [S00.et, Nat.add_comm s00]) (by rw [S00.ed, Nat.add_comm s00])
 ·exact rowM (x := a0) (y := b1) (z := h01) (k := l01) (by kernel_rfl) (by kernel_rfl) (by kernel_rfl) (by kernel_rfl) S01.ha S01.hb S01.eh S01.el
 ·exact rowA (x := l01) (y := C00) (c := 0) (z := s01) (k := c01) (by kernel_rfl) (qaz (h := h00) (c := c00) (d := d00) (by kernel_rfl) (by kernel_rfl) (by kernel_rfl) S00.eC S00.lC) (by kernel_rfl) (by kernel_rfl) (by kernel_rfl) (by decide) S01.es S01.ec
 ·exact rowA (x := q1) (y := s01) (c := 0) (z := t01) (k := d01) (by kernel_rfl) (by kernel_rfl) (by kernel_rfl) (by kernel_rfl) (by kernel_rfl) (by decide) (by rw [S01.et, Nat.add_comm s01]) (by rw [S01.ed, Nat.add_comm s01])
 ·exact rowM (x := a0) (y := b2) (z := h02) (k := l02) (by kernel_rfl) (by kernel_rfl) (by kernel_rfl) (by kernel_rfl) S02.ha S02.hb S02.eh S02.el
 ·exact rowA (x := l02) (y := C01) (c := 0) (z := s02) (k := c02) (by kernel_rfl) (qaz (h := h01) (c := c01) (d := d01) (by kernel_rfl) (by kernel_rfl) (by kernel_rfl) S01.eC S01.lC) (by kernel_rfl) (by kernel_rfl) (by kernel_rfl) (by decide) S02.es S02.ec
 ·exact rowA (x := q2) (y := s02) (c := 0) (z := t02) (k := d02) (by kernel_rfl) (by kernel_rfl) (by kernel_rfl) (by kernel_rfl) (by kernel_rfl) (by decide) (by rw [S02.et, Nat.add_comm s02]) (by rw [S02.ed, Nat.add_comm s02])
 ·exact rowM (x := a0) (y := b3) (z := h03) (k := l03) (by kernel_rfl) (by kernel_rfl) (by kernel_rfl) (by kernel_rfl) S03.ha S03.hb S03.eh S03.el
 ·exact rowA (x := l03) (y := C02) (c := 0) (z := s03) (k := c03) (by kernel_rfl) (qaz (h := h02) (c := c02) (d := d02) (by kernel_rfl) (by kernel_rfl) (by kernel_rfl) S02.eC S02.lC) (by kernel_rfl) (by kernel_rfl) (by kernel_rfl) (by decide) S03.es S03.ec
 ·exact rowA (x := q3) (y := s03) (c := 0) (z := t03) (k := d03) (by kernel_rfl) (by kernel_rfl) (by kernel_rfl) (by kernel_rfl) (by kernel_rfl) (by decide) (by rw [S03.et, Nat.add_comm s03]) (by rw [S03.ed, Nat.add_comm s03])
 ·exact rowM (x := a1) (y := b0) (z := h10) (k := l10) (by kernel_rfl) (by kernel_rfl) (by kernel_rfl) (by kernel_rfl) S10.ha S10.hb S10.eh S10.el
 ·exact rowA (x := l10) (y := 0) (c := 0) (z := s10) (k := c10) (by kernel_rfl) (by kernel_rfl) (by kernel_rfl) (by kernel_rfl) (by kernel_rfl) (by decide) S10.es S10.ec
 ·exact rowA (x := t01) (y := s10) (c := 0) (z := t10) (k := d10) (by kernel_rfl) (by kernel_rfl) (by kernel_rfl) (by kernel_rfl) (by kernel_rfl) (by decide) (by rw [S10.et, Nat.add_comm s10]) (by rw [S10.ed, Nat.add_comm s10])
 ·exact rowM (x := a1) (y := b1) (z := h11) (k := l11) (by kernel_rfl) (by kernel_rfl) (by kernel_rfl) (by kernel_rfl) S11.ha S11.hb S11.eh S11.el
 ·exact rowA (x := l11) (y := C10) (c := 0) (z := s11) (k := c11) (by kernel_rfl) (qaz (h := h10) (c := c10) (d := d10) (by kernel_rfl) (by kernel_rfl) (by kernel_rfl) S10.eC S10.lC) (by kernel_rfl) (by kernel_rfl) (by kernel_rfl) (by decide) S11.es S11.ec
 ·exact rowA (x := t02) (y := s11) (c := 0) (z := t11) (k := d11) (by kernel_rfl) (by kernel_rfl) (by kernel_rfl) (by kernel_rfl) (by kernel_rfl) (by decide) (by rw [S11.et, Nat.add_comm s11]) (by rw [S11.ed, Nat.add_comm s11])
 ·exact rowM (x := a1) (y := b2) (z := h12) (k := l12) (by kernel_rfl) (by kernel_rfl) (by kernel_rfl) (by kernel_rfl) S12.ha S12.hb S12.eh S12.el
 ·exact rowA (x := l12) (y := C11) (c := 0) (z := s12) (k := c12) (by kernel_rfl) (qaz (h := h11) (c := c11) (d := d11) (by kernel_rfl) (by kernel_rfl) (by kernel_rfl) S11.eC S11.lC) (by kernel_rfl) (by kernel_rfl) (by kernel_rfl) (by decide) S12.es S12.ec
 ·exact rowA (x := t03) (y := s12) (c := 0) (z := t12) (k := d12) (by kernel_rfl) (by kernel_rfl) (by kernel_rfl) (by kernel_rfl) (by kernel_rfl) (by decide) (by rw [S12.et, Nat.add_comm s12]) (by rw [S12.ed, Nat.add_comm s12])
 ·exact rowM (x := a1) (y := b3) (z := h13) (k := l13) (by kernel_rfl) (by kernel_rfl) (by kernel_rfl) (by kernel_rfl) S13.ha S13.hb S13.eh S13.el
 ·exact rowA (x := l13) (y := C12) (c := 0) (z := s13) (k := c13) (by kernel_rfl) (qaz (h := h12) (c := c12) (d := d12) (by kernel_rfl) (by kernel_rfl) (by kernel_rfl) S12.eC S12.lC) (by kernel_rfl) (by kernel_rfl) (by kernel_rfl) (by decide) S13.es S13.ec
 ·exact rowA (x := C03) (y := s13) (c := 0) (z := t13) (k := d13) (qaz (h := h03) (c := c03) (d := d03) (by kernel_rfl) (by kernel_rfl) (by kernel_rfl) S03.eC S03.lC) (by kernel_rfl) (by kernel_rfl) (by kernel_rfl) (by kernel_rfl) (by decide) (by rw [S13.et, Nat.add_comm s13]) (by rw [S13.ed, Nat.add_comm s13])
 ·exact rowM (x := a2) (y := b0) (z := h20) (k := l20) (by kernel_rfl) (by kernel_rfl) (by kernel_rfl) (by kernel_rfl) S20.ha S20.hb S20.eh S20.el
 ·exact rowA (x := l20) (y := 0) (c := 0) (z := s20) (k := c20) (by kernel_rfl) (by kernel_rfl) (by kernel_rfl) (by kernel_rfl) (by kernel_rfl) (by decide) S20.es S20.ec
 ·exact rowA (x := t11) (y := s20) (c := 0) (z := t20) (k := d20) (by kernel_rfl) (by kernel_rfl) (by kernel_rfl) (by kernel_rfl) (by kernel_rfl) (by decide) (by rw [S20.et, Nat.add_comm s20]) (by rw [S20.ed, Nat.add_comm s20])
 ·exact rowM (x := a2) (y := b1) (z := h21) (k := l21) (by kernel_rfl) (by kernel_rfl) (by kernel_rfl) (by kernel_rfl) S21.ha S21.hb S21.eh S21.el
 ·exact rowA (x := l21) (y := C20) (c := 0) (z := s21) (k := c21) (by kernel_rfl) (qaz (h := h20) (c := c20) (d := d20) (by kernel_rfl) (by kernel_rfl) (by kernel_rfl) S20.eC S20.lC) (by kernel_rfl) (by kernel_rfl) (by kernel_rfl) (by decide) S21.es S21.ec
 ·exact rowA (x := t12) (y := s21) (c := 0) (z := t21) (k := d21) (by kernel_rfl) (by kernel_rfl) (by kernel_rfl) (by kernel_rfl) (by kernel_rfl) (by decide) (by rw [S21.et, Nat.add_comm s21]) (by rw [S21.ed, Nat.add_comm s21])
 ·exact rowM (x := a2) (y := b2) (z := h22) (k := l22) (by kernel_rfl) (by kernel_rfl) (by kernel_rfl) (by kernel_rfl) S22.ha S22.hb S22.eh S22.el
 ·exact rowA (x := l22) (y := C21) (c := 0) (z := s22) (k := c22) (by kernel_rfl) (qaz (h := h21) (c := c21) (d := d21) (by kernel_rfl) (by kernel_rfl) (by kernel_rfl) S21.eC S21.lC) (by kernel_rfl) (by kernel_rfl) (by kernel_rfl) (by decide) S22.es S22.ec
 ·exact rowA (x := t13) (y := s22) (c := 0) (z := t22) (k := d22) (by kernel_rfl) (by kernel_rfl) (by kernel_rfl) (by kernel_rfl) (by kernel_rfl) (by decide) (by rw [S22.et, Nat.add_comm s22]) (by rw [S22.ed, Nat.add_comm s22])
 ·exact rowM (x := a2) (y := b3) (z := h23) (k := l23) (by kernel_rfl) (by kernel_rfl) (by kernel_rfl) (by kernel_rfl) S23.ha S23.hb S23.eh S23.el
 ·exact rowA (x := l23) (y := C22) (c := 0) (z := s23) (k := c23) (by kernel_rfl) (qaz (h := h22) (c := c22) (d := d22) (by kernel_rfl) (by kernel_rfl) (by kernel_rfl) S22.eC S22.lC) (by kernel_rfl) (by kernel_rfl) (by kernel_rfl) (by decide) S23.es S23.ec
 ·exact rowA (x := C13) (y := s23) (c := 0) (z := t23) (k := d23) (qaz (h := h13) (c := c13) (d := d13) (by kernel_rfl) (by kernel_rfl) (by kernel_rfl) S13.eC S13.lC) (by kernel_rfl) (by kernel_rfl) (by kernel_rfl) (by kernel_rfl) (by decide) (by rw [S23.et, Nat.add_comm s23]) (by rw [S23.ed, Nat.add_comm s23])
 ·exact rowM (x := a3) (y := b0) (z := h30) (k := l30) (by kernel_rfl) (by kernel_rfl) (by kernel_rfl) (by kernel_rfl) S30.ha S30.hb S30.eh S30.el
 ·exact rowA (x := l30) (y := 0) (c := 0) (z := s30) (k := c30) (by kernel_rfl) (by kernel_rfl) (by kernel_rfl) (by kernel_rfl) (by kernel_rfl) (by decide) S30.es S30.ec
 ·exact rowA (x := t21) (y := s30) (c := 0) (z := t30) (k := d30) (by kernel_rfl) (by kernel_rfl) (by kernel_rfl) (by kernel_rfl) (by kernel_rfl) (by decide) (by rw [S30.et, Nat.add_comm s30]) (by rw [S30.ed, Nat.add_comm s30])
 ·exact rowM (x := a3) (y := b1) (z := h31) (k := l31) (by kernel_rfl) (by kernel_rfl) (by kernel_rfl) (by kernel_rfl) S31.ha S31.hb S31.eh S31.el
 ·exact rowA (x := l31) (y := C30) (c := 0) (z := s31) (k := c31) (by kernel_rfl) (qaz (h := h30) (c := c30) (d := d30) (by kernel_rfl) (by kernel_rfl) (by kernel_rfl) S30.eC S30.lC) (by kernel_rfl) (by kernel_rfl) (by kernel_rfl) (by decide) S31.es S31.ec
 ·exact rowA (x := t22) (y := s31) (c := 0) (z := t31) (k := d31) (by kernel_rfl) (by kernel_rfl) (by kernel_rfl) (by kernel_rfl) (by kernel_rfl) (by decide) (by rw [S31.et, Nat.add_comm s31]) (by rw [S31.ed, Nat.add_comm s31])
 ·exact rowM (x := a3) (y := b2) (z := h32) (k := l32) (by kernel_rfl) (by kernel_rfl) (by kernel_rfl) (by kernel_rfl) S32.ha S32.hb S32.eh S32.el
 ·exact rowA (x := l32) (y := C31) (c := 0) (z := s32) (k := c32) (by kernel_rfl) (qaz (h := h31) (c := c31) (d := d31) (by kernel_rfl) (by kernel_rfl) (by kernel_rfl) S31.eC S31.lC) (by kernel_rfl) (by kernel_rfl) (by kernel_rfl) (by decide) S32.es S32.ec
 ·exact rowA (x := t23) (y := s32) (c := 0) (z := t32) (k := d32) (by kernel_rfl) (by kernel_rfl) (by kernel_rfl) (by kernel_rfl) (by kernel_rfl) (by decide) (by rw [S32.et, Nat.add_comm s32]) (by rw [S32.ed, Nat.add_comm s32])
 ·exact rowM (x := a3) (y := b3) (z := h33) (k := l33) (by kernel_rfl) (by kernel_rfl) (by kernel_rfl) (by kernel_rfl) S33.ha S33.hb S33.eh S33.el
 ·exact rowA (x := l33) (y := C32) (c := 0) (z := s33) (k := c33) (by kernel_rfl) (qaz (h := h32) (c := c32) (d := d32) (by kernel_rfl) (by kernel_rfl) (by kernel_rfl) S32.eC S32.lC) (by kernel_rfl) (by kernel_rfl) (by kernel_rfl) (by decide) S33.es S33.ec
 ·exact rowA (x := C23) (y := s33) (c := 0) (z := t33) (k := d33) (qaz (h := h23) (c := c23) (d := d23) (by kernel_rfl) (by kernel_rfl) (by kernel_rfl) S23.eC S23.lC) (by kernel_rfl) (by kernel_rfl) (by kernel_rfl) (by kernel_rfl) (by decide) (by rw [S33.et, Nat.add_comm s33]) (by rw [S33.ed, Nat.add_comm s33])
theorem row_lin2 (P0 P1 P2 P3 o0 o1 o2 o3 t0 t1 t2 t3 C0 C1 C2 C3 : Nat) (h0 : t0 + 18446744073709551616 * C0 = P0 + 0 + o0) (h1 : t1 + 18446744073709551616 * C1 = P1 + C0 + o1) (h2 : t2 + 18446744073709551616 * C2 = P2 + C1 + o2) (h3 : t3 + 18446744073709551616 * C3 = P3 + C2 + o3) :
  P0 + P1 * 18446744073709551616 + P2 * 340282366920938463463374607431768211456 + P3 * 6277101735386680763835789423207666416102355444464034512896 + (o0 + o1 * 18446744073709551616 + o2 * 340282366920938463463374607431768211456 + o3 * 6277101735386680763835789423207666416102355444464034512896) = t0 + t1 * 18446744073709551616 + t2 * 340282366920938463463374607431768211456 + t3 * 6277101735386680763835789423207666416102355444464034512896 + C3 * B4 := by
 unfold B4
 omega
theorem all_lin2 (Y0 Y1 Y2 Y3 Z t00 t01 t02 t03 C03 t10 t11 t12 t13 C13 t20 t21 t22 t23 C23 t30 t31 t32 t33 C33 : Nat) (h0 : Y0 + Z = t00 + t01 * 18446744073709551616 + t02 * 340282366920938463463374607431768211456 + t03 * 6277101735386680763835789423207666416102355444464034512896 + C03 * B4) (h1 : Y1 + (t01 + t02 * 18446744073709551616 + t03 * 340282366920938463463374607431768211456 + C03 * 6277101735386680763835789423207666416102355444464034512896) = t10 + t11 * 18446744073709551616 + t12 * 340282366920938463463374607431768211456 + t13 * 6277101735386680763835789423207666416102355444464034512896 + C13 * B4)
  (h2 : Y2 + (t11 + t12 * 18446744073709551616 + t13 * 340282366920938463463374607431768211456 + C13 * 6277101735386680763835789423207666416102355444464034512896) = t20 + t21 * 18446744073709551616 + t22 * 340282366920938463463374607431768211456 + t23 * 6277101735386680763835789423207666416102355444464034512896 + C23 * B4) (h3 : Y3 + (t21 + t22 * 18446744073709551616 + t23 * 340282366920938463463374607431768211456 + C23 * 6277101735386680763835789423207666416102355444464034512896) = t30 + t31 * 18446744073709551616 + t32 * 340282366920938463463374607431768211456 + t33 * 6277101735386680763835789423207666416102355444464034512896 + C33 * B4) :
  Y0 + Y1 * 18446744073709551616 + Y2 * 340282366920938463463374607431768211456 + Y3 * 6277101735386680763835789423207666416102355444464034512896 + Z = t00 + t10 * 18446744073709551616 + t20 * 340282366920938463463374607431768211456 + t30 * 6277101735386680763835789423207666416102355444464034512896 + (t31 + t32 * 18446744073709551616 + t33 * 340282366920938463463374607431768211456 + C33 * 6277101735386680763835789423207666416102355444464034512896) * B4 := by
 unfold B4 at *
 omega
theorem mulAdd_ok (x y z : Nat) (hx : x < B4) (hy : y < B4) (hz : z < B4) : Pure Tryd.prog 44 [num x, num y, num z] (num8 (x * y + z)) := by
 obtain ⟨l0, l1, l2, l3⟩ := w_lt x
 obtain ⟨m0, m1, m2, m3⟩ := w_lt y
 obtain ⟨n0, n1, n2, n3⟩ := w_lt z
 have z0 : 0 < 18446744073709551616 := by decide
 obtain ⟨h00, l00, s00, c00, t00, d00, C00, S00⟩ := qaC (Sh.w0 x) (Sh.w0 y) 0 (Sh.w0 z) l0 m0 z0 n0
 obtain ⟨h01, l01, s01, c01, t01, d01, C01, S01⟩ := qaC (Sh.w0 x) (w1 y) C00 (w1 z) l0 m1 S00.lC n1
 obtain ⟨h02, l02, s02, c02, t02, d02, C02, S02⟩ := qaC (Sh.w0 x) (w2 y) C01 (w2 z) l0 m2 S01.lC n2
 obtain ⟨h03, l03, s03, c03, t03, d03, C03, S03⟩ := qaC (Sh.w0 x) (w3 y) C02 (w3 z) l0 m3 S02.lC n3
 obtain ⟨h10, l10, s10, c10, t10, d10, C10, S10⟩ := qaC (w1 x) (Sh.w0 y) 0 t01 l1 m0 z0 S01.lt
 obtain ⟨h11, l11, s11, c11, t11, d11, C11, S11⟩ := qaC (w1 x) (w1 y) C10 t02 l1 m1 S10.lC S02.lt
 obtain ⟨h12, l12, s12, c12, t12, d12, C12, S12⟩ := qaC (w1 x) (w2 y) C11 t03 l1 m2 S11.lC S03.lt
 obtain ⟨h13, l13, s13, c13, t13, d13, C13, S13⟩ := qaC (w1 x) (w3 y) C12 C03 l1 m3 S12.lC S03.lC
 obtain ⟨h20, l20, s20, c20, t20, d20, C20, S20⟩ := qaC (w2 x) (Sh.w0 y) 0 t11 l2 m0 z0 S11.lt
 obtain ⟨h21, l21, s21, c21, t21, d21, C21, S21⟩ := qaC (w2 x) (w1 y) C20 t12 l2 m1 S20.lC S12.lt
 obtain ⟨h22, l22, s22, c22, t22, d22, C22, S22⟩ := qaC (w2 x) (w2 y) C21 t13 l2 m2 S21.lC S13.lt
 obtain ⟨h23, l23, s23, c23, t23, d23, C23, S23⟩ := qaC (w2 x) (w3 y) C22 C13 l2 m3 S22.lC S13.lC
 obtain ⟨h30, l30, s30, c30, t30, d30, C30, S30⟩ := qaC (w3 x) (Sh.w0 y) 0 t21 l3 m0 z0 S21.lt
 obtain ⟨h31, l31, s31, c31, t31, d31, C31, S31⟩ := qaC (w3 x) (w1 y) C30 t22 l3 m1 S30.lC S22.lt
 obtain ⟨h32, l32, s32, c32, t32, d32, C32, S32⟩ := qaC (w3 x) (w2 y) C31 t23 l3 m2 S31.lC S23.lt
 obtain ⟨h33, l33, s33, c33, t33, d33, C33, S33⟩ := qaC (w3 x) (w3 y) C32 C23 l3 m3 S32.lC S23.lC
 have hc := ma_core (Sh.w0 x) (w1 x) (w2 x) (w3 x) (Sh.w0 y) (w1 y) (w2 y) (w3 y) (Sh.w0 z) (w1 z) (w2 z) (w3 z) _ _ _ _ _ _ _ _ _ _ _ _ _ _ _ _ _ _ _ _ _ _ _ _ _ _ _ _ _ _ _ _ _ _ _ _ _ _ _ _ _ _ _ _ _ _ _ _ _ _ _ _ _ _ _ _ _ _ _ _ _ _ _ _ _ _ _ _ _ _ _ _ _ _ _ _ _ _ _ _ _ _ _ _ _ _ _ _ _ _ _ _ _ _ _ _ _ _ _ _ _ _ _ _ _ _ _ _ _ _ _ _ S00 S01 S02 S03 S10 S11 S12 S13 S20 S21 S22 S23 S30 S31 S32 S33
 have r0 := row_lin2 (Sh.w0 x * Sh.w0 y) (Sh.w0 x * w1 y) (Sh.w0 x * w2 y) (Sh.w0 x * w3 y) (Sh.w0 z) (w1 z) (w2 z) (w3 z) t00 t01 t02 t03 C00 C01 C02 C03 S00.all S01.all S02.all S03.all
 have r1 := row_lin2 (w1 x * Sh.w0 y) (w1 x * w1 y) (w1 x * w2 y) (w1 x * w3 y) t01 t02 t03 C03 t10 t11 t12 t13 C10 C11 C12 C13 S10.all S11.all S12.all S13.all
 have r2 := row_lin2 (w2 x * Sh.w0 y) (w2 x * w1 y) (w2 x * w2 y) (w2 x * w3 y) t11 t12 t13 C13 t20 t21 t22 t23 C20 C21 C22 C23 S20.all S21.all S22.all S23.all
 have r3 := row_lin2 (w3 x * Sh.w0 y) (w3 x * w1 y) (w3 x * w2 y) (w3 x * w3 y) t21 t22 t23 C23 t30 t31 t32 t33 C30 C31 C32 C33 S30.all S31.all S32.all S33.all
 have y0 := qa0 y (Sh.w0 x) hy
 rw [Nat.mul_comm y, Nat.mul_comm (Sh.w0 y), Nat.mul_comm (w1 y), Nat.mul_comm (w2 y), Nat.mul_comm (w3 y)] at y0
 rw [← y0] at r0
 have y1 := qa0 y (w1 x) hy
 rw [Nat.mul_comm y, Nat.mul_comm (Sh.w0 y), Nat.mul_comm (w1 y), Nat.mul_comm (w2 y), Nat.mul_comm (w3 y)] at y1
 rw [← y1] at r1
 have y2 := qa0 y (w2 x) hy
 rw [Nat.mul_comm y, Nat.mul_comm (Sh.w0 y), Nat.mul_comm (w1 y), Nat.mul_comm (w2 y), Nat.mul_comm (w3 y)] at y2
 rw [← y2] at r2
 have y3 := qa0 y (w3 x) hy
 rw [Nat.mul_comm y, Nat.mul_comm (Sh.w0 y), Nat.mul_comm (w1 y), Nat.mul_comm (w2 y), Nat.mul_comm (w3 y)] at y3
 rw [← y3] at r3
 have hz4 := qbr z
 rw [Nat.div_eq_of_lt hz, Nat.zero_mul, Nat.add_zero] at hz4
 rw [← hz4] at r0
 have key := all_lin2 (Sh.w0 x * y) (w1 x * y) (w2 x * y) (w3 x * y) z t00 t01 t02 t03 C03 t10 t11 t12 t13 C13 t20 t21 t22 t23 C23 t30 t31 t32 t33 C33 r0 r1 r2 r3
 rw [← qa0 x y hx] at key
 obtain ⟨f0, f1, f2, f3, f4⟩ := dig4 S00.lt S10.lt S20.lt S30.lt key
 obtain ⟨g0, g1, g2, g3, _⟩ := dig4 (e := 0) S31.lt S32.lt S33.lt S33.lC (by rw [Nat.zero_mul, Nat.add_zero])
 refine Pure.to hc rfl ?_
 unfold num8
 rw [f0, f1, f2, f3, f4, g0, g1, g2, g3]
end Go.Proofs.YtheidgcgdkmmiaaDoor
