/-
  MacKeys: its rounds, evaluated. Own work.
-/
import Derived.Test.YtjdcaipgfolgoaaDoorYa
namespace Go.Proofs.YtjdcaipgfolgoaaDoor
open Go.Sh
open Go.ChangeShapes Go.WideShapes Go.ChangeAt Go.RowKit
set_option maxRecDepth 100000

theorem ky_aa0 : kyF .a .a 0 = true := by kernel_rfl
theorem ky_aa1 : kyF .a .a 1 = true := by kernel_rfl
theorem ky_aa2 : kyF .a .a 2 = true := by kernel_rfl
theorem ky_aa3 : kyF .a .a 3 = true := by kernel_rfl
theorem ky_aa4 : kyF .a .a 4 = true := by kernel_rfl
theorem ky_aa5 : kyF .a .a 5 = true := by kernel_rfl
theorem ky_aa6 : kyF .a .a 6 = true := by kernel_rfl
theorem ky_aa7 : kyF .a .a 7 = true := by kernel_rfl
theorem ky_aa8 : kyF .a .a 8 = true := by kernel_rfl
theorem ky_aa9 : kyF .a .a 9 = true := by kernel_rfl
theorem ky_aa10 : kyF .a .a 10 = true := by kernel_rfl
theorem ky_aa11 : kyF .a .a 11 = true := by kernel_rfl
theorem ky_aa12 : kyF .a .a 12 = true := by kernel_rfl
theorem ky_aa13 : kyF .a .a 13 = true := by kernel_rfl
theorem ky_aa14 : kyF .a .a 14 = true := by kernel_rfl
theorem ky_aa15 : kyF .a .a 15 = true := by kernel_rfl
theorem ky_aa16 : kyF .a .a 16 = true := by kernel_rfl
theorem ky_aa : ∀ i, i < 17 → kyF .a .a i = true
  | 0, _ => ky_aa0
  | 1, _ => ky_aa1
  | 2, _ => ky_aa2
  | 3, _ => ky_aa3
  | 4, _ => ky_aa4
  | 5, _ => ky_aa5
  | 6, _ => ky_aa6
  | 7, _ => ky_aa7
  | 8, _ => ky_aa8
  | 9, _ => ky_aa9
  | 10, _ => ky_aa10
  | 11, _ => ky_aa11
  | 12, _ => ky_aa12
  | 13, _ => ky_aa13
  | 14, _ => ky_aa14
  | 15, _ => ky_aa15
  | 16, _ => ky_aa16
  | n + 17, h => absurd h (by omega)
theorem ky_ab0 : kyF .a .b 0 = true := by kernel_rfl
theorem ky_ab1 : kyF .a .b 1 = true := by kernel_rfl
theorem ky_ab2 : kyF .a .b 2 = true := by kernel_rfl
theorem ky_ab3 : kyF .a .b 3 = true := by kernel_rfl
theorem ky_ab4 : kyF .a .b 4 = true := by kernel_rfl
theorem ky_ab5 : kyF .a .b 5 = true := by kernel_rfl
theorem ky_ab6 : kyF .a .b 6 = true := by kernel_rfl
theorem ky_ab7 : kyF .a .b 7 = true := by kernel_rfl
theorem ky_ab8 : kyF .a .b 8 = true := by kernel_rfl
theorem ky_ab9 : kyF .a .b 9 = true := by kernel_rfl
theorem ky_ab10 : kyF .a .b 10 = true := by kernel_rfl
theorem ky_ab11 : kyF .a .b 11 = true := by kernel_rfl
theorem ky_ab12 : kyF .a .b 12 = true := by kernel_rfl
theorem ky_ab13 : kyF .a .b 13 = true := by kernel_rfl
theorem ky_ab14 : kyF .a .b 14 = true := by kernel_rfl
theorem ky_ab15 : kyF .a .b 15 = true := by kernel_rfl
theorem ky_ab16 : kyF .a .b 16 = true := by kernel_rfl
theorem ky_ab : ∀ i, i < 17 → kyF .a .b i = true
  | 0, _ => ky_ab0
  | 1, _ => ky_ab1
  | 2, _ => ky_ab2
  | 3, _ => ky_ab3
  | 4, _ => ky_ab4
  | 5, _ => ky_ab5
  | 6, _ => ky_ab6
  | 7, _ => ky_ab7
  | 8, _ => ky_ab8
  | 9, _ => ky_ab9
  | 10, _ => ky_ab10
  | 11, _ => ky_ab11
  | 12, _ => ky_ab12
  | 13, _ => ky_ab13
  | 14, _ => ky_ab14
  | 15, _ => ky_ab15
  | 16, _ => ky_ab16
  | n + 17, h => absurd h (by omega)
theorem ky_ac0 : kyF .a .c 0 = true := by kernel_rfl
theorem ky_ac1 : kyF .a .c 1 = true := by kernel_rfl
theorem ky_ac2 : kyF .a .c 2 = true := by kernel_rfl
theorem ky_ac3 : kyF .a .c 3 = true := by kernel_rfl
theorem ky_ac4 : kyF .a .c 4 = true := by kernel_rfl
theorem ky_ac5 : kyF .a .c 5 = true := by kernel_rfl
theorem ky_ac6 : kyF .a .c 6 = true := by kernel_rfl
theorem ky_ac7 : kyF .a .c 7 = true := by kernel_rfl
theorem ky_ac8 : kyF .a .c 8 = true := by kernel_rfl
theorem ky_ac9 : kyF .a .c 9 = true := by kernel_rfl
theorem ky_ac10 : kyF .a .c 10 = true := by kernel_rfl
theorem ky_ac11 : kyF .a .c 11 = true := by kernel_rfl
theorem ky_ac12 : kyF .a .c 12 = true := by kernel_rfl
theorem ky_ac13 : kyF .a .c 13 = true := by kernel_rfl
theorem ky_ac14 : kyF .a .c 14 = true := by kernel_rfl
theorem ky_ac15 : kyF .a .c 15 = true := by kernel_rfl
theorem ky_ac16 : kyF .a .c 16 = true := by kernel_rfl
theorem ky_ac : ∀ i, i < 17 → kyF .a .c i = true
  | 0, _ => ky_ac0
  | 1, _ => ky_ac1
  | 2, _ => ky_ac2
  | 3, _ => ky_ac3
  | 4, _ => ky_ac4
  | 5, _ => ky_ac5
  | 6, _ => ky_ac6
  | 7, _ => ky_ac7
  | 8, _ => ky_ac8
  | 9, _ => ky_ac9
  | 10, _ => ky_ac10
  | 11, _ => ky_ac11
  | 12, _ => ky_ac12
  | 13, _ => ky_ac13
  | 14, _ => ky_ac14
  | 15, _ => ky_ac15
  | 16, _ => ky_ac16
  | n + 17, h => absurd h (by omega)
end Go.Proofs.YtjdcaipgfolgoaaDoor
