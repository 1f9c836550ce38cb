/-
  MacKeys: its rounds, evaluated. Own work.
-/
import Derived.Test.YtjdcaipgfolgoaaDoorYa
namespace Go.Proofs.YtjdcaipgfolgoaaDoor
open Go.Sh
open Go.ChangeShapes Go.WideShapes Go.ChangeAt Go.RowKit
set_option maxRecDepth 100000

theorem ky_ca0 : kyF .c .a 0 = true := by kernel_rfl
theorem ky_ca1 : kyF .c .a 1 = true := by kernel_rfl
theorem ky_ca2 : kyF .c .a 2 = true := by kernel_rfl
theorem ky_ca3 : kyF .c .a 3 = true := by kernel_rfl
theorem ky_ca4 : kyF .c .a 4 = true := by kernel_rfl
theorem ky_ca5 : kyF .c .a 5 = true := by kernel_rfl
theorem ky_ca6 : kyF .c .a 6 = true := by kernel_rfl
theorem ky_ca7 : kyF .c .a 7 = true := by kernel_rfl
theorem ky_ca8 : kyF .c .a 8 = true := by kernel_rfl
theorem ky_ca9 : kyF .c .a 9 = true := by kernel_rfl
theorem ky_ca10 : kyF .c .a 10 = true := by kernel_rfl
theorem ky_ca11 : kyF .c .a 11 = true := by kernel_rfl
theorem ky_ca12 : kyF .c .a 12 = true := by kernel_rfl
theorem ky_ca13 : kyF .c .a 13 = true := by kernel_rfl
theorem ky_ca14 : kyF .c .a 14 = true := by kernel_rfl
theorem ky_ca15 : kyF .c .a 15 = true := by kernel_rfl
theorem ky_ca16 : kyF .c .a 16 = true := by kernel_rfl
theorem ky_ca : ∀ i, i < 17 → kyF .c .a i = true
  | 0, _ => ky_ca0
  | 1, _ => ky_ca1
  | 2, _ => ky_ca2
  | 3, _ => ky_ca3
  | 4, _ => ky_ca4
  | 5, _ => ky_ca5
  | 6, _ => ky_ca6
  | 7, _ => ky_ca7
  | 8, _ => ky_ca8
  | 9, _ => ky_ca9
  | 10, _ => ky_ca10
  | 11, _ => ky_ca11
  | 12, _ => ky_ca12
  | 13, _ => ky_ca13
  | 14, _ => ky_ca14
  | 15, _ => ky_ca15
  | 16, _ => ky_ca16
  | n + 17, h => absurd h (by omega)
end Go.Proofs.YtjdcaipgfolgoaaDoor
