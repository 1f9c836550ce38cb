/-
  MacKeys: its rounds, evaluated. Own work.
-/
import Derived.Test.YtjdcaipgfolgoaaDoorYa
namespace Go.Proofs.YtjdcaipgfolgoaaDoor
open Go.Sh
open Go.ChangeShapes Go.WideShapes Go.ChangeAt Go.RowKit
set_option maxRecDepth 100000

theorem ky_cb0 : kyF .c .b 0 = true := by kernel_rfl
theorem ky_cb1 : kyF .c .b 1 = true := by kernel_rfl
theorem ky_cb2 : kyF .c .b 2 = true := by kernel_rfl
theorem ky_cb3 : kyF .c .b 3 = true := by kernel_rfl
theorem ky_cb4 : kyF .c .b 4 = true := by kernel_rfl
theorem ky_cb5 : kyF .c .b 5 = true := by kernel_rfl
theorem ky_cb6 : kyF .c .b 6 = true := by kernel_rfl
theorem ky_cb7 : kyF .c .b 7 = true := by kernel_rfl
theorem ky_cb8 : kyF .c .b 8 = true := by kernel_rfl
theorem ky_cb9 : kyF .c .b 9 = true := by kernel_rfl
theorem ky_cb10 : kyF .c .b 10 = true := by kernel_rfl
theorem ky_cb11 : kyF .c .b 11 = true := by kernel_rfl
theorem ky_cb12 : kyF .c .b 12 = true := by kernel_rfl
theorem ky_cb13 : kyF .c .b 13 = true := by kernel_rfl
theorem ky_cb14 : kyF .c .b 14 = true := by kernel_rfl
theorem ky_cb15 : kyF .c .b 15 = true := by kernel_rfl
theorem ky_cb16 : kyF .c .b 16 = true := by kernel_rfl
theorem ky_cb : ∀ i, i < 17 → kyF .c .b i = true
  | 0, _ => ky_cb0
  | 1, _ => ky_cb1
  | 2, _ => ky_cb2
  | 3, _ => ky_cb3
  | 4, _ => ky_cb4
  | 5, _ => ky_cb5
  | 6, _ => ky_cb6
  | 7, _ => ky_cb7
  | 8, _ => ky_cb8
  | 9, _ => ky_cb9
  | 10, _ => ky_cb10
  | 11, _ => ky_cb11
  | 12, _ => ky_cb12
  | 13, _ => ky_cb13
  | 14, _ => ky_cb14
  | 15, _ => ky_cb15
  | 16, _ => ky_cb16
  | n + 17, h => absurd h (by omega)
end Go.Proofs.YtjdcaipgfolgoaaDoor
