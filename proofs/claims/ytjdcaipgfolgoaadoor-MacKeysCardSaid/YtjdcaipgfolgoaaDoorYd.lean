/-
  MacKeys: its rounds, evaluated. Own work.
-/
import Derived.Test.YtjdcaipgfolgoaaDoorYa
namespace Go.Proofs.YtjdcaipgfolgoaaDoor
open Go.Sh
open Go.ChangeShapes Go.WideShapes Go.ChangeAt Go.RowKit
set_option maxRecDepth 100000

theorem ky_cc0 : kyF .c .c 0 = true := by kernel_rfl
theorem ky_cc1 : kyF .c .c 1 = true := by kernel_rfl
theorem ky_cc2 : kyF .c .c 2 = true := by kernel_rfl
theorem ky_cc3 : kyF .c .c 3 = true := by kernel_rfl
theorem ky_cc4 : kyF .c .c 4 = true := by kernel_rfl
theorem ky_cc5 : kyF .c .c 5 = true := by kernel_rfl
theorem ky_cc6 : kyF .c .c 6 = true := by kernel_rfl
theorem ky_cc7 : kyF .c .c 7 = true := by kernel_rfl
theorem ky_cc8 : kyF .c .c 8 = true := by kernel_rfl
theorem ky_cc9 : kyF .c .c 9 = true := by kernel_rfl
theorem ky_cc10 : kyF .c .c 10 = true := by kernel_rfl
theorem ky_cc11 : kyF .c .c 11 = true := by kernel_rfl
theorem ky_cc12 : kyF .c .c 12 = true := by kernel_rfl
theorem ky_cc13 : kyF .c .c 13 = true := by kernel_rfl
theorem ky_cc14 : kyF .c .c 14 = true := by kernel_rfl
theorem ky_cc15 : kyF .c .c 15 = true := by kernel_rfl
theorem ky_cc16 : kyF .c .c 16 = true := by kernel_rfl
theorem ky_cc : ∀ i, i < 17 → kyF .c .c i = true
  | 0, _ => ky_cc0
  | 1, _ => ky_cc1
  | 2, _ => ky_cc2
  | 3, _ => ky_cc3
  | 4, _ => ky_cc4
  | 5, _ => ky_cc5
  | 6, _ => ky_cc6
  | 7, _ => ky_cc7
  | 8, _ => ky_cc8
  | 9, _ => ky_cc9
  | 10, _ => ky_cc10
  | 11, _ => ky_cc11
  | 12, _ => ky_cc12
  | 13, _ => ky_cc13
  | 14, _ => ky_cc14
  | 15, _ => ky_cc15
  | 16, _ => ky_cc16
  | n + 17, h => absurd h (by omega)
end Go.Proofs.YtjdcaipgfolgoaaDoor
