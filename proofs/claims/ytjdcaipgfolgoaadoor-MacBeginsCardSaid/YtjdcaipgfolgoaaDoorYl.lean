/-
  MacBegins: its rounds, evaluated. Own work.
-/
import Derived.Test.YtjdcaipgfolgoaaDoorYg
namespace Go.Proofs.YtjdcaipgfolgoaaDoor
open Go.Sh
open Go.ChangeShapes Go.WideShapes Go.ChangeAt Go.RowKit
set_option maxRecDepth 100000

theorem bg_caf0 : bgP .c .a false 0 = true := by kernel_rfl
theorem bg_caf1 : bgP .c .a false 1 = true := by kernel_rfl
theorem bg_caf2 : bgP .c .a false 2 = true := by kernel_rfl
theorem bg_caf3 : bgP .c .a false 3 = true := by kernel_rfl
theorem bg_caf4 : bgP .c .a false 4 = true := by kernel_rfl
theorem bg_caf5 : bgP .c .a false 5 = true := by kernel_rfl
theorem bg_caf6 : bgP .c .a false 6 = true := by kernel_rfl
theorem bg_caf7 : bgP .c .a false 7 = true := by kernel_rfl
theorem bg_caf8 : bgP .c .a false 8 = true := by kernel_rfl
theorem bg_caf : ∀ i, i < 9 → bgP .c .a false i = true
  | 0, _ => bg_caf0
  | 1, _ => bg_caf1
  | 2, _ => bg_caf2
  | 3, _ => bg_caf3
  | 4, _ => bg_caf4
  | 5, _ => bg_caf5
  | 6, _ => bg_caf6
  | 7, _ => bg_caf7
  | 8, _ => bg_caf8
  | n + 9, h => absurd h (by omega)
theorem bg_cbf0 : bgP .c .b false 0 = true := by kernel_rfl
theorem bg_cbf1 : bgP .c .b false 1 = true := by kernel_rfl
theorem bg_cbf2 : bgP .c .b false 2 = true := by kernel_rfl
theorem bg_cbf3 : bgP .c .b false 3 = true := by kernel_rfl
theorem bg_cbf4 : bgP .c .b false 4 = true := by kernel_rfl
theorem bg_cbf5 : bgP .c .b false 5 = true := by kernel_rfl
theorem bg_cbf6 : bgP .c .b false 6 = true := by kernel_rfl
theorem bg_cbf7 : bgP .c .b false 7 = true := by kernel_rfl
theorem bg_cbf8 : bgP .c .b false 8 = true := by kernel_rfl
theorem bg_cbf : ∀ i, i < 9 → bgP .c .b false i = true
  | 0, _ => bg_cbf0
  | 1, _ => bg_cbf1
  | 2, _ => bg_cbf2
  | 3, _ => bg_cbf3
  | 4, _ => bg_cbf4
  | 5, _ => bg_cbf5
  | 6, _ => bg_cbf6
  | 7, _ => bg_cbf7
  | 8, _ => bg_cbf8
  | n + 9, h => absurd h (by omega)
theorem bg_ccf0 : bgP .c .c false 0 = true := by kernel_rfl
theorem bg_ccf1 : bgP .c .c false 1 = true := by kernel_rfl
theorem bg_ccf2 : bgP .c .c false 2 = true := by kernel_rfl
theorem bg_ccf3 : bgP .c .c false 3 = true := by kernel_rfl
theorem bg_ccf4 : bgP .c .c false 4 = true := by kernel_rfl
theorem bg_ccf5 : bgP .c .c false 5 = true := by kernel_rfl
theorem bg_ccf6 : bgP .c .c false 6 = true := by kernel_rfl
theorem bg_ccf7 : bgP .c .c false 7 = true := by kernel_rfl
theorem bg_ccf8 : bgP .c .c false 8 = true := by kernel_rfl
theorem bg_ccf : ∀ i, i < 9 → bgP .c .c false i = true
  | 0, _ => bg_ccf0
  | 1, _ => bg_ccf1
  | 2, _ => bg_ccf2
  | 3, _ => bg_ccf3
  | 4, _ => bg_ccf4
  | 5, _ => bg_ccf5
  | 6, _ => bg_ccf6
  | 7, _ => bg_ccf7
  | 8, _ => bg_ccf8
  | n + 9, h => absurd h (by omega)
end Go.Proofs.YtjdcaipgfolgoaaDoor
