/-
  MacBegins: its rounds, evaluated. Own work.
-/
import Derived.Test.YtjdcaipgfolgoaaDoorYg
namespace Go.Proofs.YtjdcaipgfolgoaaDoor
open Go.Sh
open Go.ChangeShapes Go.WideShapes Go.ChangeAt Go.RowKit
set_option maxRecDepth 100000

theorem bg_baf0 : bgP .b .a false 0 = true := by kernel_rfl
theorem bg_baf1 : bgP .b .a false 1 = true := by kernel_rfl
theorem bg_baf2 : bgP .b .a false 2 = true := by kernel_rfl
theorem bg_baf3 : bgP .b .a false 3 = true := by kernel_rfl
theorem bg_baf4 : bgP .b .a false 4 = true := by kernel_rfl
theorem bg_baf5 : bgP .b .a false 5 = true := by kernel_rfl
theorem bg_baf6 : bgP .b .a false 6 = true := by kernel_rfl
theorem bg_baf7 : bgP .b .a false 7 = true := by kernel_rfl
theorem bg_baf8 : bgP .b .a false 8 = true := by kernel_rfl
theorem bg_baf : ∀ i, i < 9 → bgP .b .a false i = true
  | 0, _ => bg_baf0
  | 1, _ => bg_baf1
  | 2, _ => bg_baf2
  | 3, _ => bg_baf3
  | 4, _ => bg_baf4
  | 5, _ => bg_baf5
  | 6, _ => bg_baf6
  | 7, _ => bg_baf7
  | 8, _ => bg_baf8
  | n + 9, h => absurd h (by omega)
theorem bg_bbf0 : bgP .b .b false 0 = true := by kernel_rfl
theorem bg_bbf1 : bgP .b .b false 1 = true := by kernel_rfl
theorem bg_bbf2 : bgP .b .b false 2 = true := by kernel_rfl
theorem bg_bbf3 : bgP .b .b false 3 = true := by kernel_rfl
theorem bg_bbf4 : bgP .b .b false 4 = true := by kernel_rfl
theorem bg_bbf5 : bgP .b .b false 5 = true := by kernel_rfl
theorem bg_bbf6 : bgP .b .b false 6 = true := by kernel_rfl
theorem bg_bbf7 : bgP .b .b false 7 = true := by kernel_rfl
theorem bg_bbf8 : bgP .b .b false 8 = true := by kernel_rfl
theorem bg_bbf : ∀ i, i < 9 → bgP .b .b false i = true
  | 0, _ => bg_bbf0
  | 1, _ => bg_bbf1
  | 2, _ => bg_bbf2
  | 3, _ => bg_bbf3
  | 4, _ => bg_bbf4
  | 5, _ => bg_bbf5
  | 6, _ => bg_bbf6
  | 7, _ => bg_bbf7
  | 8, _ => bg_bbf8
  | n + 9, h => absurd h (by omega)
theorem bg_bcf0 : bgP .b .c false 0 = true := by kernel_rfl
theorem bg_bcf1 : bgP .b .c false 1 = true := by kernel_rfl
theorem bg_bcf2 : bgP .b .c false 2 = true := by kernel_rfl
theorem bg_bcf3 : bgP .b .c false 3 = true := by kernel_rfl
theorem bg_bcf4 : bgP .b .c false 4 = true := by kernel_rfl
theorem bg_bcf5 : bgP .b .c false 5 = true := by kernel_rfl
theorem bg_bcf6 : bgP .b .c false 6 = true := by kernel_rfl
theorem bg_bcf7 : bgP .b .c false 7 = true := by kernel_rfl
theorem bg_bcf8 : bgP .b .c false 8 = true := by kernel_rfl
theorem bg_bcf : ∀ i, i < 9 → bgP .b .c false i = true
  | 0, _ => bg_bcf0
  | 1, _ => bg_bcf1
  | 2, _ => bg_bcf2
  | 3, _ => bg_bcf3
  | 4, _ => bg_bcf4
  | 5, _ => bg_bcf5
  | 6, _ => bg_bcf6
  | 7, _ => bg_bcf7
  | 8, _ => bg_bcf8
  | n + 9, h => absurd h (by omega)
end Go.Proofs.YtjdcaipgfolgoaaDoor
