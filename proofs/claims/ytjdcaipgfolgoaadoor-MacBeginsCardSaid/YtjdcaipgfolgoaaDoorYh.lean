/-
  MacBegins: its rounds, evaluated. Own work.
-/
import Derived.Test.YtjdcaipgfolgoaaDoorYg
namespace Go.Proofs.YtjdcaipgfolgoaaDoor
open Go.Sh
open Go.ChangeShapes Go.WideShapes Go.ChangeAt Go.RowKit
set_option maxRecDepth 100000

theorem bg_aaf0 : bgP .a .a false 0 = true := by kernel_rfl
theorem bg_aaf1 : bgP .a .a false 1 = true := by kernel_rfl
theorem bg_aaf2 : bgP .a .a false 2 = true := by kernel_rfl
theorem bg_aaf3 : bgP .a .a false 3 = true := by kernel_rfl
theorem bg_aaf4 : bgP .a .a false 4 = true := by kernel_rfl
theorem bg_aaf5 : bgP .a .a false 5 = true := by kernel_rfl
theorem bg_aaf6 : bgP .a .a false 6 = true := by kernel_rfl
theorem bg_aaf7 : bgP .a .a false 7 = true := by kernel_rfl
theorem bg_aaf8 : bgP .a .a false 8 = true := by kernel_rfl
theorem bg_aaf : ∀ i, i < 9 → bgP .a .a false i = true
  | 0, _ => bg_aaf0
  | 1, _ => bg_aaf1
  | 2, _ => bg_aaf2
  | 3, _ => bg_aaf3
  | 4, _ => bg_aaf4
  | 5, _ => bg_aaf5
  | 6, _ => bg_aaf6
  | 7, _ => bg_aaf7
  | 8, _ => bg_aaf8
  | n + 9, h => absurd h (by omega)
theorem bg_abf0 : bgP .a .b false 0 = true := by kernel_rfl
theorem bg_abf1 : bgP .a .b false 1 = true := by kernel_rfl
theorem bg_abf2 : bgP .a .b false 2 = true := by kernel_rfl
theorem bg_abf3 : bgP .a .b false 3 = true := by kernel_rfl
theorem bg_abf4 : bgP .a .b false 4 = true := by kernel_rfl
theorem bg_abf5 : bgP .a .b false 5 = true := by kernel_rfl
theorem bg_abf6 : bgP .a .b false 6 = true := by kernel_rfl
theorem bg_abf7 : bgP .a .b false 7 = true := by kernel_rfl
theorem bg_abf8 : bgP .a .b false 8 = true := by kernel_rfl
theorem bg_abf : ∀ i, i < 9 → bgP .a .b false i = true
  | 0, _ => bg_abf0
  | 1, _ => bg_abf1
  | 2, _ => bg_abf2
  | 3, _ => bg_abf3
  | 4, _ => bg_abf4
  | 5, _ => bg_abf5
  | 6, _ => bg_abf6
  | 7, _ => bg_abf7
  | 8, _ => bg_abf8
  | n + 9, h => absurd h (by omega)
theorem bg_acf0 : bgP .a .c false 0 = true := by kernel_rfl
theorem bg_acf1 : bgP .a .c false 1 = true := by kernel_rfl
theorem bg_acf2 : bgP .a .c false 2 = true := by kernel_rfl
theorem bg_acf3 : bgP .a .c false 3 = true := by kernel_rfl
theorem bg_acf4 : bgP .a .c false 4 = true := by kernel_rfl
theorem bg_acf5 : bgP .a .c false 5 = true := by kernel_rfl
theorem bg_acf6 : bgP .a .c false 6 = true := by kernel_rfl
theorem bg_acf7 : bgP .a .c false 7 = true := by kernel_rfl
theorem bg_acf8 : bgP .a .c false 8 = true := by kernel_rfl
theorem bg_acf : ∀ i, i < 9 → bgP .a .c false i = true
  | 0, _ => bg_acf0
  | 1, _ => bg_acf1
  | 2, _ => bg_acf2
  | 3, _ => bg_acf3
  | 4, _ => bg_acf4
  | 5, _ => bg_acf5
  | 6, _ => bg_acf6
  | 7, _ => bg_acf7
  | 8, _ => bg_acf8
  | n + 9, h => absurd h (by omega)
end Go.Proofs.YtjdcaipgfolgoaaDoor
