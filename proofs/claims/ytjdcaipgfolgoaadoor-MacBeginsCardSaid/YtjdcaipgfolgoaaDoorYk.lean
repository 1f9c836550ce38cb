/-
  MacBegins: its rounds, evaluated. Own work.
-/
import Derived.Test.YtjdcaipgfolgoaaDoorYg
namespace Go.Proofs.YtjdcaipgfolgoaaDoor
open Go.Sh
open Go.ChangeShapes Go.WideShapes Go.ChangeAt Go.RowKit
set_option maxRecDepth 100000

theorem bg_bat0 : bgP .b .a true 0 = true := by kernel_rfl
theorem bg_bat1 : bgP .b .a true 1 = true := by kernel_rfl
theorem bg_bat2 : bgP .b .a true 2 = true := by kernel_rfl
theorem bg_bat3 : bgP .b .a true 3 = true := by kernel_rfl
theorem bg_bat4 : bgP .b .a true 4 = true := by kernel_rfl
theorem bg_bat5 : bgP .b .a true 5 = true := by kernel_rfl
theorem bg_bat6 : bgP .b .a true 6 = true := by kernel_rfl
theorem bg_bat7 : bgP .b .a true 7 = true := by kernel_rfl
theorem bg_bat8 : bgP .b .a true 8 = true := by kernel_rfl
theorem bg_bat : ∀ i, i < 9 → bgP .b .a true i = true
  | 0, _ => bg_bat0
  | 1, _ => bg_bat1
  | 2, _ => bg_bat2
  | 3, _ => bg_bat3
  | 4, _ => bg_bat4
  | 5, _ => bg_bat5
  | 6, _ => bg_bat6
  | 7, _ => bg_bat7
  | 8, _ => bg_bat8
  | n + 9, h => absurd h (by omega)
theorem bg_bbt0 : bgP .b .b true 0 = true := by kernel_rfl
theorem bg_bbt1 : bgP .b .b true 1 = true := by kernel_rfl
theorem bg_bbt2 : bgP .b .b true 2 = true := by kernel_rfl
theorem bg_bbt3 : bgP .b .b true 3 = true := by kernel_rfl
theorem bg_bbt4 : bgP .b .b true 4 = true := by kernel_rfl
theorem bg_bbt5 : bgP .b .b true 5 = true := by kernel_rfl
theorem bg_bbt6 : bgP .b .b true 6 = true := by kernel_rfl
theorem bg_bbt7 : bgP .b .b true 7 = true := by kernel_rfl
theorem bg_bbt8 : bgP .b .b true 8 = true := by kernel_rfl
theorem bg_bbt : ∀ i, i < 9 → bgP .b .b true i = true
  | 0, _ => bg_bbt0
  | 1, _ => bg_bbt1
  | 2, _ => bg_bbt2
  | 3, _ => bg_bbt3
  | 4, _ => bg_bbt4
  | 5, _ => bg_bbt5
  | 6, _ => bg_bbt6
  | 7, _ => bg_bbt7
  | 8, _ => bg_bbt8
  | n + 9, h => absurd h (by omega)
theorem bg_bct0 : bgP .b .c true 0 = true := by kernel_rfl
theorem bg_bct1 : bgP .b .c true 1 = true := by kernel_rfl
theorem bg_bct2 : bgP .b .c true 2 = true := by kernel_rfl
theorem bg_bct3 : bgP .b .c true 3 = true := by kernel_rfl
theorem bg_bct4 : bgP .b .c true 4 = true := by kernel_rfl
theorem bg_bct5 : bgP .b .c true 5 = true := by kernel_rfl
theorem bg_bct6 : bgP .b .c true 6 = true := by kernel_rfl
theorem bg_bct7 : bgP .b .c true 7 = true := by kernel_rfl
theorem bg_bct8 : bgP .b .c true 8 = true := by kernel_rfl
theorem bg_bct : ∀ i, i < 9 → bgP .b .c true i = true
  | 0, _ => bg_bct0
  | 1, _ => bg_bct1
  | 2, _ => bg_bct2
  | 3, _ => bg_bct3
  | 4, _ => bg_bct4
  | 5, _ => bg_bct5
  | 6, _ => bg_bct6
  | 7, _ => bg_bct7
  | 8, _ => bg_bct8
  | n + 9, h => absurd h (by omega)
end Go.Proofs.YtjdcaipgfolgoaaDoor
