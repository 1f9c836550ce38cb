/-
  MacBegins: its rounds, evaluated. Own work.
-/
import Derived.Test.YtjdcaipgfolgoaaDoorYg
namespace Go.Proofs.YtjdcaipgfolgoaaDoor
open Go.Sh
open Go.ChangeShapes Go.WideShapes Go.ChangeAt Go.RowKit
set_option maxRecDepth 100000

theorem bg_cat0 : bgP .c .a true 0 = true := by kernel_rfl
theorem bg_cat1 : bgP .c .a true 1 = true := by kernel_rfl
theorem bg_cat2 : bgP .c .a true 2 = true := by kernel_rfl
theorem bg_cat3 : bgP .c .a true 3 = true := by kernel_rfl
theorem bg_cat4 : bgP .c .a true 4 = true := by kernel_rfl
theorem bg_cat5 : bgP .c .a true 5 = true := by kernel_rfl
theorem bg_cat6 : bgP .c .a true 6 = true := by kernel_rfl
theorem bg_cat7 : bgP .c .a true 7 = true := by kernel_rfl
theorem bg_cat8 : bgP .c .a true 8 = true := by kernel_rfl
theorem bg_cat : ∀ i, i < 9 → bgP .c .a true i = true
  | 0, _ => bg_cat0
  | 1, _ => bg_cat1
  | 2, _ => bg_cat2
  | 3, _ => bg_cat3
  | 4, _ => bg_cat4
  | 5, _ => bg_cat5
  | 6, _ => bg_cat6
  | 7, _ => bg_cat7
  | 8, _ => bg_cat8
  | n + 9, h => absurd h (by omega)
theorem bg_cbt0 : bgP .c .b true 0 = true := by kernel_rfl
theorem bg_cbt1 : bgP .c .b true 1 = true := by kernel_rfl
theorem bg_cbt2 : bgP .c .b true 2 = true := by kernel_rfl
theorem bg_cbt3 : bgP .c .b true 3 = true := by kernel_rfl
theorem bg_cbt4 : bgP .c .b true 4 = true := by kernel_rfl
theorem bg_cbt5 : bgP .c .b true 5 = true := by kernel_rfl
theorem bg_cbt6 : bgP .c .b true 6 = true := by kernel_rfl
theorem bg_cbt7 : bgP .c .b true 7 = true := by kernel_rfl
theorem bg_cbt8 : bgP .c .b true 8 = true := by kernel_rfl
theorem bg_cbt : ∀ i, i < 9 → bgP .c .b true i = true
  | 0, _ => bg_cbt0
  | 1, _ => bg_cbt1
  | 2, _ => bg_cbt2
  | 3, _ => bg_cbt3
  | 4, _ => bg_cbt4
  | 5, _ => bg_cbt5
  | 6, _ => bg_cbt6
  | 7, _ => bg_cbt7
  | 8, _ => bg_cbt8
  | n + 9, h => absurd h (by omega)
theorem bg_cct0 : bgP .c .c true 0 = true := by kernel_rfl
theorem bg_cct1 : bgP .c .c true 1 = true := by kernel_rfl
theorem bg_cct2 : bgP .c .c true 2 = true := by kernel_rfl
theorem bg_cct3 : bgP .c .c true 3 = true := by kernel_rfl
theorem bg_cct4 : bgP .c .c true 4 = true := by kernel_rfl
theorem bg_cct5 : bgP .c .c true 5 = true := by kernel_rfl
theorem bg_cct6 : bgP .c .c true 6 = true := by kernel_rfl
theorem bg_cct7 : bgP .c .c true 7 = true := by kernel_rfl
theorem bg_cct8 : bgP .c .c true 8 = true := by kernel_rfl
theorem bg_cct : ∀ i, i < 9 → bgP .c .c true i = true
  | 0, _ => bg_cct0
  | 1, _ => bg_cct1
  | 2, _ => bg_cct2
  | 3, _ => bg_cct3
  | 4, _ => bg_cct4
  | 5, _ => bg_cct5
  | 6, _ => bg_cct6
  | 7, _ => bg_cct7
  | 8, _ => bg_cct8
  | n + 9, h => absurd h (by omega)
end Go.Proofs.YtjdcaipgfolgoaaDoor
