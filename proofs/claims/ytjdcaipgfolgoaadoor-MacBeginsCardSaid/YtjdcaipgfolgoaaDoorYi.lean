/-
  MacBegins: its rounds, evaluated. Own work.
-/
import Derived.Test.YtjdcaipgfolgoaaDoorYg
namespace Go.Proofs.YtjdcaipgfolgoaaDoor
open Go.Sh
open Go.ChangeShapes Go.WideShapes Go.ChangeAt Go.RowKit
set_option maxRecDepth 100000

theorem bg_aat0 : bgP .a .a true 0 = true := by kernel_rfl
theorem bg_aat1 : bgP .a .a true 1 = true := by kernel_rfl
theorem bg_aat2 : bgP .a .a true 2 = true := by kernel_rfl
theorem bg_aat3 : bgP .a .a true 3 = true := by kernel_rfl
theorem bg_aat4 : bgP .a .a true 4 = true := by kernel_rfl
theorem bg_aat5 : bgP .a .a true 5 = true := by kernel_rfl
theorem bg_aat6 : bgP .a .a true 6 = true := by kernel_rfl
theorem bg_aat7 : bgP .a .a true 7 = true := by kernel_rfl
theorem bg_aat8 : bgP .a .a true 8 = true := by kernel_rfl
theorem bg_aat : ∀ i, i < 9 → bgP .a .a true i = true
  | 0, _ => bg_aat0
  | 1, _ => bg_aat1
  | 2, _ => bg_aat2
  | 3, _ => bg_aat3
  | 4, _ => bg_aat4
  | 5, _ => bg_aat5
  | 6, _ => bg_aat6
  | 7, _ => bg_aat7
  | 8, _ => bg_aat8
  | n + 9, h => absurd h (by omega)
theorem bg_abt0 : bgP .a .b true 0 = true := by kernel_rfl
theorem bg_abt1 : bgP .a .b true 1 = true := by kernel_rfl
theorem bg_abt2 : bgP .a .b true 2 = true := by kernel_rfl
theorem bg_abt3 : bgP .a .b true 3 = true := by kernel_rfl
theorem bg_abt4 : bgP .a .b true 4 = true := by kernel_rfl
theorem bg_abt5 : bgP .a .b true 5 = true := by kernel_rfl
theorem bg_abt6 : bgP .a .b true 6 = true := by kernel_rfl
theorem bg_abt7 : bgP .a .b true 7 = true := by kernel_rfl
theorem bg_abt8 : bgP .a .b true 8 = true := by kernel_rfl
theorem bg_abt : ∀ i, i < 9 → bgP .a .b true i = true
  | 0, _ => bg_abt0
  | 1, _ => bg_abt1
  | 2, _ => bg_abt2
  | 3, _ => bg_abt3
  | 4, _ => bg_abt4
  | 5, _ => bg_abt5
  | 6, _ => bg_abt6
  | 7, _ => bg_abt7
  | 8, _ => bg_abt8
  | n + 9, h => absurd h (by omega)
theorem bg_act0 : bgP .a .c true 0 = true := by kernel_rfl
theorem bg_act1 : bgP .a .c true 1 = true := by kernel_rfl
theorem bg_act2 : bgP .a .c true 2 = true := by kernel_rfl
theorem bg_act3 : bgP .a .c true 3 = true := by kernel_rfl
theorem bg_act4 : bgP .a .c true 4 = true := by kernel_rfl
theorem bg_act5 : bgP .a .c true 5 = true := by kernel_rfl
theorem bg_act6 : bgP .a .c true 6 = true := by kernel_rfl
theorem bg_act7 : bgP .a .c true 7 = true := by kernel_rfl
theorem bg_act8 : bgP .a .c true 8 = true := by kernel_rfl
theorem bg_act : ∀ i, i < 9 → bgP .a .c true i = true
  | 0, _ => bg_act0
  | 1, _ => bg_act1
  | 2, _ => bg_act2
  | 3, _ => bg_act3
  | 4, _ => bg_act4
  | 5, _ => bg_act5
  | 6, _ => bg_act6
  | 7, _ => bg_act7
  | 8, _ => bg_act8
  | n + 9, h => absurd h (by omega)
end Go.Proofs.YtjdcaipgfolgoaaDoor
