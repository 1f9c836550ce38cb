/-
  MacRows: its rounds, evaluated. Own work.
-/
import Derived.Test.YtjdcaipgfolgoaaDoorYn
namespace Go.Proofs.YtjdcaipgfolgoaaDoor
open Go.Sh
open Go.ChangeShapes Go.WideShapes Go.ChangeAt Go.RowKit
set_option maxRecDepth 100000

theorem rw_faa0 : rwP false .a .a 0 = true := by kernel_rfl
theorem rw_faa1 : rwP false .a .a 1 = true := by kernel_rfl
theorem rw_faa2 : rwP false .a .a 2 = true := by kernel_rfl
theorem rw_faa3 : rwP false .a .a 3 = true := by kernel_rfl
theorem rw_faa4 : rwP false .a .a 4 = true := by kernel_rfl
theorem rw_faa5 : rwP false .a .a 5 = true := by kernel_rfl
theorem rw_faa6 : rwP false .a .a 6 = true := by kernel_rfl
theorem rw_faa7 : rwP false .a .a 7 = true := by kernel_rfl
theorem rw_faa : ∀ i, i < 8 → rwP false .a .a i = true
  | 0, _ => rw_faa0
  | 1, _ => rw_faa1
  | 2, _ => rw_faa2
  | 3, _ => rw_faa3
  | 4, _ => rw_faa4
  | 5, _ => rw_faa5
  | 6, _ => rw_faa6
  | 7, _ => rw_faa7
  | n + 8, h => absurd h (by omega)
theorem rw_fab0 : rwP false .a .b 0 = true := by kernel_rfl
theorem rw_fab1 : rwP false .a .b 1 = true := by kernel_rfl
theorem rw_fab2 : rwP false .a .b 2 = true := by kernel_rfl
theorem rw_fab3 : rwP false .a .b 3 = true := by kernel_rfl
theorem rw_fab4 : rwP false .a .b 4 = true := by kernel_rfl
theorem rw_fab5 : rwP false .a .b 5 = true := by kernel_rfl
theorem rw_fab6 : rwP false .a .b 6 = true := by kernel_rfl
theorem rw_fab7 : rwP false .a .b 7 = true := by kernel_rfl
theorem rw_fab : ∀ i, i < 8 → rwP false .a .b i = true
  | 0, _ => rw_fab0
  | 1, _ => rw_fab1
  | 2, _ => rw_fab2
  | 3, _ => rw_fab3
  | 4, _ => rw_fab4
  | 5, _ => rw_fab5
  | 6, _ => rw_fab6
  | 7, _ => rw_fab7
  | n + 8, h => absurd h (by omega)
theorem rw_fac0 : rwP false .a .c 0 = true := by kernel_rfl
theorem rw_fac1 : rwP false .a .c 1 = true := by kernel_rfl
theorem rw_fac2 : rwP false .a .c 2 = true := by kernel_rfl
theorem rw_fac3 : rwP false .a .c 3 = true := by kernel_rfl
theorem rw_fac4 : rwP false .a .c 4 = true := by kernel_rfl
theorem rw_fac5 : rwP false .a .c 5 = true := by kernel_rfl
theorem rw_fac6 : rwP false .a .c 6 = true := by kernel_rfl
theorem rw_fac7 : rwP false .a .c 7 = true := by kernel_rfl
theorem rw_fac : ∀ i, i < 8 → rwP false .a .c i = true
  | 0, _ => rw_fac0
  | 1, _ => rw_fac1
  | 2, _ => rw_fac2
  | 3, _ => rw_fac3
  | 4, _ => rw_fac4
  | 5, _ => rw_fac5
  | 6, _ => rw_fac6
  | 7, _ => rw_fac7
  | n + 8, h => absurd h (by omega)
end Go.Proofs.YtjdcaipgfolgoaaDoor
