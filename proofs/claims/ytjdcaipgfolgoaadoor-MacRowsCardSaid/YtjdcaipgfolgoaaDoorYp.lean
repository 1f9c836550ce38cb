/-
  MacRows: its rounds, evaluated. Own work.
-/
import Derived.Test.YtjdcaipgfolgoaaDoorYn
namespace Go.Proofs.YtjdcaipgfolgoaaDoor
open Go.Sh
open Go.ChangeShapes Go.WideShapes Go.ChangeAt Go.RowKit
set_option maxRecDepth 100000

theorem rw_fba0 : rwP false .b .a 0 = true := by kernel_rfl
theorem rw_fba1 : rwP false .b .a 1 = true := by kernel_rfl
theorem rw_fba2 : rwP false .b .a 2 = true := by kernel_rfl
theorem rw_fba3 : rwP false .b .a 3 = true := by kernel_rfl
theorem rw_fba4 : rwP false .b .a 4 = true := by kernel_rfl
theorem rw_fba5 : rwP false .b .a 5 = true := by kernel_rfl
theorem rw_fba6 : rwP false .b .a 6 = true := by kernel_rfl
theorem rw_fba7 : rwP false .b .a 7 = true := by kernel_rfl
theorem rw_fba : ∀ i, i < 8 → rwP false .b .a i = true
  | 0, _ => rw_fba0
  | 1, _ => rw_fba1
  | 2, _ => rw_fba2
  | 3, _ => rw_fba3
  | 4, _ => rw_fba4
  | 5, _ => rw_fba5
  | 6, _ => rw_fba6
  | 7, _ => rw_fba7
  | n + 8, h => absurd h (by omega)
theorem rw_fbb0 : rwP false .b .b 0 = true := by kernel_rfl
theorem rw_fbb1 : rwP false .b .b 1 = true := by kernel_rfl
theorem rw_fbb2 : rwP false .b .b 2 = true := by kernel_rfl
theorem rw_fbb3 : rwP false .b .b 3 = true := by kernel_rfl
theorem rw_fbb4 : rwP false .b .b 4 = true := by kernel_rfl
theorem rw_fbb5 : rwP false .b .b 5 = true := by kernel_rfl
theorem rw_fbb6 : rwP false .b .b 6 = true := by kernel_rfl
theorem rw_fbb7 : rwP false .b .b 7 = true := by kernel_rfl
theorem rw_fbb : ∀ i, i < 8 → rwP false .b .b i = true
  | 0, _ => rw_fbb0
  | 1, _ => rw_fbb1
  | 2, _ => rw_fbb2
  | 3, _ => rw_fbb3
  | 4, _ => rw_fbb4
  | 5, _ => rw_fbb5
  | 6, _ => rw_fbb6
  | 7, _ => rw_fbb7
  | n + 8, h => absurd h (by omega)
theorem rw_fbc0 : rwP false .b .c 0 = true := by kernel_rfl
theorem rw_fbc1 : rwP false .b .c 1 = true := by kernel_rfl
theorem rw_fbc2 : rwP false .b .c 2 = true := by kernel_rfl
theorem rw_fbc3 : rwP false .b .c 3 = true := by kernel_rfl
theorem rw_fbc4 : rwP false .b .c 4 = true := by kernel_rfl
theorem rw_fbc5 : rwP false .b .c 5 = true := by kernel_rfl
theorem rw_fbc6 : rwP false .b .c 6 = true := by kernel_rfl
theorem rw_fbc7 : rwP false .b .c 7 = true := by kernel_rfl
theorem rw_fbc : ∀ i, i < 8 → rwP false .b .c i = true
  | 0, _ => rw_fbc0
  | 1, _ => rw_fbc1
  | 2, _ => rw_fbc2
  | 3, _ => rw_fbc3
  | 4, _ => rw_fbc4
  | 5, _ => rw_fbc5
  | 6, _ => rw_fbc6
  | 7, _ => rw_fbc7
  | n + 8, h => absurd h (by omega)
end Go.Proofs.YtjdcaipgfolgoaaDoor
