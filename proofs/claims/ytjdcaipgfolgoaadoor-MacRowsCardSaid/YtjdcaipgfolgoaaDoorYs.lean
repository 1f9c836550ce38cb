/-
  MacRows: its rounds, evaluated. Own work.
-/
import Derived.Test.YtjdcaipgfolgoaaDoorYn
namespace Go.Proofs.YtjdcaipgfolgoaaDoor
open Go.Sh
open Go.ChangeShapes Go.WideShapes Go.ChangeAt Go.RowKit
set_option maxRecDepth 100000

theorem rw_tba0 : rwP true .b .a 0 = true := by kernel_rfl
theorem rw_tba1 : rwP true .b .a 1 = true := by kernel_rfl
theorem rw_tba2 : rwP true .b .a 2 = true := by kernel_rfl
theorem rw_tba3 : rwP true .b .a 3 = true := by kernel_rfl
theorem rw_tba4 : rwP true .b .a 4 = true := by kernel_rfl
theorem rw_tba5 : rwP true .b .a 5 = true := by kernel_rfl
theorem rw_tba6 : rwP true .b .a 6 = true := by kernel_rfl
theorem rw_tba7 : rwP true .b .a 7 = true := by kernel_rfl
theorem rw_tba : ∀ i, i < 8 → rwP true .b .a i = true
  | 0, _ => rw_tba0
  | 1, _ => rw_tba1
  | 2, _ => rw_tba2
  | 3, _ => rw_tba3
  | 4, _ => rw_tba4
  | 5, _ => rw_tba5
  | 6, _ => rw_tba6
  | 7, _ => rw_tba7
  | n + 8, h => absurd h (by omega)
theorem rw_tbb0 : rwP true .b .b 0 = true := by kernel_rfl
theorem rw_tbb1 : rwP true .b .b 1 = true := by kernel_rfl
theorem rw_tbb2 : rwP true .b .b 2 = true := by kernel_rfl
theorem rw_tbb3 : rwP true .b .b 3 = true := by kernel_rfl
theorem rw_tbb4 : rwP true .b .b 4 = true := by kernel_rfl
theorem rw_tbb5 : rwP true .b .b 5 = true := by kernel_rfl
theorem rw_tbb6 : rwP true .b .b 6 = true := by kernel_rfl
theorem rw_tbb7 : rwP true .b .b 7 = true := by kernel_rfl
theorem rw_tbb : ∀ i, i < 8 → rwP true .b .b i = true
  | 0, _ => rw_tbb0
  | 1, _ => rw_tbb1
  | 2, _ => rw_tbb2
  | 3, _ => rw_tbb3
  | 4, _ => rw_tbb4
  | 5, _ => rw_tbb5
  | 6, _ => rw_tbb6
  | 7, _ => rw_tbb7
  | n + 8, h => absurd h (by omega)
theorem rw_tbc0 : rwP true .b .c 0 = true := by kernel_rfl
theorem rw_tbc1 : rwP true .b .c 1 = true := by kernel_rfl
theorem rw_tbc2 : rwP true .b .c 2 = true := by kernel_rfl
theorem rw_tbc3 : rwP true .b .c 3 = true := by kernel_rfl
theorem rw_tbc4 : rwP true .b .c 4 = true := by kernel_rfl
theorem rw_tbc5 : rwP true .b .c 5 = true := by kernel_rfl
theorem rw_tbc6 : rwP true .b .c 6 = true := by kernel_rfl
theorem rw_tbc7 : rwP true .b .c 7 = true := by kernel_rfl
theorem rw_tbc : ∀ i, i < 8 → rwP true .b .c i = true
  | 0, _ => rw_tbc0
  | 1, _ => rw_tbc1
  | 2, _ => rw_tbc2
  | 3, _ => rw_tbc3
  | 4, _ => rw_tbc4
  | 5, _ => rw_tbc5
  | 6, _ => rw_tbc6
  | 7, _ => rw_tbc7
  | n + 8, h => absurd h (by omega)
end Go.Proofs.YtjdcaipgfolgoaaDoor
