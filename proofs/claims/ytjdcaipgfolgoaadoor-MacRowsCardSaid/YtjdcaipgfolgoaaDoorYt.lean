/-
  MacRows: its rounds, evaluated. Own work.
-/
import Derived.Test.YtjdcaipgfolgoaaDoorYn
namespace Go.Proofs.YtjdcaipgfolgoaaDoor
open Go.Sh
open Go.ChangeShapes Go.WideShapes Go.ChangeAt Go.RowKit
set_option maxRecDepth 100000

theorem rw_tca0 : rwP true .c .a 0 = true := by kernel_rfl
theorem rw_tca1 : rwP true .c .a 1 = true := by kernel_rfl
theorem rw_tca2 : rwP true .c .a 2 = true := by kernel_rfl
theorem rw_tca3 : rwP true .c .a 3 = true := by kernel_rfl
theorem rw_tca4 : rwP true .c .a 4 = true := by kernel_rfl
theorem rw_tca5 : rwP true .c .a 5 = true := by kernel_rfl
theorem rw_tca6 : rwP true .c .a 6 = true := by kernel_rfl
theorem rw_tca7 : rwP true .c .a 7 = true := by kernel_rfl
theorem rw_tca : ∀ i, i < 8 → rwP true .c .a i = true
  | 0, _ => rw_tca0
  | 1, _ => rw_tca1
  | 2, _ => rw_tca2
  | 3, _ => rw_tca3
  | 4, _ => rw_tca4
  | 5, _ => rw_tca5
  | 6, _ => rw_tca6
  | 7, _ => rw_tca7
  | n + 8, h => absurd h (by omega)
theorem rw_tcb0 : rwP true .c .b 0 = true := by kernel_rfl
theorem rw_tcb1 : rwP true .c .b 1 = true := by kernel_rfl
theorem rw_tcb2 : rwP true .c .b 2 = true := by kernel_rfl
theorem rw_tcb3 : rwP true .c .b 3 = true := by kernel_rfl
theorem rw_tcb4 : rwP true .c .b 4 = true := by kernel_rfl
theorem rw_tcb5 : rwP true .c .b 5 = true := by kernel_rfl
theorem rw_tcb6 : rwP true .c .b 6 = true := by kernel_rfl
theorem rw_tcb7 : rwP true .c .b 7 = true := by kernel_rfl
theorem rw_tcb : ∀ i, i < 8 → rwP true .c .b i = true
  | 0, _ => rw_tcb0
  | 1, _ => rw_tcb1
  | 2, _ => rw_tcb2
  | 3, _ => rw_tcb3
  | 4, _ => rw_tcb4
  | 5, _ => rw_tcb5
  | 6, _ => rw_tcb6
  | 7, _ => rw_tcb7
  | n + 8, h => absurd h (by omega)
theorem rw_tcc0 : rwP true .c .c 0 = true := by kernel_rfl
theorem rw_tcc1 : rwP true .c .c 1 = true := by kernel_rfl
theorem rw_tcc2 : rwP true .c .c 2 = true := by kernel_rfl
theorem rw_tcc3 : rwP true .c .c 3 = true := by kernel_rfl
theorem rw_tcc4 : rwP true .c .c 4 = true := by kernel_rfl
theorem rw_tcc5 : rwP true .c .c 5 = true := by kernel_rfl
theorem rw_tcc6 : rwP true .c .c 6 = true := by kernel_rfl
theorem rw_tcc7 : rwP true .c .c 7 = true := by kernel_rfl
theorem rw_tcc : ∀ i, i < 8 → rwP true .c .c i = true
  | 0, _ => rw_tcc0
  | 1, _ => rw_tcc1
  | 2, _ => rw_tcc2
  | 3, _ => rw_tcc3
  | 4, _ => rw_tcc4
  | 5, _ => rw_tcc5
  | 6, _ => rw_tcc6
  | 7, _ => rw_tcc7
  | n + 8, h => absurd h (by omega)
end Go.Proofs.YtjdcaipgfolgoaaDoor
