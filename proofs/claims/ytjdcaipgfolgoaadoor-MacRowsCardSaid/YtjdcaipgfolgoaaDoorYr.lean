/-
  MacRows: its rounds, evaluated. Own work.
-/
import Derived.Test.YtjdcaipgfolgoaaDoorYn
namespace Go.Proofs.YtjdcaipgfolgoaaDoor
open Go.Sh
open Go.ChangeShapes Go.WideShapes Go.ChangeAt Go.RowKit
set_option maxRecDepth 100000

theorem rw_taa0 : rwP true .a .a 0 = true := by kernel_rfl
theorem rw_taa1 : rwP true .a .a 1 = true := by kernel_rfl
theorem rw_taa2 : rwP true .a .a 2 = true := by kernel_rfl
theorem rw_taa3 : rwP true .a .a 3 = true := by kernel_rfl
theorem rw_taa4 : rwP true .a .a 4 = true := by kernel_rfl
theorem rw_taa5 : rwP true .a .a 5 = true := by kernel_rfl
theorem rw_taa6 : rwP true .a .a 6 = true := by kernel_rfl
theorem rw_taa7 : rwP true .a .a 7 = true := by kernel_rfl
theorem rw_taa : ∀ i, i < 8 → rwP true .a .a i = true
  | 0, _ => rw_taa0
  | 1, _ => rw_taa1
  | 2, _ => rw_taa2
  | 3, _ => rw_taa3
  | 4, _ => rw_taa4
  | 5, _ => rw_taa5
  | 6, _ => rw_taa6
  | 7, _ => rw_taa7
  | n + 8, h => absurd h (by omega)
theorem rw_tab0 : rwP true .a .b 0 = true := by kernel_rfl
theorem rw_tab1 : rwP true .a .b 1 = true := by kernel_rfl
theorem rw_tab2 : rwP true .a .b 2 = true := by kernel_rfl
theorem rw_tab3 : rwP true .a .b 3 = true := by kernel_rfl
theorem rw_tab4 : rwP true .a .b 4 = true := by kernel_rfl
theorem rw_tab5 : rwP true .a .b 5 = true := by kernel_rfl
theorem rw_tab6 : rwP true .a .b 6 = true := by kernel_rfl
theorem rw_tab7 : rwP true .a .b 7 = true := by kernel_rfl
theorem rw_tab : ∀ i, i < 8 → rwP true .a .b i = true
  | 0, _ => rw_tab0
  | 1, _ => rw_tab1
  | 2, _ => rw_tab2
  | 3, _ => rw_tab3
  | 4, _ => rw_tab4
  | 5, _ => rw_tab5
  | 6, _ => rw_tab6
  | 7, _ => rw_tab7
  | n + 8, h => absurd h (by omega)
theorem rw_tac0 : rwP true .a .c 0 = true := by kernel_rfl
theorem rw_tac1 : rwP true .a .c 1 = true := by kernel_rfl
theorem rw_tac2 : rwP true .a .c 2 = true := by kernel_rfl
theorem rw_tac3 : rwP true .a .c 3 = true := by kernel_rfl
theorem rw_tac4 : rwP true .a .c 4 = true := by kernel_rfl
theorem rw_tac5 : rwP true .a .c 5 = true := by kernel_rfl
theorem rw_tac6 : rwP true .a .c 6 = true := by kernel_rfl
theorem rw_tac7 : rwP true .a .c 7 = true := by kernel_rfl
theorem rw_tac : ∀ i, i < 8 → rwP true .a .c i = true
  | 0, _ => rw_tac0
  | 1, _ => rw_tac1
  | 2, _ => rw_tac2
  | 3, _ => rw_tac3
  | 4, _ => rw_tac4
  | 5, _ => rw_tac5
  | 6, _ => rw_tac6
  | 7, _ => rw_tac7
  | n + 8, h => absurd h (by omega)
end Go.Proofs.YtjdcaipgfolgoaaDoor
