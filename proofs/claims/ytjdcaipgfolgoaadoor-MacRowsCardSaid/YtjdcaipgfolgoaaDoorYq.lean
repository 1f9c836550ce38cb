/-
  MacRows: its rounds, evaluated. Own work.
-/
import Derived.Test.YtjdcaipgfolgoaaDoorYn
namespace Go.Proofs.YtjdcaipgfolgoaaDoor
open Go.Sh
open Go.ChangeShapes Go.WideShapes Go.ChangeAt Go.RowKit
set_option maxRecDepth 100000

theorem rw_fca0 : rwP false .c .a 0 = true := by kernel_rfl
theorem rw_fca1 : rwP false .c .a 1 = true := by kernel_rfl
theorem rw_fca2 : rwP false .c .a 2 = true := by kernel_rfl
theorem rw_fca3 : rwP false .c .a 3 = true := by kernel_rfl
theorem rw_fca4 : rwP false .c .a 4 = true := by kernel_rfl
theorem rw_fca5 : rwP false .c .a 5 = true := by kernel_rfl
theorem rw_fca6 : rwP false .c .a 6 = true := by kernel_rfl
theorem rw_fca7 : rwP false .c .a 7 = true := by kernel_rfl
theorem rw_fca : ∀ i, i < 8 → rwP false .c .a i = true
  | 0, _ => rw_fca0
  | 1, _ => rw_fca1
  | 2, _ => rw_fca2
  | 3, _ => rw_fca3
  | 4, _ => rw_fca4
  | 5, _ => rw_fca5
  | 6, _ => rw_fca6
  | 7, _ => rw_fca7
  | n + 8, h => absurd h (by omega)
theorem rw_fcb0 : rwP false .c .b 0 = true := by kernel_rfl
theorem rw_fcb1 : rwP false .c .b 1 = true := by kernel_rfl
theorem rw_fcb2 : rwP false .c .b 2 = true := by kernel_rfl
theorem rw_fcb3 : rwP false .c .b 3 = true := by kernel_rfl
theorem rw_fcb4 : rwP false .c .b 4 = true := by kernel_rfl
theorem rw_fcb5 : rwP false .c .b 5 = true := by kernel_rfl
theorem rw_fcb6 : rwP false .c .b 6 = true := by kernel_rfl
theorem rw_fcb7 : rwP false .c .b 7 = true := by kernel_rfl
theorem rw_fcb : ∀ i, i < 8 → rwP false .c .b i = true
  | 0, _ => rw_fcb0
  | 1, _ => rw_fcb1
  | 2, _ => rw_fcb2
  | 3, _ => rw_fcb3
  | 4, _ => rw_fcb4
  | 5, _ => rw_fcb5
  | 6, _ => rw_fcb6
  | 7, _ => rw_fcb7
  | n + 8, h => absurd h (by omega)
theorem rw_fcc0 : rwP false .c .c 0 = true := by kernel_rfl
theorem rw_fcc1 : rwP false .c .c 1 = true := by kernel_rfl
theorem rw_fcc2 : rwP false .c .c 2 = true := by kernel_rfl
theorem rw_fcc3 : rwP false .c .c 3 = true := by kernel_rfl
theorem rw_fcc4 : rwP false .c .c 4 = true := by kernel_rfl
theorem rw_fcc5 : rwP false .c .c 5 = true := by kernel_rfl
theorem rw_fcc6 : rwP false .c .c 6 = true := by kernel_rfl
theorem rw_fcc7 : rwP false .c .c 7 = true := by kernel_rfl
theorem rw_fcc : ∀ i, i < 8 → rwP false .c .c i = true
  | 0, _ => rw_fcc0
  | 1, _ => rw_fcc1
  | 2, _ => rw_fcc2
  | 3, _ => rw_fcc3
  | 4, _ => rw_fcc4
  | 5, _ => rw_fcc5
  | 6, _ => rw_fcc6
  | 7, _ => rw_fcc7
  | n + 8, h => absurd h (by omega)
end Go.Proofs.YtjdcaipgfolgoaaDoor
