/-
  The page's Mac: its keys, evaluated. Own work.
-/
import Derived.Test.YtjdcaipgfolgoaaDoorZa
namespace Go.Proofs.YtjdcaipgfolgoaaDoor
open Go.Sh
open Go.ChangeShapes Go.WideShapes Go.ChangeAt Go.RowKit
set_option maxRecDepth 100000

theorem pm_p8 : pmP 8 = true := by kernel_rfl
theorem pm_p9 : pmP 9 = true := by kernel_rfl
theorem pm_p10 : pmP 10 = true := by kernel_rfl
theorem pm_p11 : pmP 11 = true := by kernel_rfl
end Go.Proofs.YtjdcaipgfolgoaaDoor
