/-
  The page's Mac: its keys, evaluated. Own work.
-/
import Derived.Test.YtjdcaipgfolgoaaDoorZa
namespace Go.Proofs.YtjdcaipgfolgoaaDoor
open Go.Sh
open Go.ChangeShapes Go.WideShapes Go.ChangeAt Go.RowKit
set_option maxRecDepth 100000

theorem pm_p4 : pmP 4 = true := by kernel_rfl
theorem pm_p5 : pmP 5 = true := by kernel_rfl
theorem pm_p6 : pmP 6 = true := by kernel_rfl
theorem pm_p7 : pmP 7 = true := by kernel_rfl
end Go.Proofs.YtjdcaipgfolgoaaDoor
