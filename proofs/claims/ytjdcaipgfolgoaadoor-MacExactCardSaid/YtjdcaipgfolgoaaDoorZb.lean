/-
  The page's Mac: its keys, evaluated. Own work.
-/
import Derived.Test.YtjdcaipgfolgoaaDoorZa
namespace Go.Proofs.YtjdcaipgfolgoaaDoor
open Go.Sh
open Go.ChangeShapes Go.WideShapes Go.ChangeAt Go.RowKit
set_option maxRecDepth 100000

theorem pm_p0 : pmP 0 = true := by kernel_rfl
theorem pm_p1 : pmP 1 = true := by kernel_rfl
theorem pm_p2 : pmP 2 = true := by kernel_rfl
theorem pm_p3 : pmP 3 = true := by kernel_rfl
end Go.Proofs.YtjdcaipgfolgoaaDoor
