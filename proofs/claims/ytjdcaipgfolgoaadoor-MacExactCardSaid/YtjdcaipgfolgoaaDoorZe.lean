/-
  The page's Mac: its keys, evaluated. Own work.
-/
import Derived.Test.YtjdcaipgfolgoaaDoorZa
namespace Go.Proofs.YtjdcaipgfolgoaaDoor
open Go.Sh
open Go.ChangeShapes Go.WideShapes Go.ChangeAt Go.RowKit
set_option maxRecDepth 100000

theorem pm_p12 : pmP 12 = true := by kernel_rfl
theorem pm_p13 : pmP 13 = true := by kernel_rfl
theorem pm_p14 : pmP 14 = true := by kernel_rfl
theorem pm_p15 : pmP 15 = true := by kernel_rfl
end Go.Proofs.YtjdcaipgfolgoaaDoor
