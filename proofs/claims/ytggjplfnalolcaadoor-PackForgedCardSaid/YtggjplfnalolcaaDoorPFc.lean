/-
  PackForged: the law, run: case 0. Own work.
-/
import Derived.Test.YtggjplfnalolcaaDoorPFa
namespace Go.Proofs.YtggjplfnalolcaaDoor
open Go.Sh
set_option maxRecDepth 100000
theorem pf_go0 : saysB (pfW [(.eql, whA, nC 0, true)]) tree [] glE [wkR] pfM [] 64 400 40 3 [iS 0, iS 1, iS 2, iS 3] (.b true) = true := by kernel_rfl
end Go.Proofs.YtggjplfnalolcaaDoor
