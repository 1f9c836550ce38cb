/-
  TreeFull: the law, run for each number of clients: more of them. Own work.
-/
import Derived.Test.YtcikcmphnaogbaaDoorTFa
namespace Go.Proofs.YtcikcmphnaogbaaDoor
open Go.Sh
set_option maxRecDepth 100000
theorem lawT_6 : lawT 6 = true := by kernel_rfl
end Go.Proofs.YtcikcmphnaogbaaDoor
