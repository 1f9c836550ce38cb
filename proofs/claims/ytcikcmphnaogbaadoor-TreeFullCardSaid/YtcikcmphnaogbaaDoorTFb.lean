/-
  TreeFull: the law, run for each number of clients: more of them. Own work.
-/
import Derived.Test.YtcikcmphnaogbaaDoorTFa
namespace Go.Proofs.YtcikcmphnaogbaaDoor
open Go.Sh
set_option maxRecDepth 100000
theorem lawT_4 : lawT 4 = true := by kernel_rfl
theorem lawT_5 : lawT 5 = true := by kernel_rfl
end Go.Proofs.YtcikcmphnaogbaaDoor
