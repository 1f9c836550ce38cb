/-
  OnionHidden: the law, run for each row of bools: more of them. Own work.
-/
import Derived.Test.YtcikcmphnaogbaaDoorOHa
namespace Go.Proofs.YtcikcmphnaogbaaDoor
open Go.Sh
set_option maxRecDepth 100000
theorem lawK_3_0 : lawK 3 0 = true := by kernel_rfl
theorem lawK_3_1 : lawK 3 1 = true := by kernel_rfl
theorem lawK_3_2 : lawK 3 2 = true := by kernel_rfl
theorem lawK_3_3 : lawK 3 3 = true := by kernel_rfl
end Go.Proofs.YtcikcmphnaogbaaDoor
