/-
  OnionHidden: the law, run for each row of bools: more of them. Own work.
-/
import Derived.Test.YtcikcmphnaogbaaDoorOHa
namespace Go.Proofs.YtcikcmphnaogbaaDoor
open Go.Sh
set_option maxRecDepth 100000
theorem lawK_2_0 : lawK 2 0 = true := by kernel_rfl
theorem lawK_2_1 : lawK 2 1 = true := by kernel_rfl
theorem lawK_2_2 : lawK 2 2 = true := by kernel_rfl
theorem lawK_2_3 : lawK 2 3 = true := by kernel_rfl
end Go.Proofs.YtcikcmphnaogbaaDoor
