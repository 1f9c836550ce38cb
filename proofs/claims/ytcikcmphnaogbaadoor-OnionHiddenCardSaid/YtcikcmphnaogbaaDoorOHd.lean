/-
  OnionHidden: the law, run for each row of bools: more of them. Own work.
-/
import Derived.Test.YtcikcmphnaogbaaDoorOHa
namespace Go.Proofs.YtcikcmphnaogbaaDoor
open Go.Sh
set_option maxRecDepth 100000
theorem lawK_3_4 : lawK 3 4 = true := by kernel_rfl
theorem lawK_3_5 : lawK 3 5 = true := by kernel_rfl
theorem lawK_3_6 : lawK 3 6 = true := by kernel_rfl
theorem lawK_3_7 : lawK 3 7 = true := by kernel_rfl
end Go.Proofs.YtcikcmphnaogbaaDoor
