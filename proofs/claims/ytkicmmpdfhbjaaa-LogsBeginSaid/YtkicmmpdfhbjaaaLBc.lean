/-
  LogsBegin: runs. Own work.
-/
import Derived.Test.YtkicmmpdfhbjaaaLBa
namespace Go.Proofs.Ytkicmmpdfhbjaaa
open Go.Sh
set_option maxRecDepth 100000

theorem l_4_0 : goX (fMain 4 0) cells8 sl8 = true := by kernel_rfl
theorem l_4_1 : goX (fMain 4 1) cells8 sl8 = true := by kernel_rfl
theorem l_4_2 : goX (fMain 4 2) cells8 sl8 = true := by kernel_rfl
theorem l_5_0 : goX (fMain 5 0) cells8 sl8 = true := by kernel_rfl
theorem l_5_1 : goX (fMain 5 1) cells8 sl8 = true := by kernel_rfl
theorem l_5_2 : goX (fMain 5 2) cells8 sl8 = true := by kernel_rfl
theorem l_6_0 : goX (fMain 6 0) cells8 sl8 = true := by kernel_rfl
theorem l_6_1 : goX (fMain 6 1) cells8 sl8 = true := by kernel_rfl
theorem l_6_2 : goX (fMain 6 2) cells8 sl8 = true := by kernel_rfl
theorem l_7_0 : goX (fMain 7 0) cells8 sl8 = true := by kernel_rfl
theorem l_7_1 : goX (fMain 7 1) cells8 sl8 = true := by kernel_rfl
theorem l_7_2 : goX (fMain 7 2) cells8 sl8 = true := by kernel_rfl
end Go.Proofs.Ytkicmmpdfhbjaaa
