/-
  LogsBegin: runs. Own work.
-/
import Derived.Test.YtkicmmpdfhbjaaaLBa
namespace Go.Proofs.Ytkicmmpdfhbjaaa
open Go.Sh
set_option maxRecDepth 100000

theorem l_0_0 : goX (fMain 0 0) cells8 sl8 = true := by kernel_rfl
theorem l_0_1 : goX (fMain 0 1) cells8 sl8 = true := by kernel_rfl
theorem l_0_2 : goX (fMain 0 2) cells8 sl8 = true := by kernel_rfl
theorem l_1_0 : goX (fMain 1 0) cells8 sl8 = true := by kernel_rfl
theorem l_1_1 : goX (fMain 1 1) cells8 sl8 = true := by kernel_rfl
theorem l_1_2 : goX (fMain 1 2) cells8 sl8 = true := by kernel_rfl
theorem l_2_0 : goX (fMain 2 0) cells8 sl8 = true := by kernel_rfl
theorem l_2_1 : goX (fMain 2 1) cells8 sl8 = true := by kernel_rfl
theorem l_2_2 : goX (fMain 2 2) cells8 sl8 = true := by kernel_rfl
theorem l_3_0 : goX (fMain 3 0) cells8 sl8 = true := by kernel_rfl
theorem l_3_1 : goX (fMain 3 1) cells8 sl8 = true := by kernel_rfl
theorem l_3_2 : goX (fMain 3 2) cells8 sl8 = true := by kernel_rfl
end Go.Proofs.Ytkicmmpdfhbjaaa
