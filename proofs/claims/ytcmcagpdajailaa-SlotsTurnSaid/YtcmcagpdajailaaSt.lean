/-
  SlotsTurn: its rounds, for each count of members and what is left of the round. Own work.
-/
import Derived.Test.YtcmcagpdajailaaSa
namespace Go.Proofs.Ytcmcagpdajailaa
open Go.Sh
set_option maxRecDepth 100000

def icRTurn : IC := t5.body.sub [true, true, true]
noncomputable def goRTurn (m r : Nat) : Bool := goes (factsJ m r) tree wkR 400 6 icRTurn (nowN m) .ret ⟨[(4, .b true)], [], 64 + 2 * m⟩
theorem goTurn_1_0 : goRTurn 1 0 = true := by kernel_rfl
theorem goTurn_2_0 : goRTurn 2 0 = true := by kernel_rfl
theorem goTurn_3_0 : goRTurn 3 0 = true := by kernel_rfl
theorem goTurn_3_1 : goRTurn 3 1 = true := by kernel_rfl
theorem goTurn_3_2 : goRTurn 3 2 = true := by kernel_rfl
theorem goTurn_4_0 : goRTurn 4 0 = true := by kernel_rfl
theorem goTurn_4_1 : goRTurn 4 1 = true := by kernel_rfl
theorem goTurn_4_2 : goRTurn 4 2 = true := by kernel_rfl
theorem goTurn_5_0 : goRTurn 5 0 = true := by kernel_rfl
theorem goTurn_5_1 : goRTurn 5 1 = true := by kernel_rfl
theorem goTurn_5_2 : goRTurn 5 2 = true := by kernel_rfl
theorem goTurn_5_3 : goRTurn 5 3 = true := by kernel_rfl
theorem goTurn_5_4 : goRTurn 5 4 = true := by kernel_rfl
theorem goTurn_6_0 : goRTurn 6 0 = true := by kernel_rfl
theorem goTurn_6_1 : goRTurn 6 1 = true := by kernel_rfl
theorem goTurn_6_2 : goRTurn 6 2 = true := by kernel_rfl
theorem goTurn_6_3 : goRTurn 6 3 = true := by kernel_rfl
theorem goTurn_6_4 : goRTurn 6 4 = true := by kernel_rfl
theorem goTurn_7_0 : goRTurn 7 0 = true := by kernel_rfl
theorem goTurn_7_1 : goRTurn 7 1 = true := by kernel_rfl
theorem goTurn_7_2 : goRTurn 7 2 = true := by kernel_rfl
theorem goTurn_7_3 : goRTurn 7 3 = true := by kernel_rfl
theorem goTurn_7_4 : goRTurn 7 4 = true := by kernel_rfl
theorem goTurn_7_5 : goRTurn 7 5 = true := by kernel_rfl
theorem goTurn_7_6 : goRTurn 7 6 = true := by kernel_rfl
theorem goTurn_8_0 : goRTurn 8 0 = true := by kernel_rfl
theorem goTurn_8_1 : goRTurn 8 1 = true := by kernel_rfl
theorem goTurn_8_2 : goRTurn 8 2 = true := by kernel_rfl
theorem goTurn_8_3 : goRTurn 8 3 = true := by kernel_rfl
theorem goTurn_8_4 : goRTurn 8 4 = true := by kernel_rfl
theorem goTurn_8_5 : goRTurn 8 5 = true := by kernel_rfl
theorem goTurn_8_6 : goRTurn 8 6 = true := by kernel_rfl
end Go.Proofs.Ytcmcagpdajailaa
