/-
  SlotsMeet: its rounds, for each count of members and what is left of the round. Own work.
-/
import Derived.Test.YtcmcagpdajailaaSa
namespace Go.Proofs.Ytcmcagpdajailaa
open Go.Sh
set_option maxRecDepth 100000

def icRMeet : IC := t3.body.sub [true, true, true]
noncomputable def goRMeet (m r : Nat) : Bool := goes (factsM m r) tree wkR 400 6 icRMeet (nowN m) .ret ⟨[(4, .b true)], [], 64 + 2 * m⟩
theorem goMeet_1_0 : goRMeet 1 0 = true := by kernel_rfl
theorem goMeet_2_0 : goRMeet 2 0 = true := by kernel_rfl
theorem goMeet_3_0 : goRMeet 3 0 = true := by kernel_rfl
theorem goMeet_3_1 : goRMeet 3 1 = true := by kernel_rfl
theorem goMeet_3_2 : goRMeet 3 2 = true := by kernel_rfl
theorem goMeet_4_0 : goRMeet 4 0 = true := by kernel_rfl
theorem goMeet_4_1 : goRMeet 4 1 = true := by kernel_rfl
theorem goMeet_4_2 : goRMeet 4 2 = true := by kernel_rfl
theorem goMeet_5_0 : goRMeet 5 0 = true := by kernel_rfl
theorem goMeet_5_1 : goRMeet 5 1 = true := by kernel_rfl
theorem goMeet_5_2 : goRMeet 5 2 = true := by kernel_rfl
theorem goMeet_5_3 : goRMeet 5 3 = true := by kernel_rfl
theorem goMeet_5_4 : goRMeet 5 4 = true := by kernel_rfl
theorem goMeet_6_0 : goRMeet 6 0 = true := by kernel_rfl
theorem goMeet_6_1 : goRMeet 6 1 = true := by kernel_rfl
theorem goMeet_6_2 : goRMeet 6 2 = true := by kernel_rfl
theorem goMeet_6_3 : goRMeet 6 3 = true := by kernel_rfl
theorem goMeet_6_4 : goRMeet 6 4 = true := by kernel_rfl
theorem goMeet_7_0 : goRMeet 7 0 = true := by kernel_rfl
theorem goMeet_7_1 : goRMeet 7 1 = true := by kernel_rfl
theorem goMeet_7_2 : goRMeet 7 2 = true := by kernel_rfl
theorem goMeet_7_3 : goRMeet 7 3 = true := by kernel_rfl
theorem goMeet_7_4 : goRMeet 7 4 = true := by kernel_rfl
theorem goMeet_7_5 : goRMeet 7 5 = true := by kernel_rfl
theorem goMeet_7_6 : goRMeet 7 6 = true := by kernel_rfl
theorem goMeet_8_0 : goRMeet 8 0 = true := by kernel_rfl
theorem goMeet_8_1 : goRMeet 8 1 = true := by kernel_rfl
theorem goMeet_8_2 : goRMeet 8 2 = true := by kernel_rfl
theorem goMeet_8_3 : goRMeet 8 3 = true := by kernel_rfl
theorem goMeet_8_4 : goRMeet 8 4 = true := by kernel_rfl
theorem goMeet_8_5 : goRMeet 8 5 = true := by kernel_rfl
theorem goMeet_8_6 : goRMeet 8 6 = true := by kernel_rfl
end Go.Proofs.Ytcmcagpdajailaa
