/-
  SlotsExact: runs where one is meant. Own work.
-/
import Derived.Test.YtelidpbhonnllaaEa
namespace Go.Proofs.Ytelidpbhonnllaa
open Go.Sh
set_option maxRecDepth 100000

theorem e_at7_0 : (List.range 7).all (fun r => go2 (fAt 7 0 r) 7) = true := by kernel_rfl
theorem e_at7_1 : (List.range 7).all (fun r => go2 (fAt 7 1 r) 7) = true := by kernel_rfl
theorem e_at7_2 : (List.range 7).all (fun r => go2 (fAt 7 2 r) 7) = true := by kernel_rfl
theorem e_at7_3 : (List.range 7).all (fun r => go2 (fAt 7 3 r) 7) = true := by kernel_rfl
theorem e_at7_4 : (List.range 7).all (fun r => go2 (fAt 7 4 r) 7) = true := by kernel_rfl
theorem e_at7_5 : (List.range 7).all (fun r => go2 (fAt 7 5 r) 7) = true := by kernel_rfl
theorem e_at7_6 : (List.range 7).all (fun r => go2 (fAt 7 6 r) 7) = true := by kernel_rfl
theorem e_at7 : (List.range 7).all (fun j => (List.range 7).all fun r => go2 (fAt 7 j r) 7) = true := by
  refine List.all_eq_true.2 fun j hj => ?_
  match j, List.mem_range.1 hj with
  | 0, _ => exact e_at7_0
  | 1, _ => exact e_at7_1
  | 2, _ => exact e_at7_2
  | 3, _ => exact e_at7_3
  | 4, _ => exact e_at7_4
  | 5, _ => exact e_at7_5
  | 6, _ => exact e_at7_6
  | k + 7, h => omega
end Go.Proofs.Ytelidpbhonnllaa
