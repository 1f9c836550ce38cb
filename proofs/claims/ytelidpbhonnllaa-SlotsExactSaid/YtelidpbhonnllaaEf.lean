/-
  SlotsExact: runs where one is meant. Own work.
-/
import Derived.Test.YtelidpbhonnllaaEa
namespace Go.Proofs.Ytelidpbhonnllaa
open Go.Sh
set_option maxRecDepth 100000

theorem e_at8_0 : (List.range 7).all (fun r => go2 (fAt 8 0 r) 8) = true := by kernel_rfl
theorem e_at8_1 : (List.range 7).all (fun r => go2 (fAt 8 1 r) 8) = true := by kernel_rfl
theorem e_at8_2 : (List.range 7).all (fun r => go2 (fAt 8 2 r) 8) = true := by kernel_rfl
theorem e_at8_3 : (List.range 7).all (fun r => go2 (fAt 8 3 r) 8) = true := by kernel_rfl
theorem e_at8_4 : (List.range 7).all (fun r => go2 (fAt 8 4 r) 8) = true := by kernel_rfl
theorem e_at8_5 : (List.range 7).all (fun r => go2 (fAt 8 5 r) 8) = true := by kernel_rfl
theorem e_at8_6 : (List.range 7).all (fun r => go2 (fAt 8 6 r) 8) = true := by kernel_rfl
theorem e_at8_7 : (List.range 7).all (fun r => go2 (fAt 8 7 r) 8) = true := by kernel_rfl
theorem e_at8 : (List.range 8).all (fun j => (List.range 7).all fun r => go2 (fAt 8 j r) 8) = true := by
  refine List.all_eq_true.2 fun j hj => ?_
  match j, List.mem_range.1 hj with
  | 0, _ => exact e_at8_0
  | 1, _ => exact e_at8_1
  | 2, _ => exact e_at8_2
  | 3, _ => exact e_at8_3
  | 4, _ => exact e_at8_4
  | 5, _ => exact e_at8_5
  | 6, _ => exact e_at8_6
  | 7, _ => exact e_at8_7
  | k + 8, h => omega
end Go.Proofs.Ytelidpbhonnllaa
