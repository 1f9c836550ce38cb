/-
  SlotsExact: runs where one is meant. Own work.
-/
import Derived.Test.YtelidpbhonnllaaEa
namespace Go.Proofs.Ytelidpbhonnllaa
open Go.Sh
set_option maxRecDepth 100000

theorem e_at1 : (List.range 1).all (fun j => (List.range 1).all fun r => go2 (fAt 1 j r) 1) = true := by kernel_rfl
theorem e_at2 : (List.range 2).all (fun j => (List.range 1).all fun r => go2 (fAt 2 j r) 2) = true := by kernel_rfl
theorem e_at3 : (List.range 3).all (fun j => (List.range 3).all fun r => go2 (fAt 3 j r) 3) = true := by kernel_rfl
theorem e_at4 : (List.range 4).all (fun j => (List.range 3).all fun r => go2 (fAt 4 j r) 4) = true := by kernel_rfl
theorem e_at5 : (List.range 5).all (fun j => (List.range 5).all fun r => go2 (fAt 5 j r) 5) = true := by kernel_rfl
theorem e_at6 : (List.range 6).all (fun j => (List.range 5).all fun r => go2 (fAt 6 j r) 6) = true := by kernel_rfl
end Go.Proofs.Ytelidpbhonnllaa
