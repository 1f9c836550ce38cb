/-
  The page's Xor: its rounds, by how much is left. Own work, by program.
-/
import Derived.Test.YtakegcfpbacefaaQf
namespace Go.Proofs.Ytakegcfpbacefaa
open Go.Sh
open Go.ChangeShapes Go.WideShapes Go.ChangeAt Go.RowKit
set_option maxRecDepth 100000

theorem py_all_false0 : (List.range 16).all (fun r => pyGo false (0 + r + 1)) = true := by kernel_rfl
theorem py_all_false1 : (List.range 16).all (fun r => pyGo false (16 + r + 1)) = true := by kernel_rfl
theorem py_all_false2 : (List.range 16).all (fun r => pyGo false (32 + r + 1)) = true := by kernel_rfl
theorem py_all_false3 : (List.range 16).all (fun r => pyGo false (48 + r + 1)) = true := by kernel_rfl
theorem py_all_false {w : Nat} (h0 : 0 < w) (h1 : w ≤ 64) : pyGo false w = true := by
  have e : w = 16 * ((w - 1) / 16) + (w - 1) % 16 + 1 := by omega
  have hr : (w - 1) % 16 < 16 := Nat.mod_lt _ (by decide)
  have hc : (w - 1) / 16 = 0 ∨ (w - 1) / 16 = 1 ∨ (w - 1) / 16 = 2 ∨ (w - 1) / 16 = 3 := by omega
  rw [e]
  rcases hc with hc | hc | hc | hc <;> rw [hc]
  · exact List.all_eq_true.1 py_all_false0 _ (List.mem_range.2 hr)
  · exact List.all_eq_true.1 py_all_false1 _ (List.mem_range.2 hr)
  · exact List.all_eq_true.1 py_all_false2 _ (List.mem_range.2 hr)
  · exact List.all_eq_true.1 py_all_false3 _ (List.mem_range.2 hr)
end Go.Proofs.Ytakegcfpbacefaa
