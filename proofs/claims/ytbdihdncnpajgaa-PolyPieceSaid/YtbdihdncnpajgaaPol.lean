/-
  The page's Tag: its rounds. Own work.
-/
import Derived.Test.YtbdihdncnpajgaaPok
namespace Go.Proofs.Ytbdihdncnpajgaa
open Go.Sh
open Go.ChangeShapes Go.WideShapes Go.ChangeAt Go.RowKit
set_option maxRecDepth 100000

theorem pg_all0 : (List.range 5).all (fun r => pgGo (r + 1)) = true := by kernel_rfl
theorem pg_all1 : (List.range 4).all (fun r => pgGo (5 + r + 1)) = true := by kernel_rfl
theorem pg_all2 : (List.range 4).all (fun r => pgGo (9 + r + 1)) = true := by kernel_rfl
theorem pg_all3 : (List.range 4).all (fun r => pgGo (13 + r + 1)) = true := by kernel_rfl
theorem pg_goW {w : Nat} (h0 : 0 < w) (h1 : w ≤ 17) : pgGo w = true := by
  have h : w - 1 < 5 ∨ (5 ≤ w - 1 ∧ w - 1 < 9) ∨ (9 ≤ w - 1 ∧ w - 1 < 13) ∨ (13 ≤ w - 1 ∧ w - 1 < 17) := by omega
  rcases h with h | h | h | h
  · have := List.all_eq_true.1 pg_all0 (w - 1) (List.mem_range.2 h)
    rwa [show w - 1 + 1 = w by omega] at this
  · have := List.all_eq_true.1 pg_all1 (w - 1 - 5) (List.mem_range.2 (by omega))
    rwa [show 5 + (w - 1 - 5) + 1 = w by omega] at this
  · have := List.all_eq_true.1 pg_all2 (w - 1 - 9) (List.mem_range.2 (by omega))
    rwa [show 9 + (w - 1 - 9) + 1 = w by omega] at this
  · have := List.all_eq_true.1 pg_all3 (w - 1 - 13) (List.mem_range.2 (by omega))
    rwa [show 13 + (w - 1 - 13) + 1 = w by omega] at this
end Go.Proofs.Ytbdihdncnpajgaa
