/-
  The page's Mac: what is asked of its runs. Own work.
-/
import Derived.Test.YtjdcaipgfolgoaaDoorXp
namespace Go.Proofs.YtjdcaipgfolgoaaDoor
open Go.Sh
open Go.ChangeShapes Go.WideShapes Go.ChangeAt Go.RowKit
set_option maxRecDepth 100000

noncomputable def pm3 (k : Ky) : Bool := pmGo k .a && (pmGo k .b && pmGo k .c)
noncomputable def pmP (i : Nat) : Bool := pm3 (.s (4 * i + 1)) && (pm3 (.s (4 * i + 2)) && (pm3 (.s (4 * i + 3)) && pm3 (.s (4 * i + 4))))
theorem pm_a : pm3 .a = true := by kernel_rfl
theorem pm_b : pm3 .b = true := by kernel_rfl
theorem pm_l : pm3 .l = true := by kernel_rfl
theorem pm3_all {k : Ky} {u : Hd} (h : pm3 k = true) : pmGo k u = true := by
  simp only [pm3, Bool.and_eq_true] at h
  cases u
  · exact h.1
  · exact h.2.1
  · exact h.2.2
theorem pmP_all (h : ∀ i, i < 16 → pmP i = true) {n : Nat} (h0 : 0 < n) (hn : n ≤ 64) : pm3 (.s n) = true := by
  have h1 := h ((n - 1) / 4) (by omega)
  simp only [pmP, Bool.and_eq_true] at h1
  obtain ⟨q0, q1, q2, q3⟩ := h1
  rcases (by omega : n = 4 * ((n - 1) / 4) + 1 ∨ n = 4 * ((n - 1) / 4) + 2 ∨ n = 4 * ((n - 1) / 4) + 3 ∨ n = 4 * ((n - 1) / 4) + 4) with e | e | e | e
  · rw [e]; exact q0
  · rw [e]; exact q1
  · rw [e]; exact q2
  · rw [e]; exact q3
end Go.Proofs.YtjdcaipgfolgoaaDoor
