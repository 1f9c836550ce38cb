/-
  MacRows: what is asked of its rounds. Own work.
-/
import Derived.Test.YtjdcaipgfolgoaaDoorXm
namespace Go.Proofs.YtjdcaipgfolgoaaDoor
open Go.Sh
open Go.ChangeShapes Go.WideShapes Go.ChangeAt Go.RowKit
set_option maxRecDepth 100000

noncomputable def rwP (q : Bool) (s u : Hd) (i : Nat) : Bool := rwRound q s u (4 * i + 1) && (rwRound q s u (4 * i + 2) && (rwRound q s u (4 * i + 3) && rwRound q s u (4 * i + 4)))
theorem rwP_all {q : Bool} {s u : Hd} (h : ∀ i, i < 8 → rwP q s u i = true) {w : Nat} (h0 : 0 < w) (hw : w ≤ 32) : rwRound q s u w = true := by
  have h1 := h ((w - 1) / 4) (by omega)
  simp only [rwP, Bool.and_eq_true] at h1
  obtain ⟨q0, q1, q2, q3⟩ := h1
  rcases (by omega : w = 4 * ((w - 1) / 4) + 1 ∨ w = 4 * ((w - 1) / 4) + 2 ∨ w = 4 * ((w - 1) / 4) + 3 ∨ w = 4 * ((w - 1) / 4) + 4) with e | e | e | e
  · rw [e]; exact q0
  · rw [e]; exact q1
  · rw [e]; exact q2
  · rw [e]; exact q3
end Go.Proofs.YtjdcaipgfolgoaaDoor
