/-
  MIX: what the last server does, on lists. Own work.
-/
import Derived.Test.YtenllpaochcjfaaMXc
namespace Go.Proofs.Ytenllpaochcjfaa
open Go.ChangeShapes Go.WideShapes Go.ChangeAt Go.RowKit Go.Maps
set_option maxRecDepth 100000
/-- One payload is done: registers ahead and behind, the answer. -/
inductive Does (As : List Pl) (z0 : Int) (i : Nat) : List Ky → List Ky → Int → Prop
  | put (R : List Ky) (y z : Int) : As[i]? = some (71, y, z) → (∀ k ∈ R, k.1 ≠ y) → Does As z0 i R (R ++ [(y, z)]) z
  | had (R : List Ky) (u y z s : Int) (t : Nat) : As[i]? = some (u, y, z) → (u = 71 ∨ u = 72) → R[t]? = some (y, s) → (∀ (t' : Nat) (k : Ky), t' < t → R[t']? = some k → k.1 ≠ y) → Does As z0 i R R s
  | none (R : List Ky) (y z : Int) : As[i]? = some (72, y, z) → (∀ k ∈ R, k.1 ≠ y) → Does As z0 i R R z0
  | meets (R : List Ky) (y z u' y' z' : Int) (j : Nat) : As[i]? = some (73, y, z) → mtL As i As.length = [j] → As[j]? = some (u', y', z') → Does As z0 i R R z'
  | alone (R : List Ky) (y z : Int) : As[i]? = some (73, y, z) → (mtL As i As.length).length ≠ 1 → Does As z0 i R R z0
/-- The first i payloads are done. -/
inductive Done (As : List Pl) (z0 : Int) (R0 : List Ky) : Nat → List Ky → List Int → Prop
  | start : Done As z0 R0 0 R0 []
  | step (i : Nat) (R R' : List Ky) (out : List Int) (a : Int) : Done As z0 R0 i R out → Does As z0 i R R' a → Done As z0 R0 (i + 1) R' (out ++ [a])
theorem Done.len {As : List Pl} {z0 : Int} {R0 R : List Ky} {i : Nat} {out : List Int} (h : Done As z0 R0 i R out) : out.length = i ∧ R0.length ≤ R.length ∧ R.length ≤ R0.length + i := by
  induction h with
  | start => exact ⟨rfl, Nat.le_refl _, Nat.le_refl _⟩
  | step i R R' out a _ h2 ih =>
    have : R.length ≤ R'.length ∧ R'.length ≤ R.length + 1 := by
      cases h2 <;> simp
    exact ⟨by simp [ih.1], by omega, by omega⟩
end Go.Proofs.Ytenllpaochcjfaa
