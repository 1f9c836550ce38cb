/-
  TERMS: literals, rows, what is kept. Own work.
-/
import Derived.Test.YtenllpaochcjfaaDoorTW
namespace Go.Proofs.YtenllpaochcjfaaDoor
open Go.RowKit Go.Maps
set_option maxRecDepth 100000
theorem reads_lit {w : World} {n : Nat} {cs : List Value} (xs : List Int) (hcs : cs = xs.map (Value.int .i64)) (hn : xs.length = n) (e : TypeId) : Reads (w.alloc (.cells cs.toArray e)) (.slice (some ⟨w.heap.size, 0, none⟩) n n) xs := by
  subst hcs hn
  refine .inr ⟨w.heap.size, 0, _, rfl, by simp, fun t ht => ?_⟩
  rw [Nat.zero_add, cell_of_row _ w.heap.size t _ e (0, 0) (heap_alloc_new w _)]
  simp [ht]
theorem row_open {w : World} {base e size n c : Nat} {p : Option Addr} {xs : List Value} (h : w.ownsRow base e size (.slice p n c) n xs) (hn : 0 < n) : ∃ g, p = some ⟨g, 0, none⟩ ∧ base ≤ g ∧ g < w.heap.size ∧ n ≤ c ∧ ∀ j, j < n * size → w.cell? ⟨g, j, none⟩ = xs[j]? := by
  rcases h.2 with ⟨_, h0⟩ | ⟨g, cap, cur, h1, hb, hg, hc, _⟩
  · omega
  · cases h1
    exact ⟨g, rfl, hb, (Array.getElem?_eq_some_iff.1 hg).1, hc, fun j hj => World.ownsRow.cellAt h j hj⟩
theorem foot_below {F F' : Nat → Prop} {B : Nat} {w : World} (h : ∀ k, F k → B ≤ k) (hF : ∀ k, F' k → F k ∨ w.heap.size ≤ k) (hB : B ≤ w.heap.size) : ∀ k, F' k → B ≤ k := fun k hk => by
  rcases hF k hk with h1 | h1
  · exact h k h1
  · omega
theorem ar_alloc {F : Nat → Prop} {w : World} {ab : Nat} {L : List Tm} (A : Ar w ab L F) (o : Obj) : Ar (w.alloc o) ab L F := A.below ((Below.refl _ w).alloc (Nat.le_refl _) o)
end Go.Proofs.YtenllpaochcjfaaDoor
