/-
  KNOW: makes whose order is open, by what they leave and not order by order. Own work.
-/
import Derived.Test.YtikbeagcflofhaaKNm
namespace Go.Proofs.Ytikbeagcflofhaa
open Go.RowKit Go.Maps
set_option maxRecDepth 100000
/-- A region whose order is open, by an invariant: as long as 'I' holds, either the rest is shown at once or each operation that may come next keeps 'I'. -/
theorem any_by {P : Program} {md : Region.Mode} {ops : Array Oper} {Q : Exit → Act → World → Prop} (I : Nat → Array Bool → Act → World → Prop)
    (h0 : ∀ l a w, I 0 l a w → wpAny P md ops Q 0 l a w)
    (hs : ∀ k l a w, I (k + 1) l a w → wpAny P md ops Q (k + 1) l a w ∨ ∃ rs, Region.ready md ops l = rs ∧ rs ≠ [] ∧ ∀ i ∈ rs, wpOp P ops Q i (I k (l.setIfInBounds i true)) a w) :
    ∀ k l a w, I k l a w → wpAny P md ops Q k l a w := by
  intro k
  induction k with
  | zero => exact h0
  | succ k ih =>
    intro l a w h
    rcases hs k l a w h with h | ⟨rs, hr, hne, h⟩
    · exact h
    · refine wpAny_all hr hne fun i hi => ?_
      have hh := h i hi
      unfold wpOp at hh ⊢
      split
      · rename_i e; rw [e] at hh; exact ih _ _ _ hh
      · rename_i o e
        rw [e] at hh
        simp only at hh
        split
        · rename_i hw
          rw [if_pos hw] at hh
          rcases hh with hh | hh
          · exact .inl (Oper.wp_mono (fun a w h => ih _ _ _ h) hh)
          · exact .inr hh
        · rename_i hw
          rw [if_neg hw] at hh
          exact ih _ _ _ hh
/-- What five makes leave, whichever of them have been: those that 'm' says. -/
structure Mk (w W : World) (o : Nat → Obj) (m : Nat → Bool) (p : Nat → Nat) : Prop where
  size : W.heap.size = w.heap.size + ((List.range 5).filter m).length
  below : Below w.heap.size w W
  has : ∀ i, m i = true → w.heap.size ≤ p i ∧ p i < W.heap.size ∧ W.heap[p i]? = some (o i)
  apart : ∀ i j, m i = true → m j = true → i ≠ j → p i ≠ p j
theorem Mk.start (w : World) (o : Nat → Obj) (p : Nat → Nat) : Mk w w.drew o (fun _ => false) p :=
  ⟨by simp, (Below.refl _ _).drew, fun _ h => by simp at h, fun _ _ h => by simp at h⟩
theorem count_set {m : Nat → Bool} {i : Nat} (hi : m i = false) : ∀ {l : List Nat}, l.Nodup → i ∈ l → (l.filter fun j => if j = i then true else m j).length = (l.filter m).length + 1
  | [], _, h => by simp at h
  | a :: l, hn, h => by
    obtain ⟨h1, h2⟩ := List.nodup_cons.1 hn
    by_cases ha : a = i
    · subst ha
      have e : (l.filter fun j => if j = a then true else m j) = l.filter m := by
        apply List.filter_congr
        intro x hx
        rw [if_neg (fun (e : x = a) => h1 (e ▸ hx))]
      rw [List.filter_cons, List.filter_cons, if_pos (by simp), if_neg (by simp [hi]), e, List.length_cons]
    · have hm : i ∈ l := (List.mem_cons.1 h).resolve_left (fun (e : i = a) => ha e.symm)
      have := count_set hi h2 hm
      rw [List.filter_cons, List.filter_cons]
      simp only [if_neg ha]
      by_cases hma : m a = true
      · rw [if_pos hma, if_pos hma, List.length_cons, List.length_cons, this]
      · rw [if_neg hma, if_neg hma]; exact this
theorem Mk.more {w W : World} {o : Nat → Obj} {m : Nat → Bool} {p : Nat → Nat} (h : Mk w W o m p) {i : Nat} (hi : i < 5) (hm : m i = false) :
    Mk w (W.alloc (o i)) o (fun j => if j = i then true else m j) (fun j => if j = i then W.heap.size else p j) := by
  have hs := h.size
  refine ⟨?_, h.below.alloc (by omega) _, fun j hj => ?_, fun j k hj hk hne => ?_⟩
  · rw [World.size_alloc, h.size, count_set hm (List.nodup_range) (List.mem_range.2 hi)]
    rfl
  · by_cases e : j = i
    · subst e
      simp only [if_true]
      exact ⟨by omega, by rw [World.size_alloc]; omega, alloc_at _ _ rfl⟩
    · simp only [if_neg e] at hj ⊢
      obtain ⟨h1, h2, h3⟩ := h.has j hj
      exact ⟨h1, by rw [World.size_alloc]; omega, by rw [alloc_old _ _ h2]; exact h3⟩
  · by_cases e : j = i
    · subst e
      by_cases e2 : k = j
      · exact absurd e2.symm hne
      · simp only [if_neg e2] at hk ⊢
        have := (h.has k hk).2.1
        simp only [if_true]
        omega
    · simp only [if_neg e] at hj ⊢
      by_cases e2 : k = i
      · subst e2
        have := (h.has j hj).2.1
        simp only [if_true]
        omega
      · simp only [if_neg e2] at hk ⊢
        exact h.apart j k hj hk hne
end Go.Proofs.Ytikbeagcflofhaa
