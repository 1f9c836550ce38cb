/-
  BENEATH, as a set: what is reached from a node. On lists alone. Own work.
-/
import Derived.Test.YtehkfgjnapjefaaSPq
namespace Go.Proofs.Ytehkfgjnapjefaa
open Go.RowKit Go.Maps
set_option maxRecDepth 100000
inductive Reach (L : List Tm) : Nat → Nat → Prop
  | refl (p : Nat) : Reach L p p
  | step {p x q : Nat} : (x : Int) ∈ (tmAt L p).2.2 → Reach L x q → Reach L p q
theorem args_lt {L : List Tm} (h : Wf L) {p : Nat} (hp : p < L.length) {z : Int} (hz : z ∈ (tmAt L p).2.2) : 0 ≤ z ∧ z < p := by
  rw [tmAt_nat hp] at hz
  exact (h.good p hp).2.2 z hz
theorem Reach.le {L : List Tm} (h : Wf L) {p q : Nat} (hr : Reach L p q) : p < L.length → q ≤ p := by
  induction hr with
  | refl p => intro _; exact Nat.le_refl _
  | step hx _ ih =>
    intro hp
    have h1 := (args_lt h hp hx).2
    have := ih (by omega)
    omega
theorem mark_at : ∀ (xs : List Int) (s : List Bool) (q : Nat), q < s.length → ((mark s xs).getD q false = true ↔ s.getD q false = true ∨ ∃ x ∈ xs, x.toNat = q)
  | [], s, q, _ => by simp [mark]
  | x :: xs, s, q, hq => by
    have ih := mark_at xs (s.set x.toNat true) q (by rw [List.length_set]; exact hq)
    show (mark (s.set x.toNat true) xs).getD q false = true ↔ _
    rw [ih]
    have e : (s.set x.toNat true).getD q false = true ↔ s.getD q false = true ∨ x.toNat = q := by
      rw [List.getD_eq_getElem?_getD, List.getElem?_set, List.getD_eq_getElem?_getD]
      by_cases hx : x.toNat = q
      · simp [hx, hq]
      · simp [hx]
    rw [e]
    constructor
    · rintro ((h | h) | ⟨y, hy, h⟩)
      · exact .inl h
      · exact .inr ⟨x, by simp, h⟩
      · exact .inr ⟨y, by simp [hy], h⟩
    · rintro (h | ⟨y, hy, h⟩)
      · exact .inl (.inl h)
      · rcases List.mem_cons.1 hy with rfl | hy
        · exact .inl (.inr h)
        · exact .inr ⟨y, hy, h⟩
noncomputable def hitB (L : List Tm) (n : Nat) (s : List Bool) (q : Nat) : Bool := @decide (∃ p, p < n ∧ s.getD p false = true ∧ Reach L p q) (Classical.propDecidable _)
theorem hitB_iff {L : List Tm} {n : Nat} {s : List Bool} {q : Nat} : hitB L n s q = true ↔ ∃ p, p < n ∧ s.getD p false = true ∧ Reach L p q := by
  unfold hitB
  exact @decide_eq_true_iff _ (Classical.propDecidable _)
theorem down_hit {L : List Tm} (h : Wf L) : ∀ (n : Nat) (s : List Bool), n ≤ L.length → n ≤ s.length → (down L n s).reverse = ((List.range n).filter (hitB L n s)).map fun (q : Nat) => (q : Int)
  | 0, s, _, _ => by simp [down]
  | n + 1, s, hn, hs => by
    rw [List.range_succ, List.filter_append, List.map_append, down]
    by_cases hc : s.getD n false = true
    · rw [if_pos hc, List.reverse_cons, down_hit h n _ (by omega) (by rw [mark_len]; omega)]
      have e1 : hitB L (n + 1) s n = true := hitB_iff.2 ⟨n, by omega, hc, Reach.refl n⟩
      have e2 : (List.range n).filter (hitB L n (mark s (tmAt L n).2.2)) = (List.range n).filter (hitB L (n + 1) s) := by
        apply List.filter_congr
        intro q hq
        have hqn := List.mem_range.1 hq
        rw [Bool.eq_iff_iff, hitB_iff, hitB_iff]
        constructor
        · rintro ⟨p, hp, hm, hr⟩
          rcases (mark_at _ s p (by omega)).1 hm with hm | ⟨x, hx, hxp⟩
          · exact ⟨p, by omega, hm, hr⟩
          · have hx0 := (args_lt h (by omega) hx).1
            refine ⟨n, by omega, hc, .step (x := p) ?_ hr⟩
            rw [← hxp, Int.toNat_of_nonneg hx0]
            exact hx
        · rintro ⟨p, hp, hm, hr⟩
          by_cases hpn : p < n
          · exact ⟨p, hpn, (mark_at _ s p (by omega)).2 (.inl hm), hr⟩
          · obtain rfl : p = n := by omega
            cases hr with
            | refl => omega
            | step hx hr =>
              rename_i x
              have hxl := (args_lt h (by omega) hx).2
              exact ⟨x, by omega, (mark_at _ s x (by omega)).2 (.inr ⟨_, hx, by simp⟩), hr⟩
      rw [e2]
      simp [e1]
    · rw [if_neg hc, down_hit h n s (by omega) (by omega)]
      have e1 : hitB L (n + 1) s n = false := by
        rw [Bool.eq_false_iff]
        intro hh
        obtain ⟨p, hp, hm, hr⟩ := hitB_iff.1 hh
        have := hr.le h (by omega)
        obtain rfl : p = n := by omega
        exact hc hm
      have e2 : (List.range n).filter (hitB L n s) = (List.range n).filter (hitB L (n + 1) s) := by
        apply List.filter_congr
        intro q hq
        rw [Bool.eq_iff_iff, hitB_iff, hitB_iff]
        constructor
        · rintro ⟨p, hp, hm, hr⟩
          exact ⟨p, by omega, hm, hr⟩
        · rintro ⟨p, hp, hm, hr⟩
          by_cases hpn : p < n
          · exact ⟨p, hpn, hm, hr⟩
          · obtain rfl : p = n := by omega
            exact absurd hm hc
      rw [e2]
      simp [e1]
noncomputable def reachB (L : List Tm) (i q : Nat) : Bool := @decide (Reach L i q) (Classical.propDecidable _)
theorem reachB_iff {L : List Tm} {i q : Nat} : reachB L i q = true ↔ Reach L i q := by
  unfold reachB
  exact @decide_eq_true_iff _ (Classical.propDecidable _)
/-- WHAT IS BENEATH A NODE IS WHAT IS REACHED FROM IT, rising. -/
theorem ben_reach {L : List Tm} (h : Wf L) {i : Nat} (hi : i < L.length) : benOf L i = ((List.range (i + 1)).filter (reachB L i)).map fun (q : Nat) => (q : Int) := by
  unfold benOf
  rw [down_hit h (i + 1) (below0 i) (by omega) (by simp [below0])]
  congr 1
  apply List.filter_congr
  intro q _
  rw [Bool.eq_iff_iff, hitB_iff, reachB_iff]
  constructor
  · rintro ⟨p, hp, hm, hr⟩
    have : p = i := by
      unfold below0 at hm
      rw [List.getD_eq_getElem?_getD, List.getElem?_set] at hm
      by_cases hpi : i = p
      · exact hpi.symm
      · rw [if_neg hpi, List.getElem?_replicate, if_pos hp] at hm
        simp at hm
    rwa [this] at hr
  · intro hr
    refine ⟨i, by omega, ?_, hr⟩
    unfold below0
    rw [List.getD_eq_getElem?_getD, List.getElem?_set]
    simp
end Go.Proofs.Ytehkfgjnapjefaa
