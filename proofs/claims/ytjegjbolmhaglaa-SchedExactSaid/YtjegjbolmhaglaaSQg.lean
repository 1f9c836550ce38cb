/-
  A PAIR OF ARENAS: T; Pairs; like. Own work.
-/
import Derived.Test.YtjegjbolmhaglaaSQf
namespace Go.Proofs.Ytjegjbolmhaglaa
open Go.RowKit Go.Maps
set_option maxRecDepth 100000
attribute [local go_sem ↓] Go.wp_at_zero Go.wp_at_succ
section
variable {w wr w' : World} {pb aa bb m : Nat} {L L' L1 : List Tm} {G G' : Nat → Prop}
theorem PrAt.at {mp : Option Addr} {mc : Nat} (A : PrAt w wr pb aa bb m mp mc G) {i : Nat} (hi : i < m) : ∃ g, mp = some ⟨g, 0, none⟩ ∧ g < wr.heap.size ∧ wr.cell? ⟨g, i, none⟩ = some (.int .i64 i) := by
  obtain ⟨g, rfl, _, hg, _, hc⟩ := row_open A.row (by omega)
  have c3 := hc i (by omega)
  rw [List.getElem?_map, List.getElem?_eq_getElem (by rw [irange_len]; exact hi)] at c3
  have hg' : (irange m)[i]'(by rw [irange_len]; exact hi) = (i : Int) := by
    have := irange_at hi
    rw [List.getD_eq_getElem?_getD, List.getElem?_eq_getElem (by rw [irange_len]; exact hi)] at this
    exact this
  rw [hg'] at c3
  exact ⟨g, rfl, hg, c3⟩
/-- One more is known. -/
theorem pr_more {wp w1 : World} {mp p8 : Option Addr} {mc c8 : Nat} {o : Obj} (T : Tw w wp aa bb L L G) (A : PrAt w wp pb aa bb m mp mc G) (hm : m < L.length)
    (hown : w1.ownsRow w.heap.size 3 1 (.slice p8 (m + 1) c8) (m + 1) ((irange m).map (Value.int .i64) ++ [.int .i64 m])) (hg : (wp.alloc o).grownBy w1 (Value.slice mp m mc).ownBlock) (hat : (Value.slice p8 (m + 1) c8).ownBlock = (Value.slice mp m mc).ownBlock ∨ (Value.slice p8 (m + 1) c8).ownBlock = some (wp.alloc o).heap.size) :
    Pr w (w1.setCell ⟨pb, 2, none⟩ (.slice p8 (m + 1) c8)) pb aa bb L L (m + 1) := by
  have hpb := T.lt pb A.self
  have s1 := hg.size
  simp only [World.size_alloc] at s1
  have hK : Keeps (fun k => (Value.slice mp m mc).ownBlock = some k) (wp.alloc o) w1 := Keeps.of_grown hg (fun k hk => hk)
  have K0 : Keeps (fun k => (Value.slice mp m mc).ownBlock = some k) wp w1 := (Keeps.of_below (F := fun k => (Value.slice mp m mc).ownBlock = some k) ((Below.refl _ wp).alloc (Nat.le_refl _) o)).trans hK (fun k _ h => h)
  have T1 := T.more (P := fun k => k = wp.heap.size + 1 ∧ k < w1.heap.size) K0 (fun k hk => .inl ⟨(A.apart k hk).1, (row_base A.row hk).1⟩) (fun k hk => ⟨by omega, hk.2⟩)
  have hnp : ¬ (Value.slice mp m mc).ownBlock = some pb := fun h => (A.apart pb h).2 rfl
  have hg7 := put_grown w1 ⟨pb, 2, none⟩ (.slice p8 (m + 1) c8)
  have K7 : Keeps (fun k => k = pb) w1 (w1.setCell ⟨pb, 2, none⟩ (.slice p8 (m + 1) c8)) := Keeps.of_grown hg7 (fun k hk => by cases hk; rfl)
  have T2 := T1.own K7 (fun k hk => .inl ⟨.inl (by rw [hk]; exact A.self), by rw [hk]; exact A.base⟩)
  have hc2 : w1.cell? ⟨pb, 2, none⟩ = some (.slice mp m mc) := (K0.cell (p := ⟨pb, 2, none⟩) hpb hnp).trans A.c2
  have hb8 : ∀ k, (Value.slice p8 (m + 1) c8).ownBlock = some k → (G k ∨ (k = wp.heap.size + 1 ∧ k < w1.heap.size)) ∧ k ≠ pb := by
    intro k hk
    have hlt := (row_base hown hk).2
    rcases hat with h | h
    · rw [h] at hk
      exact ⟨.inl (A.apart k hk).1, (A.apart k hk).2⟩
    · rw [h] at hk
      simp only [World.size_alloc, Option.some.injEq] at hk
      exact ⟨.inr ⟨by omega, hlt⟩, by omega⟩
  refine ⟨⟨p8, c8, _, T2, ⟨.inl A.self, hb8, A.base, ?_, ?_, ?_, ?_, ?_⟩⟩, by omega⟩
  · rw [World.cell?_setCell_other (h := by simp)]
    exact (K0.cell (p := ⟨pb, 0, none⟩) hpb hnp).trans A.c0
  · rw [World.cell?_setCell_other (h := by simp)]
    exact (K0.cell (p := ⟨pb, 1, none⟩) hpb hnp).trans A.c1
  · exact World.cell?_setCell_same (h := hc2) ..
  · rw [World.frozen?_setCell]
    exact (K0.frozen (p := ⟨pb, 2, none⟩) hpb hnp).trans A.f2
  · have h9 := row_keeps hown K7 (fun k hk h => (hb8 k hk).2 h)
    rw [irange_succ, List.map_append]
    exact h9
end
end Go.Proofs.Ytjegjbolmhaglaa
