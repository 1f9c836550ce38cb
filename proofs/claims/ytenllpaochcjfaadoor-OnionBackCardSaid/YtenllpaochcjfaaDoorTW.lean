/-
  TERMS: Clone of what reads, Node, Len over an arena of a list. Own work.
-/
import Derived.Test.YtenllpaochcjfaaDoorTV
namespace Go.Proofs.YtenllpaochcjfaaDoor
open Go.RowKit Go.Maps
set_option maxRecDepth 100000
attribute [local go_sem ↓] Go.wp_at_zero Go.wp_at_succ
theorem Reads.slice {w : World} {v : Value} {xs : List Int} (h : Reads w v xs) : ∃ p c, v = .slice p xs.length c := by
  rcases h with ⟨rfl, rfl⟩ | ⟨b, o, c, rfl, _⟩
  · exact ⟨none, 0, rfl⟩
  · exact ⟨_, _, rfl⟩
theorem Reads.keeps {F : Nat → Prop} {w w' : World} {v : Value} {xs : List Int} (h : Reads w v xs) (hK : Keeps F w w') (hn : ∀ k, v.ownBlock = some k → ¬ F k) : Reads w' v xs := by
  rcases h with h | ⟨b, o, c, rfl, hb, hc⟩
  · exact .inl h
  · exact .inr ⟨b, o, c, rfl, Nat.lt_of_lt_of_le hb hK.size, fun t ht => (hK.cell (p := ⟨b, o + t, none⟩) hb (hn b rfl)).trans (hc t ht)⟩
theorem Reads.below {w w' : World} {v : Value} {xs : List Int} (h : Reads w v xs) (hB : Below w.heap.size w w') : Reads w' v xs := h.keeps (Keeps.of_below (F := fun _ => False) hB) (fun _ _ h => h)
theorem Reads.alloc {w : World} {v : Value} {xs : List Int} (h : Reads w v xs) (o : Obj) : Reads (w.alloc o) v xs := h.below ((Below.refl _ w).alloc (Nat.le_refl _) o)
theorem clone_rd {w : World} {v : Value} {xs : List Int} (h : Reads w v xs) (h4 : xs.length ≤ 1000) : Calls Tryd.prog 45 #[v] w fun e w' => ∃ p c, e = .returned (.slice p xs.length c) ∧ w'.ownsRow w.heap.size 3 1 (.slice p xs.length c) xs.length (xs.map (Value.int .i64)) ∧ Below w.heap.size w w' := by
  rcases h with ⟨rfl, rfl⟩ | ⟨b, o, c, rfl, hb, hc⟩
  · refine (clone_nil w).mono ?_
    rintro e w' ⟨rfl, rfl⟩
    exact ⟨none, 0, rfl, World.ownsRow_nil _ _ _ _, Below.refl _ _⟩
  · refine (clone_ok b o xs.length c xs w rfl h4 hb hc).mono ?_
    rintro e w' ⟨v, rfl, hown, hB⟩
    obtain ⟨p, c, rfl⟩ := row_slice hown
    exact ⟨p, c, rfl, hown, hB⟩
section
variable {ab ao mb m : Nat} {nv : Value} {nodes : List Value} {k n : Int} {b o l c : Nat} {xs : List Int} {w : World} {np : Option Addr} {cp : Nat}
set_option maxHeartbeats 4000000 in
theorem node_in2 (g i : Nat) (c0 : w.cell? ⟨ab, ao, none⟩ = some (.slice (some ⟨g, 0, none⟩) m cp)) (hab : ab < w.heap.size) (hg : g < w.heap.size) (hi : i < m) (k n : Int) (p4 : Option Addr) (l4 c4 : Nat) (xs : List Int) (hl4 : xs.length = l4) (h44 : l4 ≤ 1000) (hR : Reads w (.slice p4 l4 c4) xs) (n0 : w.cell? ⟨g, i * 3, none⟩ = some (.int .i64 k)) (n1 : w.cell? ⟨g, i * 3 + 1, none⟩ = some (.int .i64 n)) (n2 : w.cell? ⟨g, i * 3 + 2, none⟩ = some (.slice p4 l4 c4)) : Calls Tryd.prog 52 #[.pointer (some ⟨ab, ao, none⟩), .int .i64 i] w fun e w' => ∃ v, e = .returned (.tuple #[.agg #[.int .i64 k, .int .i64 n, v], .int .i64 0]) ∧ w'.ownsRow w.heap.size 3 1 v l4 (xs.map (Value.int .i64)) ∧ Below w.heap.size w w' := by
  have hii : (0 : Int) ≤ i ∧ (i : Int) < m := by omega
  go_enter Tryd.func52, Tryd.ntmps52
  let o1 : Obj := .cells #[.int .i64 0, .int .i64 0, .slice none 0 0] 79
  let o2 : Obj := .cells #[.int .i64 k, .int .i64 n, .slice p4 l4 c4] 79
  go_wp2_with (first
    | (go_at_call 43; refine (has_ok ⟨ab, ao, none⟩ _ _ m cp _ ((World.cell?_alloc_lt _ _ ⟨ab, ao, none⟩ hab).trans c0)).mono ?_; rintro ev w ⟨rfl, rfl⟩)
    | (go_at_call 45; refine (clone_rd (w := (w.alloc o1).alloc o2) ((hR.alloc o1).alloc o2) (by omega)).mono ?_; rintro ev w4 ⟨p5, c5, rfl, hown4, hB4⟩; rw [hl4] at hown4; simp only [hl4]; have e1 : ((w.alloc o1).alloc o2).heap.size = w.heap.size + 2 := by simp
       have d0 : w4.cell? ⟨w.heap.size + 1, 0, none⟩ = some (.int .i64 k) := (hB4.cell (p := ⟨w.heap.size + 1, 0, none⟩) (by simp)).trans (by simp [go_sem, o1, o2])
       have d1 : w4.cell? ⟨w.heap.size + 1, 1, none⟩ = some (.int .i64 n) := (hB4.cell (p := ⟨w.heap.size + 1, 1, none⟩) (by simp)).trans (by simp [go_sem, o1, o2])
       have d2 : w4.cell? ⟨w.heap.size + 1, 2, none⟩ = some (.slice p4 l4 c4) := (hB4.cell (p := ⟨w.heap.size + 1, 2, none⟩) (by simp)).trans (by simp [go_sem, o1, o2])
       have r0 : w4.cell? ⟨w.heap.size, 0, none⟩ = some (.int .i64 0) := (hB4.cell (p := ⟨w.heap.size, 0, none⟩) (by simp; omega)).trans (by simp [go_sem, o1, o2])
       have r1 : w4.cell? ⟨w.heap.size, 1, none⟩ = some (.int .i64 0) := (hB4.cell (p := ⟨w.heap.size, 1, none⟩) (by simp; omega)).trans (by simp [go_sem, o1, o2])
       have r2 : w4.cell? ⟨w.heap.size, 2, none⟩ = some (.slice none 0 0) := (hB4.cell (p := ⟨w.heap.size, 2, none⟩) (by simp; omega)).trans (by simp [go_sem, o1, o2])
       have q0 : w4.frozen? ⟨w.heap.size, 0, none⟩ = false := (hB4.frozen (p := ⟨w.heap.size, 0, none⟩) (by simp; omega)).trans (by simp [go_sem, o1, o2])
       have q1 : w4.frozen? ⟨w.heap.size, 1, none⟩ = false := (hB4.frozen (p := ⟨w.heap.size, 1, none⟩) (by simp; omega)).trans (by simp [go_sem, o1, o2])
       have q2 : w4.frozen? ⟨w.heap.size, 2, none⟩ = false := (hB4.frozen (p := ⟨w.heap.size, 2, none⟩) (by simp; omega)).trans (by simp [go_sem, o1, o2])
       have f2 : w4.frozen? ⟨w.heap.size + 1, 2, none⟩ = false := (hB4.frozen (p := ⟨w.heap.size + 1, 2, none⟩) (by simp)).trans (by simp [go_sem, o1, o2])))
  refine bodyPost_ret (v := .tuple #[.agg #[.int .i64 k, .int .i64 n, .slice p5 l4 c5], .int .i64 0]) (by simp [results, Tryd.results52, go_sem, r0, r1, r2, d0, d1, d2]) rfl ⟨_, rfl, ?_, ?_⟩
  · have sep : ∀ k, k < w.heap.size + 2 → (Value.slice p5 l4 c5).ownBlock = none ∨ (Value.slice p5 l4 c5).ownBlock ≠ some k := by
      intro k hk
      cases h : (Value.slice p5 l4 c5).ownBlock with
      | none => exact .inl rfl
      | some j =>
        refine .inr (fun e => ?_)
        have := (row_base hown4 h).1
        rw [e1] at this
        cases e
        omega
    exact row_lower ((((hown4.kept (put_grown _ _ _) (sep _ (by simp))).kept (put_grown _ _ _) (sep _ (by simp))).kept (put_grown _ _ _) (sep _ (by simp))).kept (put_grown _ _ _) (sep _ (by simp))) (by omega)
  · exact ((((((((Below.refl _ w).alloc (Nat.le_refl _) o1).alloc (by simp) o2).grown (grown_of hB4) (by simp; omega) (fun _ h => by cases h)).setCell (by simp) _).setCell (by simp) _).setCell (by simp) _).setCell (by simp) _)
end
/-- Where the node i lies. -/
theorem Ar.node {w : World} {ab : Nat} {L : List Tm} {F : Nat → Prop} (A : Ar w ab L F) (i : Nat) (hi : i < L.length) : ∃ g cp p4 c4, w.cell? ⟨ab, 0, none⟩ = some (.slice (some ⟨g, 0, none⟩) L.length cp) ∧ ab < w.heap.size ∧ g < w.heap.size ∧ F g ∧
    w.cell? ⟨g, i * 3, none⟩ = some (.int .i64 L[i].1) ∧ w.cell? ⟨g, i * 3 + 1, none⟩ = some (.int .i64 L[i].2.1) ∧ w.cell? ⟨g, i * 3 + 2, none⟩ = some (.slice p4 L[i].2.2.length c4) ∧ Reads w (.slice p4 L[i].2.2.length c4) L[i].2.2 ∧ L[i].2.2.length ≤ 400 ∧ (∀ k, (Value.slice p4 L[i].2.2.length c4).ownBlock = some k → F k) := by
  obtain ⟨np, cp, mb, D, vs, hA, hR, hM, hm, ho⟩ := A.ex
  have hi' : i < vs.length := by rw [hR.len]; exact hi
  obtain ⟨e0, e1, e2⟩ := cellsOf_at hR.len i hi hi'
  have hrow := hA.row
  rcases hrow.2 with ⟨h, h0⟩ | ⟨g, cap, cur, h, _, hg, _⟩
  · omega
  · cases h
    have hx := hR.row i hi hi'
    obtain ⟨p4, c4, hv⟩ := row_slice hx
    have hlen := hrow.1
    have cAt := fun j hj => World.ownsRow.cellAt hrow j hj
    refine ⟨g, cp, p4, c4, hA.c0, hA.lt, (Array.getElem?_eq_some_iff.1 hg).1, ho g rfl, (cAt _ (by omega)).trans e0, (cAt _ (by omega)).trans e1, ?_, ?_, (shape_k (A.wf.good i hi).1).2.2.2, ?_⟩
    · rw [← hv]
      exact (cAt _ (by omega)).trans e2
    · rw [← hv]
      exact hx.reads
    · rw [← hv]
      exact fun k hk => (hR.foot i hi' k hk).1
theorem Ar.head {w : World} {ab : Nat} {L : List Tm} {F : Nat → Prop} (A : Ar w ab L F) : ∃ np cp, w.cell? ⟨ab, 0, none⟩ = some (.slice np L.length cp) ∧ ab < w.heap.size := by
  obtain ⟨np, cp, mb, D, vs, hA, hR, hM, hm, ho⟩ := A.ex
  exact ⟨np, cp, hA.c0, hA.lt⟩
theorem node_ok {F : Nat → Prop} {w : World} {ab : Nat} {L : List Tm} (A : Ar w ab L F) (i : Nat) (hi : i < L.length) : Calls Tryd.prog 52 #[.pointer (some ⟨ab, 0, none⟩), .int .i64 i] w fun e w' => ∃ p c, e = .returned (.tuple #[.agg #[.int .i64 L[i].1, .int .i64 L[i].2.1, .slice p L[i].2.2.length c], .int .i64 0]) ∧ w'.ownsRow w.heap.size 3 1 (.slice p L[i].2.2.length c) L[i].2.2.length (L[i].2.2.map (Value.int .i64)) ∧ Below w.heap.size w w' := by
  obtain ⟨g, cp, p4, c4, c0, hab, hg, _, n0, n1, n2, hR, h4, _⟩ := A.node i hi
  refine (node_in2 g i c0 hab hg hi _ _ p4 _ c4 L[i].2.2 rfl (by omega) hR n0 n1 n2).mono ?_
  rintro e w' ⟨v, rfl, hown, hB⟩
  obtain ⟨p, c, rfl⟩ := row_slice hown
  exact ⟨p, c, rfl, hown, hB⟩
theorem node_no {F : Nat → Prop} {w : World} {ab : Nat} {L : List Tm} (A : Ar w ab L F) (i : Int) (hi : ¬ (0 ≤ i ∧ i < L.length)) : Calls Tryd.prog 52 #[.pointer (some ⟨ab, 0, none⟩), .int .i64 i] w fun e w' => e = .returned (.tuple #[.agg #[.int .i64 0, .int .i64 0, .slice none 0 0], .int .i64 8]) ∧ Below w.heap.size w w' := by
  obtain ⟨np, cp, c0, hab⟩ := A.head
  exact node_out i c0 hab hi
theorem len_ar {F : Nat → Prop} {w : World} {ab : Nat} {L : List Tm} (A : Ar w ab L F) : Calls Tryd.prog 41 #[.pointer (some ⟨ab, 0, none⟩)] w fun e w' => e = .returned (.int .i64 L.length) ∧ w' = w := by
  obtain ⟨np, cp, c0, hab⟩ := A.head
  exact len_ok c0
end Go.Proofs.YtenllpaochcjfaaDoor
