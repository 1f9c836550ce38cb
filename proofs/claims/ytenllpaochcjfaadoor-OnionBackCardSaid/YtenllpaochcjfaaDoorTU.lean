/-
  TERMS: Node, out of range and in. Own work.
-/
import Derived.Test.YtenllpaochcjfaaDoorTS
import Derived.Deep.AppendLies
import Derived.Deep.DrawnRows
namespace Go.Proofs.YtenllpaochcjfaaDoor
open Go.RowKit Go.Maps
set_option maxRecDepth 100000
attribute [local go_sem ↓] Go.wp_at_zero Go.wp_at_succ
section
variable {ab ao mb m : Nat} {nv : Value} {nodes : List Value} {k n : Int} {b o l c : Nat} {xs : List Int} {w : World} {np : Option Addr} {cp : Nat}
set_option maxHeartbeats 2000000 in
theorem node_out (i : Int) (c0 : w.cell? ⟨ab, ao, none⟩ = some (.slice np m cp)) (hab : ab < w.heap.size) (hi : ¬ (0 ≤ i ∧ i < m)) : Calls Tryd.prog 52 #[.pointer (some ⟨ab, ao, none⟩), .int .i64 i] w fun e w' => e = .returned (.tuple #[.agg #[.int .i64 0, .int .i64 0, .slice none 0 0], .int .i64 8]) ∧ Below w.heap.size w w' := by
  go_enter Tryd.func52, Tryd.ntmps52
  go_wp2_with (go_at_call 43; refine (has_ok ⟨ab, ao, none⟩ _ np m cp _ ((World.cell?_alloc_lt _ _ ⟨ab, ao, none⟩ hab).trans c0)).mono ?_; rintro ev w ⟨rfl, rfl⟩)
  exact bodyPost_ret (v := .tuple #[.agg #[.int .i64 0, .int .i64 0, .slice none 0 0], .int .i64 8]) (by simp [results, Tryd.results52, go_sem]) rfl ⟨rfl, (Below.refl _ w).alloc (Nat.le_refl _) _⟩
set_option maxHeartbeats 4000000 in
theorem node_in (g i : Nat) (c0 : w.cell? ⟨ab, ao, none⟩ = some (.slice (some ⟨g, 0, none⟩) m cp)) (hab : ab < w.heap.size) (hg : g < w.heap.size) (hi : i < m) (k n : Int) (b4 o4 l4 c4 : Nat) (xs : List Int) (hl4 : xs.length = l4) (h44 : l4 ≤ 1000) (hb4 : b4 < w.heap.size) (hc4 : ∀ t, t < l4 → w.cell? ⟨b4, o4 + t, none⟩ = some (.int .i64 (xs.getD t 0))) (n0 : w.cell? ⟨g, i * 3, none⟩ = some (.int .i64 k)) (n1 : w.cell? ⟨g, i * 3 + 1, none⟩ = some (.int .i64 n)) (n2 : w.cell? ⟨g, i * 3 + 2, none⟩ = some (.slice (some ⟨b4, o4, none⟩) l4 c4)) : Calls Tryd.prog 52 #[.pointer (some ⟨ab, ao, none⟩), .int .i64 i] w fun e w' => ∃ v, e = .returned (.tuple #[.agg #[.int .i64 k, .int .i64 n, v], .int .i64 0]) ∧ w'.ownsRow w.heap.size 3 1 v l4 (xs.map (Value.int .i64)) ∧ Below w.heap.size w w' := by
  have hii : (0 : Int) ≤ i ∧ (i : Int) < m := by omega
  go_enter Tryd.func52, Tryd.ntmps52
  let o1 : Obj := .cells #[.int .i64 0, .int .i64 0, .slice none 0 0] 79
  let o2 : Obj := .cells #[.int .i64 k, .int .i64 n, .slice (some ⟨b4, o4, none⟩) l4 c4] 79
  go_wp2_with (first
    | (go_at_call 43; refine (has_ok ⟨ab, ao, none⟩ _ _ m cp _ ((World.cell?_alloc_lt _ _ ⟨ab, ao, none⟩ hab).trans c0)).mono ?_; rintro ev w ⟨rfl, rfl⟩)
    | (go_at_call 45; refine (clone_ok b4 o4 l4 c4 xs ((w.alloc o1).alloc o2) hl4 h44 (by simp; omega) (fun t ht => (World.cell?_alloc_lt _ _ ⟨b4, o4 + t, none⟩ (by simp; omega)).trans ((World.cell?_alloc_lt _ _ ⟨b4, o4 + t, none⟩ hb4).trans (hc4 t ht)))).mono ?_; rintro ev w4 ⟨v4, rfl, hown4, hB4⟩; obtain ⟨p5, c5, rfl⟩ := row_slice hown4; have e1 : ((w.alloc o1).alloc o2).heap.size = w.heap.size + 2 := by simp
       have d0 : w4.cell? ⟨w.heap.size + 1, 0, none⟩ = some (.int .i64 k) := (hB4.cell (p := ⟨w.heap.size + 1, 0, none⟩) (by simp)).trans (by simp [go_sem, o1, o2])
       have d1 : w4.cell? ⟨w.heap.size + 1, 1, none⟩ = some (.int .i64 n) := (hB4.cell (p := ⟨w.heap.size + 1, 1, none⟩) (by simp)).trans (by simp [go_sem, o1, o2])
       have d2 : w4.cell? ⟨w.heap.size + 1, 2, none⟩ = some (.slice (some ⟨b4, o4, none⟩) l4 c4) := (hB4.cell (p := ⟨w.heap.size + 1, 2, none⟩) (by simp)).trans (by simp [go_sem, o1, o2])
       have r0 : w4.cell? ⟨w.heap.size, 0, none⟩ = some (.int .i64 0) := (hB4.cell (p := ⟨w.heap.size, 0, none⟩) (by simp; omega)).trans (by simp [go_sem, o1, o2])
       have r1 : w4.cell? ⟨w.heap.size, 1, none⟩ = some (.int .i64 0) := (hB4.cell (p := ⟨w.heap.size, 1, none⟩) (by simp; omega)).trans (by simp [go_sem, o1, o2])
       have r2 : w4.cell? ⟨w.heap.size, 2, none⟩ = some (.slice none 0 0) := (hB4.cell (p := ⟨w.heap.size, 2, none⟩) (by simp; omega)).trans (by simp [go_sem, o1, o2])
       have q0 : w4.frozen? ⟨w.heap.size, 0, none⟩ = false := (hB4.frozen (p := ⟨w.heap.size, 0, none⟩) (by simp; omega)).trans (by simp [go_sem, o1, o2])
       have q1 : w4.frozen? ⟨w.heap.size, 1, none⟩ = false := (hB4.frozen (p := ⟨w.heap.size, 1, none⟩) (by simp; omega)).trans (by simp [go_sem, o1, o2])
       have q2 : w4.frozen? ⟨w.heap.size, 2, none⟩ = false := (hB4.frozen (p := ⟨w.heap.size, 2, none⟩) (by simp; omega)).trans (by simp [go_sem, o1, o2])
       have f2 : w4.frozen? ⟨w.heap.size + 1, 2, none⟩ = false := (hB4.frozen (p := ⟨w.heap.size + 1, 2, none⟩) (by simp)).trans (by simp [go_sem, o1, o2])))
  refine bodyPost_ret (v := .tuple #[.agg #[.int .i64 k, .int .i64 n, .slice p5 l4 c5], .int .i64 0]) (by simp [results, Tryd.results52, go_sem, r0, r1, r2, d0, d1, d2]) rfl ⟨_, rfl, ?_, ?_⟩
  · have sep : ∀ k, k < w.heap.size + 2 → (Value.slice p5 l4 c5).ownBlock = none ∨ (Value.slice p5 l4 c5).ownBlock ≠ some k := by
      intro k hk
      cases h : (Value.slice p5 l4 c5).ownBlock with
      | none => exact .inl rfl
      | some j =>
        refine .inr (fun e => ?_)
        have := (row_base hown4 h).1
        rw [e1] at this
        cases e
        omega
    exact row_lower ((((hown4.kept (put_grown _ _ _) (sep _ (by simp))).kept (put_grown _ _ _) (sep _ (by simp))).kept (put_grown _ _ _) (sep _ (by simp))).kept (put_grown _ _ _) (sep _ (by simp))) (by omega)
  · exact ((((((((Below.refl _ w).alloc (Nat.le_refl _) o1).alloc (by simp) o2).grown (grown_of hB4) (by simp; omega) (fun _ h => by cases h)).setCell (by simp) _).setCell (by simp) _).setCell (by simp) _).setCell (by simp) _)
end
end Go.Proofs.YtenllpaochcjfaaDoor
