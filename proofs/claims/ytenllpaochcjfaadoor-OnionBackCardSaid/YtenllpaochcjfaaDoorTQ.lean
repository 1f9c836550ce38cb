/-
  TERMS: the first node of New's arena. Own work.
-/
import Derived.Test.YtenllpaochcjfaaDoorTP
import Derived.Deep.AppendLies
import Derived.Deep.DrawnRows
import Derived.Deep.RegionHeld3
import Derived.RangeFuncBox
namespace Go.Proofs.YtenllpaochcjfaaDoor
open Go.RowKit Go.Maps
set_option maxRecDepth 100000
section
variable {ab ao mb m : Nat} {nv : Value} {nodes : List Value} {k n : Int} {b o l c : Nat} {xs : List Int} {w : World} {np : Option Addr} {cp : Nat}
set_option maxHeartbeats 8000000 in
theorem make_first {H : Type} {kl : Lit} (h0 : rightOf k n 0 = 0) (c0 : w.cell? ⟨ab, ao, none⟩ = some (.slice none 0 0)) (c1 : w.cell? ⟨ab, ao + 1, none⟩ = some (.map none)) (f0 : w.frozen? ⟨ab, ao, none⟩ = false) (f1 : w.frozen? ⟨ab, ao + 1, none⟩ = false) (hab : ab < w.heap.size)
    (hkey : keyOf Tryd.prog 9 (.string (bstr (nameL k n []))) = some kl) :
    Calls Tryd.prog 26 #[.pointer (some ⟨ab, ao, none⟩), .int .i64 k, .int .i64 n, .slice none 0 0] w fun e w' => ∃ g cap mb, e = .returned (.tuple #[.int .i64 0, .int .i64 0]) ∧
      Arena w' ab ao (some ⟨g, 0, none⟩) 1 cap mb [.int .i64 k, .int .i64 n, .slice none 0 0] ((.map [] : DataW H).put kl (.lit (.int .i64 0))) := by
  have hz : (rightOf k n 0 != 0) = false := by simp [h0]
  go_enter Tryd.func26, Tryd.ntmps26
  go_wp2_with (go_at_call 42; refine (right_ok _ _ _ _ _ _).mono ?_; rintro ev w ⟨rfl, rfl⟩)
  go_loopw [26] (fun i wr => i = .int .i64 0 ∧ wr = w) (fun _ _ => 0)
  case atStart => exact ⟨rfl, rfl⟩
  case round =>
    obtain ⟨rfl, rfl⟩ := hrel
    have law9 : Keyed Tryd.prog 9 := string_keyed Tryd.underlying9
    have hmk : ∀ w, (Instr.makeMap 90 none).run Tryd.prog w = .ok (.map (some w.heap.size)) (w.alloc (.map #[] 0)) := fun w => run_makeMap 90 w
    have heqm : ∀ w, (binOp .eql 90 (.map none) (.map none)).run Tryd.prog w = .ok (.bool true) w := fun w => by kernel_rfl
    go_wp2_with (first
      | (go_at_call 44; refine (name_nil k n _).mono ?_; rintro ev w3 ⟨rfl, hB3⟩; have c0' := (hB3.cell (p := ⟨ab, ao, none⟩) hab).trans c0; have c1' := (hB3.cell (p := ⟨ab, ao + 1, none⟩) hab).trans c1; have f0' := (hB3.frozen (p := ⟨ab, ao, none⟩) hab).trans f0; have f1' := (hB3.frozen (p := ⟨ab, ao + 1, none⟩) hab).trans f1; have hlook := Maps.look_nil (w := w3) true law9 Tryd.underlying90 (zero3 w3) hkey; have hab3 : ab < w3.heap.size := Nat.lt_of_lt_of_le hab hB3.size; have cA0 := (World.cell?_alloc_lt w3 (.map #[] 0) ⟨ab, ao, none⟩ hab3).trans c0'; have cA1 := (World.cell?_alloc_lt w3 (.map #[] 0) ⟨ab, ao + 1, none⟩ hab3).trans c1'; have fA0 := (((Below.refl _ w3).alloc (Nat.le_refl _) (.map #[] 0)).frozen (p := ⟨ab, ao, none⟩) hab3).trans f0'; have fA1 := (((Below.refl _ w3).alloc (Nat.le_refl _) (.map #[] 0)).frozen (p := ⟨ab, ao + 1, none⟩) hab3).trans f1'; have cB0 := (World.cell?_setCell_other (w3.alloc (.map #[] 0)) ⟨ab, ao + 1, none⟩ ⟨ab, ao, none⟩ (.map (some w3.heap.size)) (by simp)).trans cA0; have cB1 := World.cell?_setCell_same (v := .map (some w3.heap.size)) (h := cA1)))
    have hab3' : ab < (w3.setCell ⟨ab, ao + 1, none⟩ (.map (some w3.heap.size))).heap.size := by rw [World.size_setCell]; exact hab3
    have A : Arena ((w3.setCell ⟨ab, ao + 1, none⟩ (.map (some w3.heap.size))).alloc (.map #[] 0)) ab ao none 0 0 w3.heap.size [] (.map [] : DataW H) :=
      ⟨(World.cell?_alloc_lt _ _ ⟨ab, ao, none⟩ hab3').trans ((World.cell?_setCell_other w3 _ ⟨ab, ao, none⟩ _ (by simp)).trans c0'), (World.cell?_alloc_lt _ _ ⟨ab, ao + 1, none⟩ hab3').trans (World.cell?_setCell_same w3 _ _ c1'),
        (((Below.refl _ _).alloc (Nat.le_refl _) (.map #[] 0)).frozen (p := ⟨ab, ao, none⟩) hab3').trans (by rw [World.frozen?_setCell]; exact f0'), World.ownsRow_nil _ _ _ _,
        by have h := World.ownsMap_made (H := H) (w3.setCell ⟨ab, ao + 1, none⟩ (.map (some w3.heap.size))) Tryd.prog 9 (plainElem Tryd.prog 3); rwa [World.size_setCell] at h, by simp; omega, by omega, fun a h => by cases h⟩
    clear cA0 cA1 fA0 fA1 cB0 cB1 hlook hab3'
    generalize (w3.setCell ⟨ab, ao + 1, none⟩ (.map (some w3.heap.size))).alloc (.map #[] 0) = wq at A ⊢
    generalize w3.heap.size = mb at A ⊢
    have hhas : True := trivial
    have hab3 : ab < wq.heap.size := A.lt
    have hrow3 : wq.ownsRow 0 79 3 (.slice none 0 0) 0 [] := A.row
    obtain ⟨i0, hi, hz0, hz1, hz2⟩ := info_parts (P := Tryd.prog) (e := 79) (z := .agg #[.int .i64 0, .int .i64 0, .slice none 0 0]) (size := 3) (bytes := 40) (by kernel_rfl)
    have keepRow : ∀ {w1 w2 : World}, Below w1.heap.size w1 w2 → w1.ownsRow 0 79 3 (.slice none 0 0) 0 [] → w2.ownsRow 0 79 3 (.slice none 0 0) 0 [] := fun hB h => h.kept (grown_of hB) (by by_cases h : (Value.slice none 0 0).ownBlock = none; exact .inl h; exact .inr h)
    have hs3 : wq.cell? ⟨ab, ao, none⟩ = some (.slice none 0 0) := A.c0
    have hf3 : wq.frozen? ⟨ab, ao, none⟩ = false := A.f0
    have hnbo : some ab ≠ (Value.slice none 0 0).ownBlock := by simp [Value.ownBlock]
    have hnbm : some mb ≠ (Value.slice none 0 0).ownBlock := by simp [Value.ownBlock]
    have hs3' : wq.cell? ⟨ab, ao + 1, none⟩ = some (.map (some mb)) := A.c1
    go_region_law (first
      | (refine step_append_lies _ (by rfl) _ _ 32 (by rfl) 0 79 i0 _ 3 40 Tryd.underlying32 hi hz0 hz1 hz2 (by rfl) (by decide) (.slice none 0 0) 0 [] (by rfl) (keepRow ((Below.refl _ wq.drew).alloc (Nat.le_refl _) _) hrow4) ⟨wq.drew.heap.size, 0, none⟩ 1 1 [.int .i64 k, .int .i64 n, .slice none 0 0] (by rfl) (by rfl) (World.news_of_block (heap_alloc_new wq.drew _)) (by simp [Value.oneCell']) (by omega) (by unfold maxLen; omega) (by omega) (Nat.zero_le _) _ rfl ?_; intro g cap w6 hown6 hg6 hat6 hlt6; have hs6 := (hg6.cell_far ⟨ab, ao, none⟩ (hab5 _) hnbo).trans ((World.cell?_alloc_lt _ _ ⟨ab, ao, none⟩ hab4).trans hs4); have hm6 := (((show wq.drew.ownsMap Tryd.prog 9 (plainElem Tryd.prog 3) mb 0 (.map [] : DataW H) from A.own).kept (grown_of hB4) (by simp)).alloc (.cells #[.int .i64 k, .int .i64 n, .slice none 0 0] 79)).kept hg6 hnbm; have hs6' := (hg6.cell_far ⟨ab, ao + 1, none⟩ (hab5 _) hnbo).trans hs5'; have hf6 : w6.frozen? ⟨ab, ao, none⟩ = false := (hg6.frozen_far ⟨ab, ao, none⟩ (hab5 _) hnbo).trans ((((Below.refl _ wq.drew).alloc (Nat.le_refl _) _).frozen (p := ⟨ab, ao, none⟩) hab4).trans ((hB4.frozen (p := ⟨ab, ao, none⟩) hab3).trans hf3)))
      | (go_simp; go_at_call 45; refine (clone_nil _).mono ?_; rintro ev w4 ⟨rfl, rfl⟩; have hB4 := Below.refl wq.drew.heap.size wq.drew; have hown4 := World.ownsRow_nil wq.drew wq.drew.heap.size 3 1; have hs4 := (hB4.cell (p := ⟨ab, ao, none⟩) hab3).trans hs3; have hs4' := (hB4.cell (p := ⟨ab, ao + 1, none⟩) hab3).trans hs3'; have hrow4 := keepRow hB4 hrow3; have hab4 : ab < wq.drew.heap.size := Nat.lt_of_lt_of_le hab3 hB4.size; have hab5 := fun ob => Nat.lt_of_lt_of_le hab4 ((Below.refl _ wq.drew).alloc (Nat.le_refl _) ob).size; have hs5' := (World.cell?_alloc_lt wq.drew (.cells #[.int .i64 k, .int .i64 n, .slice none 0 0] 79) ⟨ab, ao + 1, none⟩ hab4).trans hs4'))
    all_goals (
      have hm7 := hm6.setCell (a := ⟨ab, ao, none⟩) A.map (.slice (some ⟨g, 0, none⟩) (0 + 1) cap)
      have hs7 := (World.cell?_setCell_other w6 ⟨ab, ao, none⟩ ⟨ab, ao + 1, none⟩ (.slice (some ⟨g, 0, none⟩) (0 + 1) cap) (by simp)).trans hs6'
      try simp only [Exit.then]
      go_wp2_with (first
        | (at_mapUpdate; refine wpList_mapUpdate_in _ rfl _ _ _ 90 rfl 9 3 law9 Tryd.underlying90 _ mb 0 _ rfl hm7 (by unfold maxLen; omega) _ _ _ rfl rfl hkey _ [] (plainElem_int Tryd.underlying3 (WalkArith.wf_i64 (by omega))) ?_; intro w8 hown8 hturn8)))
    all_goals (
      go_ret2
      exact ⟨g, cap, mb, rfl, (new_arena A (Below.refl _ _) hB4 hown4 hg6 hown6 hat6 hlt6 hs6 hf6 hs7 hturn8 hown8).1⟩)
end
end Go.Proofs.YtenllpaochcjfaaDoor
