/-
  TERMS: name, Clone and Make's new way with no args (nil). Own work.
-/
import Derived.Test.YtenllpaochcjfaaDoorTO
import Derived.Deep.AppendLies
import Derived.Deep.DrawnRows
import Derived.Deep.RegionHeld3
import Derived.RangeFuncBox
namespace Go.Proofs.YtenllpaochcjfaaDoor
open Go.RowKit Go.Maps
set_option maxRecDepth 100000
set_option maxHeartbeats 4000000 in
theorem name_nil (k n : Int) (w : World) : Calls Tryd.prog 44 #[.int .i64 k, .int .i64 n, .slice none 0 0] w fun e w' => e = .returned (.string (bstr (nameL k n []))) ∧ Below w.heap.size w w' := by
  obtain ⟨i0, hi, hz0, hz1, hz2⟩ := info_parts (P := Tryd.prog) (e := 5) (z := .int .u8 0) (size := 1) (bytes := 1) (by kernel_rfl)
  go_enter Tryd.func44, Tryd.ntmps44
  go_wp2_with (first
    | (at_make; refine wpList_make_own _ rfl _ _ 110 rfl w.heap.size 5 i0 (.int .u8 0) 1 Tryd.underlying110 hi hz0 hz1 _ _ _ 9 rfl rfl (by omega) (by rw [hz2]; omega) (by unfold maxLen; omega) (Nat.le_refl _) ?_; intro w0 hown0 hgrow0)
    | (at_builtin; refine wpList_append_fits _ rfl (.tmp 16) (.tmp 19) 110 rfl w.heap.size 5 i0 1 Tryd.underlying110 hi hz1 w.heap.size 0 9 [] rfl (hown0.alloc _) ⟨w0.heap.size, 0, none⟩ 1 1 [.int .u8 (k % 256)] rfl rfl (news1 _ _ _) (fun u hu => by simp at hu; subst hu; rfl) (by omega) ?_; intro w1 hown1 hgrow1))
  go_loopw [7, 21] (fun b i wr => ∃ j : Nat, j ≤ 8 ∧ i = .int .i64 j ∧ b = .slice (some ⟨w.heap.size, 0, none⟩) (1 + j) 9 ∧ wr.ownsRow w.heap.size 5 1 (.slice (some ⟨w.heap.size, 0, none⟩) (1 + j) 9) (1 + j) (.int .u8 (k % 256) :: (List.range j).map (byN n)) ∧ Below w.heap.size w wr)
    (fun _ i _ => 8 - (intOf i).toNat)
  case atStart => exact ⟨0, by omega, rfl, rfl, hown1, ((((Below.refl _ _).grown hgrow0 (Nat.le_refl _) (fun _ h => by cases h)).alloc hgrow0.size _).grown hgrow1 (by have := hgrow0.size; simp; omega) (fun _ hk => Nat.le_of_eq (Option.some.inj hk)))⟩
  case round =>
    obtain ⟨j, hj, rfl, rfl, hown, hB⟩ := hrel
    go_wp2_with (at_builtin; refine wpList_append_fits _ rfl (.tmp 24) (.tmp 30) 110 rfl w.heap.size 5 i0 1 Tryd.underlying110 hi hz1 w.heap.size (1 + j) 9 _ rfl (hown.alloc _) ⟨wr.heap.size, 0, none⟩ 1 1 [byN n j] rfl rfl (news1 _ _ _) (fun u hu => by simp at hu; subst hu; rfl) (by omega) ?_; intro w2 hown2 hgrow2)
    · refine ⟨⟨j + 1, by omega, by simp, by simp [Nat.add_assoc], ?_, (hB.alloc hB.size _).grown hgrow2 (by have := hB.size; simp; omega) (fun _ hk => Nat.le_of_eq (Option.some.inj hk))⟩, by simp [intOf]; omega⟩
      rw [List.range_succ, List.map_append, ← List.cons_append]
      simpa [Nat.add_assoc] using hown2
    · have e8 : j = 8 := by omega
      subst e8
      have hown3 : wr.ownsRow w.heap.size 5 1 (.slice (some ⟨w.heap.size, 0, none⟩) 9 9) 9 (nmH k n ++ ([] : List Int).flatMap nmA) := by simpa [nmH] using hown
      rw [nameL_cells] at hown3
      have hs := row_string hown3 (by rw [nameL_len]; rfl)
      go_loopw [7, 35] (fun b' i w2 => i = .int .i64 0 ∧ b' = .slice (some ⟨w.heap.size, 0, none⟩) 9 9 ∧ w2 = wr) (fun _ _ _ => 0)
      case atStart => exact ⟨rfl, rfl, rfl⟩
      case round =>
        obtain ⟨rfl, rfl, rfl⟩ := hrel
        go_wp2
        go_ret
        exact ⟨rfl, hB⟩
set_option maxHeartbeats 1000000 in
theorem clone_nil (w : World) : Calls Tryd.prog 45 #[.slice none 0 0] w fun e w' => e = .returned (.slice none 0 0) ∧ w' = w := by
  have heq := fun w => run_eql_slice_nil (P := Tryd.prog) w 23 3 none 0 0 Tryd.underlying23
  go_enter Tryd.func45, Tryd.ntmps45
  go_wp2_with fail
  go_ret
  exact ⟨rfl, rfl⟩
attribute [local go_sem ↓] Go.wp_at_zero Go.wp_at_succ
section
variable {ab ao mb m : Nat} {nv : Value} {nodes : List Value} {k n : Int} {b o l c : Nat} {xs : List Int} {w : World} {np : Option Addr} {cp : Nat}
set_option maxHeartbeats 8000000 in
theorem make_new_nil {H : Type} {D : DataW H} {kl : Lit} (h0 : rightOf k n 0 = 0) (A : Arena w ab ao np m cp mb nodes D) (hm : m < 1048576)
    (hkey : keyOf Tryd.prog 9 (.string (bstr (nameL k n []))) = some kl) (hhas : Maps.has D kl = false) :
    Calls Tryd.prog 26 #[.pointer (some ⟨ab, ao, none⟩), .int .i64 k, .int .i64 n, .slice none 0 0] w fun e w' => ∃ g cap, e = .returned (.tuple #[.int .i64 m, .int .i64 0]) ∧
      Arena w' ab ao (some ⟨g, 0, none⟩) (m + 1) cap mb (nodes ++ [.int .i64 k, .int .i64 n, .slice none 0 0]) (D.put kl (.lit (.int .i64 m))) ∧ w'.ownsRow w.heap.size 3 1 (.slice none 0 0) 0 ([] : List Value) ∧ ((Value.slice np m cp).ownBlock = some g ∨ w.heap.size ≤ g) ∧ w.heap.size ≤ w'.heap.size ∧
      (∀ k, k < w.heap.size → k ≠ ab → k ≠ mb → (Value.slice np m cp).ownBlock ≠ some k → w'.heap[k]? = w.heap[k]?) ∧ (w'.os = w.os ∧ w'.tape = w.tape ∧ w'.output = w.output) := by
  have c0 := A.c0
  have c1 := A.c1
  have f0 := A.f0
  have hrow := A.row
  have hown := A.own
  have hab := A.lt
  have hmab := A.map
  have hz : (rightOf k n 0 != 0) = false := by simp [h0]
  go_enter Tryd.func26, Tryd.ntmps26
  go_wp2_with (go_at_call 42; refine (right_ok _ _ _ _ _ _).mono ?_; rintro ev w ⟨rfl, rfl⟩)
  go_loopw [26] (fun i wr => i = .int .i64 0 ∧ wr = w) (fun _ _ => 0)
  case atStart => exact ⟨rfl, rfl⟩
  case round =>
    obtain ⟨rfl, rfl⟩ := hrel
    have law9 : Keyed Tryd.prog 9 := string_keyed Tryd.underlying9
    go_wp2_with (first
      | (go_at_call 44; refine (name_nil k n _).mono ?_; rintro ev w3 ⟨rfl, hB3⟩; have c0' := (hB3.cell (p := ⟨ab, ao, none⟩) hab).trans c0; have c1' := (hB3.cell (p := ⟨ab, ao + 1, none⟩) hab).trans c1; have hown' := hown.kept (grown_of hB3) (by simp))
      | (at_lookup; refine wpList_lookup_own_ok_int _ rfl _ _ 90 rfl 9 3 .i64 law9 Tryd.underlying90 Tryd.underlying3 (zero3 _) mb m D rfl hown' _ kl rfl hkey ?_))
    · intro cc hat hwc
      have hmm : ¬ (1048576 : Int) ≤ (m : Int) := by omega
      have heqm := eqlMap mb
      go_wp2_with fail
      have hab3 : ab < w3.heap.size := Nat.lt_of_lt_of_le hab hB3.size
      have hrow3 : w3.ownsRow 0 79 3 (.slice np m cp) m nodes := hrow.kept (grown_of hB3) (by by_cases h : (Value.slice np m cp).ownBlock = none; exact .inl h; exact .inr h)
      obtain ⟨i0, hi, hz0, hz1, hz2⟩ := info_parts (P := Tryd.prog) (e := 79) (z := .agg #[.int .i64 0, .int .i64 0, .slice none 0 0]) (size := 3) (bytes := 40) (by kernel_rfl)
      have keepRow : ∀ {w1 w2 : World}, Below w1.heap.size w1 w2 → w1.ownsRow 0 79 3 (.slice np m cp) m nodes → w2.ownsRow 0 79 3 (.slice np m cp) m nodes := fun hB h => h.kept (grown_of hB) (by by_cases h : (Value.slice np m cp).ownBlock = none; exact .inl h; exact .inr h)
      have hs3 : w3.cell? ⟨ab, ao, none⟩ = some (.slice np m cp) := c0'
      have hf3 : w3.frozen? ⟨ab, ao, none⟩ = false := (hB3.frozen (p := ⟨ab, ao, none⟩) hab).trans f0
      have hnbo : some ab ≠ (Value.slice np m cp).ownBlock := fun h => by
        cases np with
        | none => simp [Value.ownBlock] at h
        | some a => exact (A.apart a rfl).1 (by simpa [Value.ownBlock] using h.symm)
      have hnbm : some mb ≠ (Value.slice np m cp).ownBlock := fun h => by
        cases np with
        | none => simp [Value.ownBlock] at h
        | some a => exact (A.apart a rfl).2 (by simpa [Value.ownBlock] using h.symm)
      have hs3' : w3.cell? ⟨ab, ao + 1, none⟩ = some (.map (some mb)) := c1'
      go_region_law (first
        | (refine step_append_lies _ (by rfl) _ _ 32 (by rfl) 0 79 i0 _ 3 40 Tryd.underlying32 hi hz0 hz1 hz2 (by rfl) (by decide) (.slice np m cp) m nodes (by rfl) (keepRow ((Below.refl _ w3.drew).alloc (Nat.le_refl _) _) hrow4) ⟨w3.drew.heap.size, 0, none⟩ 1 1 [.int .i64 k, .int .i64 n, .slice none 0 0] (by rfl) (by rfl) (World.news_of_block (heap_alloc_new w3.drew _)) (by simp [Value.oneCell']) (by omega) (by unfold maxLen; omega) (by omega) (Nat.zero_le _) _ rfl ?_; intro g cap w6 hown6 hg6 hat6 hlt6; have hs6 := (hg6.cell_far ⟨ab, ao, none⟩ (hab5 _) hnbo).trans ((World.cell?_alloc_lt _ _ ⟨ab, ao, none⟩ hab4).trans hs4); have hm6 := (((show w3.drew.ownsMap Tryd.prog 9 (plainElem Tryd.prog 3) mb m D from hown').kept (grown_of hB4) (by simp)).alloc (.cells #[.int .i64 k, .int .i64 n, .slice none 0 0] 79)).kept hg6 hnbm; have hs6' := (hg6.cell_far ⟨ab, ao + 1, none⟩ (hab5 _) hnbo).trans hs5'; have hf6 : w6.frozen? ⟨ab, ao, none⟩ = false := (hg6.frozen_far ⟨ab, ao, none⟩ (hab5 _) hnbo).trans ((((Below.refl _ w3.drew).alloc (Nat.le_refl _) _).frozen (p := ⟨ab, ao, none⟩) hab4).trans ((hB4.frozen (p := ⟨ab, ao, none⟩) hab3).trans hf3)))
        | (go_simp; go_at_call 45; refine (clone_nil _).mono ?_; rintro ev w4 ⟨rfl, rfl⟩; have hB4 := Below.refl w3.drew.heap.size w3.drew; have hown4 := World.ownsRow_nil w3.drew w3.drew.heap.size 3 1; have hs4 := (hB4.cell (p := ⟨ab, ao, none⟩) hab3).trans hs3; have hs4' := (hB4.cell (p := ⟨ab, ao + 1, none⟩) hab3).trans hs3'; have hrow4 := keepRow hB4 hrow3; have hab4 : ab < w3.drew.heap.size := Nat.lt_of_lt_of_le hab3 hB4.size; have hab5 := fun ob => Nat.lt_of_lt_of_le hab4 ((Below.refl _ w3.drew).alloc (Nat.le_refl _) ob).size; have hs5' := (World.cell?_alloc_lt w3.drew (.cells #[.int .i64 k, .int .i64 n, .slice none 0 0] 79) ⟨ab, ao + 1, none⟩ hab4).trans hs4'))
      all_goals (
        have hm7 := hm6.setCell (a := ⟨ab, ao, none⟩) hmab (.slice (some ⟨g, 0, none⟩) (m + 1) cap)
        have hs7 := (World.cell?_setCell_other w6 ⟨ab, ao, none⟩ ⟨ab, ao + 1, none⟩ (.slice (some ⟨g, 0, none⟩) (m + 1) cap) (by simp)).trans hs6'
        try simp only [Exit.then]
        go_wp2_with (first
          | (at_mapUpdate; refine wpList_mapUpdate_in _ rfl _ _ _ 90 rfl 9 3 law9 Tryd.underlying90 _ mb m D rfl hm7 (by unfold maxLen; omega) _ _ _ rfl rfl hkey _ [] (plainElem_int Tryd.underlying3 (WalkArith.wf_i64 (by omega))) ?_; intro w8 hown8 hturn8)))
      all_goals (
        go_ret2
        exact ⟨g, cap, rfl, new_arena A hB3 hB4 hown4 hg6 hown6 hat6 hlt6 hs6 hf6 hs7 hturn8 hown8⟩)
end
end Go.Proofs.YtenllpaochcjfaaDoor
