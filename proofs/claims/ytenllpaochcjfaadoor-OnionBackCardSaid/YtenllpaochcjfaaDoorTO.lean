/-
  TERMS: AN ARENA, and Make's new way: the node is laid, the place is written. Own work.
-/
import Derived.Test.YtenllpaochcjfaaDoorTN
import Derived.Deep.AppendLies
import Derived.Deep.DrawnRows
import Derived.Deep.RegionHeld3
import Derived.RangeFuncBox
namespace Go.Proofs.YtenllpaochcjfaaDoor
open Go.RowKit Go.Maps
set_option maxRecDepth 100000
/-- AN ARENA: two cells, the first a row of nodes, the second a map of places. -/
structure Arena {H : Type} (w : World) (ab ao : Nat) (np : Option Addr) (m cp mb : Nat) (nodes : List Value) (D : DataW H) : Prop where
  c0 : w.cell? ⟨ab, ao, none⟩ = some (.slice np m cp)
  c1 : w.cell? ⟨ab, ao + 1, none⟩ = some (.map (some mb))
  f0 : w.frozen? ⟨ab, ao, none⟩ = false
  row : w.ownsRow 0 79 3 (.slice np m cp) m nodes
  own : w.ownsMap Tryd.prog 9 (plainElem Tryd.prog 3) mb m D
  lt : ab < w.heap.size
  map : mb ≠ ab
  apart : ∀ a, np = some a → a.block ≠ ab ∧ a.block ≠ mb
theorem row_slice {w : World} {base e size n : Nat} {v : Value} {xs : List Value} (h : w.ownsRow base e size v n xs) : ∃ p c, v = .slice p n c := by
  rcases h.2 with ⟨h1, h2⟩ | ⟨g, cap, cur, h1, _⟩
  · subst h2
    exact ⟨none, 0, h1⟩
  · exact ⟨_, _, h1⟩
theorem row_base {w : World} {base e size n : Nat} {v : Value} {xs : List Value} (h : w.ownsRow base e size v n xs) {k : Nat} (hk : v.ownBlock = some k) : base ≤ k ∧ k < w.heap.size := by
  rcases h.2 with ⟨rfl, _⟩ | ⟨g, cap, cur, rfl, hb, hg, _⟩
  · simp [Value.ownBlock] at hk
  · obtain rfl : g = k := by simpa [Value.ownBlock] using hk
    exact ⟨hb, (Array.getElem?_eq_some_iff.1 hg).1⟩
theorem row_lower {w : World} {base base' e size n : Nat} {v : Value} {xs : List Value} (h : w.ownsRow base e size v n xs) (hle : base' ≤ base) : w.ownsRow base' e size v n xs := by
  refine ⟨h.1, ?_⟩
  rcases h.2 with h1 | ⟨g, cap, cur, h1, hb, r⟩
  · exact .inl h1
  · exact .inr ⟨g, cap, cur, h1, Nat.le_trans hle hb, r⟩
theorem put_grown (w : World) (a : Addr) (v : Value) : w.grownBy (w.setCell a v) (some a.block) :=
  ⟨rfl, rfl, rfl, (KeepsWalks.setCell w _ v).size, fun k _ hk => Below.heap_setCell _ _ _ k (fun e => hk (by rw [e]))⟩
theorem new_arena {H : Type} {w w3 w4 w6 w8 : World} {ab ao mb m cp g cap l c4 : Nat} {np p4 : Option Addr} {nodes ns ys : List Value} {D D' : DataW H} {obj : Obj}
    (A : Arena w ab ao np m cp mb nodes D) (hB3 : Below w.heap.size w w3) (hB4 : Below w3.drew.heap.size w3.drew w4) (hown4 : w4.ownsRow w3.drew.heap.size 3 1 (.slice p4 l c4) l ys)
    (hg6 : (w4.alloc obj).grownBy w6 (Value.slice np m cp).ownBlock) (hown6 : w6.ownsRow 0 79 3 (.slice (some ⟨g, 0, none⟩) (m + 1) cap) (m + 1) ns) (hat6 : (Value.slice np m cp).ownBlock = some g ∨ g = (w4.alloc obj).heap.size) (hlt6 : g < w6.heap.size)
    (hs6 : w6.cell? ⟨ab, ao, none⟩ = some (.slice np m cp)) (hf6 : w6.frozen? ⟨ab, ao, none⟩ = false)
    (hs7 : (w6.setCell ⟨ab, ao, none⟩ (.slice (some ⟨g, 0, none⟩) (m + 1) cap)).cell? ⟨ab, ao + 1, none⟩ = some (.map (some mb)))
    (hturn : (w6.setCell ⟨ab, ao, none⟩ (.slice (some ⟨g, 0, none⟩) (m + 1) cap)).mapTurned w8 mb) (hown8 : w8.ownsMap Tryd.prog 9 (plainElem Tryd.prog 3) mb (m + 1) D') :
    Arena w8 ab ao (some ⟨g, 0, none⟩) (m + 1) cap mb ns D' ∧ w8.ownsRow w.heap.size 3 1 (.slice p4 l c4) l ys ∧ ((Value.slice np m cp).ownBlock = some g ∨ w.heap.size ≤ g) ∧ w.heap.size ≤ w8.heap.size ∧
      (∀ k, k < w.heap.size → k ≠ ab → k ≠ mb → (Value.slice np m cp).ownBlock ≠ some k → w8.heap[k]? = w.heap[k]?) ∧ (w8.os = w.os ∧ w8.tape = w.tape ∧ w8.output = w.output) := by
  have s3 : w.heap.size ≤ w3.heap.size := hB3.size
  have s4 : w3.heap.size ≤ w4.heap.size := hB4.size
  have s5 : (w4.alloc obj).heap.size = w4.heap.size + 1 := by simp
  have s6 := hg6.size
  have hg7 := put_grown w6 ⟨ab, ao, none⟩ (.slice (some ⟨g, 0, none⟩) (m + 1) cap)
  have hg8 := hturn.grown
  have s7 := hg7.size
  have s8 := hg8.size
  have hmb := A.own.lt
  have hab := A.lt
  have hgab : g ≠ ab ∧ g ≠ mb := by
    rcases hat6 with h | h
    · cases np with
      | none => simp [Value.ownBlock] at h
      | some a =>
        have h2 := A.apart a rfl
        have h3 : a.block = g := by simpa [Value.ownBlock] using h
        exact ⟨by omega, by omega⟩
    · exact ⟨by omega, by omega⟩
  have h4b : ∀ k, (Value.slice p4 l c4).ownBlock = some k → w3.heap.size ≤ k ∧ k < w4.heap.size := fun k hk => row_base hown4 hk
  have hnb : ∀ k, (Value.slice np m cp).ownBlock = some k → k < w.heap.size := fun k hk => (row_base A.row hk).2
  have sep : ∀ (r : Option Nat), (∀ k, r = some k → k < w.heap.size) → (Value.slice p4 l c4).ownBlock = none ∨ (Value.slice p4 l c4).ownBlock ≠ r := by
    intro r hr
    cases hk : (Value.slice p4 l c4).ownBlock with
    | none => exact .inl rfl
    | some k =>
      refine .inr (fun e => ?_)
      have := hr k e.symm
      have := (h4b k hk).1
      omega
  have b8 : ∀ k, k < w6.heap.size → k ≠ ab → k ≠ mb → w8.heap[k]? = w6.heap[k]? := fun k hk h1 h2 =>
    (hg8.block k (by omega) (fun e => h2 (by cases e; rfl))).trans (hg7.block k hk (fun e => h1 (by cases e; rfl)))
  have frame : ∀ k, k < w.heap.size → k ≠ ab → k ≠ mb → (Value.slice np m cp).ownBlock ≠ some k → w8.heap[k]? = w.heap[k]? := fun k hk h1 h2 h3 =>
    (b8 k (by omega) h1 h2).trans ((hg6.block k (by omega) (fun e => h3 e.symm)).trans ((((Below.refl _ w4).alloc (Nat.le_refl _) obj).block k (by omega)).trans ((hB4.block k (show k < w3.heap.size by omega)).trans (hB3.block k hk))))
  have e8 : w8.heap[ab]? = (w6.setCell ⟨ab, ao, none⟩ (.slice (some ⟨g, 0, none⟩) (m + 1) cap)).heap[ab]? := hg8.block ab (by omega) (fun e => A.map (by cases e; rfl))
  refine ⟨⟨?_, ?_, ?_, ?_, hown8, by omega, A.map, ?_⟩, ?_, ?_, by omega, frame, hg8.os.trans (hg7.os.trans (hg6.os.trans ((show (w4.alloc obj).os = w4.os from rfl).trans (hB4.os.trans hB3.os)))), hg8.tape.trans (hg7.tape.trans (hg6.tape.trans ((show (w4.alloc obj).tape = w4.tape from rfl).trans (hB4.tape.trans hB3.tape)))), hg8.output.trans (hg7.output.trans (hg6.output.trans ((show (w4.alloc obj).output = w4.output from rfl).trans (hB4.output.trans hB3.output))))⟩
  · refine (World.cell?_of_block (a := ⟨ab, ao, none⟩) e8).trans ?_
    exact World.cell?_setCell_same (h := hs6) ..
  · exact (World.cell?_of_block (a := ⟨ab, ao + 1, none⟩) e8).trans hs7
  · refine (World.frozen?_of_block (a := ⟨ab, ao, none⟩) e8).trans ?_
    rw [World.frozen?_setCell]
    exact hf6
  · exact (hown6.kept hg7 (.inr (by simp [Value.ownBlock]; exact hgab.1))).kept hg8 (.inr (by simp [Value.ownBlock]; exact hgab.2))
  · intro a ha
    cases ha
    exact hgab
  · have h5 := hown4.kept (grown_of ((Below.refl _ w4).alloc (Nat.le_refl _) obj)) (sep none (fun k e => by cases e))
    have h6 := ((h5.kept hg6 (sep _ hnb)).kept hg7 (sep _ (fun k e => by cases e; exact hab))).kept hg8 (sep _ (fun k e => by cases e; exact hmb))
    exact row_lower h6 s3
  · rcases hat6 with h | h
    · exact .inl h
    · exact .inr (by omega)
theorem eqlMap (bm : Nat) (w : World) : (binOp .eql 90 (.map (some bm)) (.map none)).run Tryd.prog w = .ok (.bool false) w := by kernel_rfl
attribute [local go_sem ↓] Go.wp_at_zero Go.wp_at_succ
section
variable {ab ao mb m : Nat} {nv : Value} {nodes : List Value} {k n : Int} {b o l c : Nat} {xs : List Int} {w : World} {np : Option Addr} {cp : Nat}
set_option maxHeartbeats 8000000 in
theorem make_new {H : Type} {D : DataW H} {kl : Lit} (hl : xs.length = l) (h4 : l ≤ 1000) (hb : b < w.heap.size) (hc : ∀ t, t < l → w.cell? ⟨b, o + t, none⟩ = some (.int .i64 (xs.getD t 0))) (h0 : rightOf k n l = 0) (A : Arena w ab ao np m cp mb nodes D) (hall : ∀ t, t < l → 0 ≤ xs.getD t 0 ∧ xs.getD t 0 < m) (hm : m < 1048576)
    (hkey : keyOf Tryd.prog 9 (.string (bstr (nameL k n xs))) = some kl) (hhas : Maps.has D kl = false) :
    Calls Tryd.prog 26 #[.pointer (some ⟨ab, ao, none⟩), .int .i64 k, .int .i64 n, .slice (some ⟨b, o, none⟩) l c] w fun e w' => ∃ g cap p4 c4, e = .returned (.tuple #[.int .i64 m, .int .i64 0]) ∧
      Arena w' ab ao (some ⟨g, 0, none⟩) (m + 1) cap mb (nodes ++ [.int .i64 k, .int .i64 n, .slice p4 l c4]) (D.put kl (.lit (.int .i64 m))) ∧ w'.ownsRow w.heap.size 3 1 (.slice p4 l c4) l (xs.map (Value.int .i64)) ∧ ((Value.slice np m cp).ownBlock = some g ∨ w.heap.size ≤ g) ∧ w.heap.size ≤ w'.heap.size ∧
      (∀ k, k < w.heap.size → k ≠ ab → k ≠ mb → (Value.slice np m cp).ownBlock ≠ some k → w'.heap[k]? = w.heap[k]?) ∧ (w'.os = w.os ∧ w'.tape = w.tape ∧ w'.output = w.output) := by
  have c0 := A.c0
  have c1 := A.c1
  have f0 := A.f0
  have hrow := A.row
  have hown := A.own
  have hab := A.lt
  have hmab := A.map
  have hz : (rightOf k n l != 0) = false := by simp [h0]
  go_enter Tryd.func26, Tryd.ntmps26
  go_wp2_with (go_at_call 42; refine (right_ok _ _ _ _ _ _).mono ?_; rintro ev w ⟨rfl, rfl⟩)
  go_loopw [26] (fun i wr => ∃ j : Nat, j ≤ l ∧ i = .int .i64 j ∧ (∀ t, t < j → 0 ≤ xs.getD t 0 ∧ xs.getD t 0 < m) ∧ wr = w) (fun i _ => l - (intOf i).toNat)
  case atStart => exact ⟨0, by omega, rfl, fun t h => by omega, rfl⟩
  case round =>
    obtain ⟨j, hj, rfl, hin, rfl⟩ := hrel
    have hcj : j < l → wr.cell? ⟨b, o + j, none⟩ = some (.int .i64 (xs.getD j 0)) := hc j
    have law9 : Keyed Tryd.prog 9 := string_keyed Tryd.underlying9
    go_wp2_with (first
      | (go_at_call 43; refine (has_ok ⟨ab, ao, none⟩ _ np m cp _ c0).mono ?_; rintro ev w ⟨rfl, rfl⟩)
      | (go_at_call 44; refine (name_ok k n xs b o l c _ hl h4 hb hc).mono ?_; rintro ev w3 ⟨rfl, hB3⟩; have c0' := (hB3.cell (p := ⟨ab, ao, none⟩) hab).trans c0; have c1' := (hB3.cell (p := ⟨ab, ao + 1, none⟩) hab).trans c1; have hown' := hown.kept (grown_of hB3) (by simp))
      | (at_lookup; refine wpList_lookup_own_ok_int _ rfl _ _ 90 rfl 9 3 .i64 law9 Tryd.underlying90 Tryd.underlying3 (zero3 _) mb m D rfl hown' _ kl rfl hkey ?_))
    · exfalso
      have hxt : xs.getD j 0 = xs[j] := by rw [List.getD_eq_getElem?_getD, List.getElem?_eq_getElem (by omega)]; rfl
      have hin2 := hall j (by omega)
      rw [hxt] at hin2
      simp_all
    · refine ⟨⟨j + 1, by omega, by simp, ?_, trivial⟩, by simp [intOf]; omega⟩
      intro t ht
      rcases Nat.lt_or_ge t j with h | h
      · exact hin t h
      · obtain rfl : t = j := by omega
        have hxt : xs.getD t 0 = xs[t] := by rw [List.getD_eq_getElem?_getD, List.getElem?_eq_getElem (by omega)]; rfl
        rw [hxt]
        simp_all
    · intro cc hat hwc
      have hmm : ¬ (1048576 : Int) ≤ (m : Int) := by omega
      have heqm := eqlMap mb
      go_wp2_with fail
      have hcell3 : ∀ t, t < l → w3.cell? ⟨b, o + t, none⟩ = some (.int .i64 (xs.getD t 0)) := fun t ht => (hB3.cell (p := ⟨b, o + t, none⟩) hb).trans (hc t ht)
      have hb3 : b < w3.heap.size := Nat.lt_of_lt_of_le hb hB3.size
      have hab3 : ab < w3.heap.size := Nat.lt_of_lt_of_le hab hB3.size
      have hrow3 : w3.ownsRow 0 79 3 (.slice np m cp) m nodes := hrow.kept (grown_of hB3) (by by_cases h : (Value.slice np m cp).ownBlock = none; exact .inl h; exact .inr h)
      obtain ⟨i0, hi, hz0, hz1, hz2⟩ := info_parts (P := Tryd.prog) (e := 79) (z := .agg #[.int .i64 0, .int .i64 0, .slice none 0 0]) (size := 3) (bytes := 40) (by kernel_rfl)
      have keepRow : ∀ {w1 w2 : World}, Below w1.heap.size w1 w2 → w1.ownsRow 0 79 3 (.slice np m cp) m nodes → w2.ownsRow 0 79 3 (.slice np m cp) m nodes := fun hB h => h.kept (grown_of hB) (by by_cases h : (Value.slice np m cp).ownBlock = none; exact .inl h; exact .inr h)
      have hs3 : w3.cell? ⟨ab, ao, none⟩ = some (.slice np m cp) := c0'
      have hf3 : w3.frozen? ⟨ab, ao, none⟩ = false := (hB3.frozen (p := ⟨ab, ao, none⟩) hab).trans f0
      have hnbo : some ab ≠ (Value.slice np m cp).ownBlock := fun h => by
        cases np with
        | none => simp [Value.ownBlock] at h
        | some a => exact (A.apart a rfl).1 (by simpa [Value.ownBlock] using h.symm)
      have hnbm : some mb ≠ (Value.slice np m cp).ownBlock := fun h => by
        cases np with
        | none => simp [Value.ownBlock] at h
        | some a => exact (A.apart a rfl).2 (by simpa [Value.ownBlock] using h.symm)
      have hs3' : w3.cell? ⟨ab, ao + 1, none⟩ = some (.map (some mb)) := c1'
      go_region_law (first
        | (refine step_append_lies _ (by rfl) _ _ 32 (by rfl) 0 79 i0 _ 3 40 Tryd.underlying32 hi hz0 hz1 hz2 (by rfl) (by decide) (.slice np m cp) m nodes (by rfl) (keepRow ((Below.refl _ w4).alloc (Nat.le_refl _) _) hrow4) ⟨w4.heap.size, 0, none⟩ 1 1 [.int .i64 k, .int .i64 n, .slice p4 l c4] (by rfl) (by rfl) (World.news_of_block (heap_alloc_new w4 _)) (by simp [Value.oneCell']) (by omega) (by unfold maxLen; omega) (by omega) (Nat.zero_le _) _ rfl ?_; intro g cap w6 hown6 hg6 hat6 hlt6; have hs6 := (hg6.cell_far ⟨ab, ao, none⟩ (hab5 _) hnbo).trans ((World.cell?_alloc_lt _ _ ⟨ab, ao, none⟩ hab4).trans hs4); have hm6 := (((show w3.drew.ownsMap Tryd.prog 9 (plainElem Tryd.prog 3) mb m D from hown').kept (grown_of hB4) (by simp)).alloc (.cells #[.int .i64 k, .int .i64 n, .slice p4 l c4] 79)).kept hg6 hnbm; have hs6' := (hg6.cell_far ⟨ab, ao + 1, none⟩ (hab5 _) hnbo).trans hs5'; have hf6 : w6.frozen? ⟨ab, ao, none⟩ = false := (hg6.frozen_far ⟨ab, ao, none⟩ (hab5 _) hnbo).trans ((((Below.refl _ w4).alloc (Nat.le_refl _) _).frozen (p := ⟨ab, ao, none⟩) hab4).trans ((hB4.frozen (p := ⟨ab, ao, none⟩) hab3).trans hf3)))
        | (go_simp; go_at_call 45; refine (clone_ok b o l c xs _ hl h4 (by assumption) (by assumption)).mono ?_; rintro ev w4 ⟨v4, rfl, hown4, hB4⟩; obtain ⟨p4, c4, rfl⟩ := row_slice hown4; have hs4 := (hB4.cell (p := ⟨ab, ao, none⟩) hab3).trans hs3; have hs4' := (hB4.cell (p := ⟨ab, ao + 1, none⟩) hab3).trans hs3'; have hrow4 := keepRow hB4 hrow3; have hab4 : ab < w4.heap.size := Nat.lt_of_lt_of_le hab3 hB4.size; have hab5 := fun ob => Nat.lt_of_lt_of_le hab4 ((Below.refl _ w4).alloc (Nat.le_refl _) ob).size; have hs5' := (World.cell?_alloc_lt w4 (.cells #[.int .i64 k, .int .i64 n, .slice p4 l c4] 79) ⟨ab, ao + 1, none⟩ hab4).trans hs4'))
      all_goals (
        have hm7 := hm6.setCell (a := ⟨ab, ao, none⟩) hmab (.slice (some ⟨g, 0, none⟩) (m + 1) cap)
        have hs7 := (World.cell?_setCell_other w6 ⟨ab, ao, none⟩ ⟨ab, ao + 1, none⟩ (.slice (some ⟨g, 0, none⟩) (m + 1) cap) (by simp)).trans hs6'
        try simp only [Exit.then]
        go_wp2_with (first
          | (at_mapUpdate; refine wpList_mapUpdate_in _ rfl _ _ _ 90 rfl 9 3 law9 Tryd.underlying90 _ mb m D rfl hm7 (by unfold maxLen; omega) _ _ _ rfl rfl hkey _ [] (plainElem_int Tryd.underlying3 (WalkArith.wf_i64 (by omega))) ?_; intro w8 hown8 hturn8)))
      all_goals (
        go_ret2
        exact ⟨g, cap, p4, c4, rfl, new_arena A hB3 hB4 hown4 hg6 hown6 hat6 hlt6 hs6 hf6 hs7 hturn8 hown8⟩)
end
end Go.Proofs.YtenllpaochcjfaaDoor
