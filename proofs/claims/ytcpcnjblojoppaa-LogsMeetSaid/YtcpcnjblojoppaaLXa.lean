/-
  LAYER 25: copies of logs: rows of one's own. Own work.
-/
import Derived.Test.YtcpcnjblojoppaaLWe
namespace Go.Proofs.Ytcpcnjblojoppaa
open Go.ChangeShapes Go.WideShapes Go.ChangeAt Go.RowKit Go.Maps
set_option maxRecDepth 100000
attribute [local go_sem ↓] Go.wp_at_zero Go.wp_at_succ
theorem cell_kept {w w' : World} {p : Addr} {u : Value} (h : w.cell? p = some u) (hB : Below w.heap.size w w') : w'.cell? p = some u := (hB.cell (World.block_lt_of_cell? w _ h)).trans h
theorem cell_new {w : World} {p : Addr} {u : Value} (h : w.cell? p = some u) (o : Obj) : (w.alloc o).cell? p = some u := cell_kept h ((Below.refl _ w).alloc (Nat.le_refl _) o)
def lgC (g : Lg) : List Value := [.int .i64 g.c, .int .i64 g.b, g.v]
def flatL (T : List Lg) : List Value := T.flatMap lgC
theorem flat_len (T : List Lg) : (flatL T).length = T.length * 3 := by
  unfold flatL
  induction T with
  | nil => rfl
  | cons a T ih =>
    simp only [List.flatMap_cons, List.length_append, ih, List.length_cons, lgC, List.length_nil]
    omega
theorem flat_get : ∀ (T : List Lg) (i : Nat) (h : i < T.length), (flatL T)[i * 3]? = some (.int .i64 T[i].c) ∧ (flatL T)[i * 3 + 1]? = some (.int .i64 T[i].b) ∧ (flatL T)[i * 3 + 2]? = some T[i].v := by
  unfold flatL
  intro T
  induction T with
  | nil => intro i h; cases h
  | cons a T ih =>
    intro i h
    cases i with
    | zero => simp [List.flatMap_cons, lgC]
    | succ i =>
      have h' := ih i (by simpa using h)
      have e0 : (i + 1) * 3 = (lgC a).length + i * 3 := by simp [lgC]; omega
      have e1 : (i + 1) * 3 + 1 = (lgC a).length + (i * 3 + 1) := by simp [lgC]; omega
      have e2 : (i + 1) * 3 + 2 = (lgC a).length + (i * 3 + 2) := by simp [lgC]; omega
      rw [List.flatMap_cons, e2, e1, e0]
      simp only [List.getElem?_append_right (Nat.le_add_right _ _), Nat.add_sub_cancel_left]
      exact h'
theorem flat_set : ∀ (T : List Lg) (i : Nat) (h : i < T.length) (u : Value) (ys : List Int), (flatL T).set (i * 3 + 2) u = flatL (T.set i ⟨T[i].c, T[i].b, u, ys⟩) := by
  unfold flatL
  intro T
  induction T with
  | nil => intro i h; cases h
  | cons a T ih =>
    intro i h u ys
    cases i with
    | zero => simp [List.flatMap_cons, lgC]
    | succ i =>
      have h' := ih i (by simpa using h) u ys
      have e2 : (i + 1) * 3 + 2 = (lgC a).length + (i * 3 + 2) := by simp [lgC]; omega
      rw [List.flatMap_cons, e2, List.set_append_right _ _ (Nat.le_add_right _ _), Nat.add_sub_cancel_left, h']
      simp
theorem flat_one {T : List Lg} (h : ∀ i (h : i < T.length), T[i].v.oneCell' = true) : ∀ u ∈ flatL T, u.oneCell' = true := by
  intro u hu
  unfold flatL at hu
  obtain ⟨g, hg, hu⟩ := List.mem_flatMap.1 hu
  obtain ⟨i, hi, rfl⟩ := List.getElem_of_mem hg
  simp only [lgC, List.mem_cons, List.not_mem_nil, or_false] at hu
  rcases hu with rfl | rfl | rfl
  · rfl
  · rfl
  · exact h i hi
set_option maxHeartbeats 1000000 in
/-- slices.Clone of numbers, not nil. -/
theorem clonei_some (ad : Addr) (n c : Nat) (xs : List Int) (w : World) (hl : xs.length = n) (h4 : n ≤ 1000) (hc : Hid (∀ j u, (xs.map (Value.int .i64))[j]? = some u → w.cell? (ad.add j) = some u)) : Calls Try.prog 38 #[.slice (some ad) n c] w fun e w' => ∃ v, e = .returned v ∧ w'.ownsRow w.heap.size 3 1 v n (xs.map (Value.int .i64)) ∧ Below w.heap.size w w' := by
  obtain ⟨i0, hi, hz0, hz1, hz2⟩ := info_parts (P := Try.prog) (e := 3) (z := .int .i64 0) (size := 1) (bytes := 8) (by kernel_rfl)
  have heq := fun w => run_eql_slice_nil (P := Try.prog) w 25 3 (some ad) n c Try.underlying25
  go_enter Try.func38, Try.ntmps38
  go_wp2_with (at_builtin; refine wpList_append_own _ rfl (.tmp 5) (.tmp 6) 25 rfl w.heap.size 3 i0 (.int .i64 0) 1 8 Try.underlying25 hi hz0 hz1 hz2 rfl (by decide) (.slice (some ⟨w.heap.size, 0, none⟩) 0 0) 0 [] rfl (World.ownsRow_made w #[] 0 (Nat.le_refl _) (by decide) rfl) ad n c (xs.map (Value.int .i64)) rfl (by simp [hl]) (fun j u h => cell_new (hc.out j u h) _) (ints_oneCell _ _) (by unfold maxLen; omega) (by omega) (by simp) ?_; intro v' w1 hown1 hgrow1 _)
  go_ret
  exact ⟨v', rfl, by simpa using hown1, ((Below.refl _ _).alloc (Nat.le_refl _) _).grown hgrow1 (by simp) (fun _ hk => by simp [Value.ownBlock] at hk; omega)⟩
theorem clonei_ok {w : World} {v : Value} {xs : List Int} (h : RdW w v xs) (h4 : xs.length ≤ 1000) (hnil : NilCap v) : Calls Try.prog 38 #[v] w fun e w' => ∃ p c, e = .returned (.slice p xs.length c) ∧ w'.ownsRow w.heap.size 3 1 (.slice p xs.length c) xs.length (xs.map (Value.int .i64)) ∧ Below w.heap.size w w' := by
  have fin : ∀ (ad : Addr) (c : Nat), (∀ j u, (xs.map (Value.int .i64))[j]? = some u → w.cell? (ad.add j) = some u) → Calls Try.prog 38 #[.slice (some ad) xs.length c] w fun e w' => ∃ p c, e = .returned (.slice p xs.length c) ∧ w'.ownsRow w.heap.size 3 1 (.slice p xs.length c) xs.length (xs.map (Value.int .i64)) ∧ Below w.heap.size w w' := by
    intro ad c hc
    refine (clonei_some ad _ c xs w rfl h4 hc).mono ?_
    rintro e w' ⟨v, rfl, hown, hB⟩
    obtain ⟨p, c, rfl⟩ := row_slice hown
    exact ⟨p, c, rfl, hown, hB⟩
  obtain ⟨p, c, rfl, rfl | ⟨b, o, rfl, hb, hc⟩⟩ := h
  · cases p with
    | none =>
      obtain rfl := hnil.1 c rfl
      refine (clone_nil w).mono ?_
      rintro e w' ⟨rfl, rfl⟩
      exact ⟨none, 0, rfl, World.ownsRow_nil _ _ _ _, Below.refl _ _⟩
    | some ad => exact fin ad c (fun j u h => by simp at h)
  · exact fin _ c (ints_news rfl hc)
set_option maxHeartbeats 1000000 in
/-- slices.Clone of logs, not nil. -/
theorem clonel_some (ad : Addr) (n c : Nat) (S : List Lg) (w : World) (hl : S.length = n) (h4 : n ≤ 1000) (h1 : ∀ u ∈ flatL S, u.oneCell' = true) (hc : Hid (∀ j u, (flatL S)[j]? = some u → w.cell? (ad.add j) = some u)) : Calls Try.prog 37 #[.slice (some ad) n c] w fun e w' => ∃ v, e = .returned v ∧ w'.ownsRow w.heap.size 52 3 v n (flatL S) ∧ Below w.heap.size w w' := by
  obtain ⟨i0, hi, hz0, hz1, hz2⟩ := info_parts (P := Try.prog) (e := 52) (z := .agg #[.int .i64 0, .int .i64 0, .slice none 0 0]) (size := 3) (bytes := 40) (by kernel_rfl)
  have heq := fun w => run_eql_slice_nil (P := Try.prog) w 22 52 (some ad) n c Try.underlying22
  go_enter Try.func37, Try.ntmps37
  go_wp2_with (at_builtin; refine wpList_append_own _ rfl (.tmp 5) (.tmp 6) 22 rfl w.heap.size 52 i0 (.agg #[.int .i64 0, .int .i64 0, .slice none 0 0]) 3 40 Try.underlying22 hi hz0 hz1 hz2 rfl (by decide) (.slice (some ⟨w.heap.size, 0, none⟩) 0 0) 0 [] rfl (World.ownsRow_made w #[] 0 (Nat.le_refl _) (by decide) rfl) ad n c (flatL S) rfl (by rw [flat_len, hl]) (fun j u h => cell_new (hc.out j u h) _) h1 (by unfold maxLen; omega) (by omega) (by simp) ?_; intro v' w1 hown1 hgrow1 _)
  go_ret
  exact ⟨v', rfl, by simpa using hown1, ((Below.refl _ _).alloc (Nat.le_refl _) _).grown hgrow1 (by simp) (fun _ hk => by simp [Value.ownBlock] at hk; omega)⟩
set_option maxHeartbeats 1000000 in
theorem clonel_nil (c : Nat) (w : World) : Calls Try.prog 37 #[.slice none 0 c] w fun e w' => e = .returned (.slice none 0 0) ∧ w' = w := by
  have heq := fun w => run_eql_slice_nil (P := Try.prog) w 22 52 none 0 c Try.underlying22
  go_enter Try.func37, Try.ntmps37
  go_wp2
  go_ret
  exact ⟨rfl, rfl⟩
theorem rdw_one {w : World} {v : Value} {xs : List Int} (h : RdW w v xs) : v.oneCell' = true := by
  obtain ⟨p, c, rfl, _⟩ := h
  rfl
theorem clonel_ok {w : World} {v : Value} {S : List Lg} (h : Logs w v S) (h4 : S.length ≤ 1000) : Calls Try.prog 37 #[v] w fun e w' => ∃ p c, e = .returned (.slice p S.length c) ∧ w'.ownsRow w.heap.size 52 3 (.slice p S.length c) S.length (flatL S) ∧ Below w.heap.size w w' := by
  have fin : ∀ (ad : Addr) (c : Nat), (∀ i (h : i < S.length), S[i].v.oneCell' = true) → (∀ j u, (flatL S)[j]? = some u → w.cell? (ad.add j) = some u) → Calls Try.prog 37 #[.slice (some ad) S.length c] w fun e w' => ∃ p c, e = .returned (.slice p S.length c) ∧ w'.ownsRow w.heap.size 52 3 (.slice p S.length c) S.length (flatL S) ∧ Below w.heap.size w w' := by
    intro ad c h1 hc
    refine (clonel_some ad _ c S w rfl h4 (flat_one h1) hc).mono ?_
    rintro e w' ⟨v, rfl, hown, hB⟩
    obtain ⟨p, c, rfl⟩ := row_slice hown
    exact ⟨p, c, rfl, hown, hB⟩
  obtain ⟨p, c, rfl, rfl | ⟨b, o, rfl, hb, hc⟩⟩ := h
  · cases p with
    | none =>
      refine (clonel_nil c w).mono ?_
      rintro e w' ⟨rfl, rfl⟩
      exact ⟨none, 0, rfl, World.ownsRow_nil _ _ _ _, Below.refl _ _⟩
    | some ad => exact fin ad c (fun i h => by cases h) (fun j u h => by simp [flatL] at h)
  · refine fin _ c (fun i h => rdw_one (hc i h).args) (fun j u hj => ?_)
    have hlt : j < S.length * 3 := by
      have := (List.getElem?_eq_some_iff.1 hj).1
      rwa [flat_len] at this
    have hq : j / 3 < S.length := by omega
    obtain ⟨f0, f1, f2⟩ := flat_get S (j / 3) hq
    have hs := hc (j / 3) hq
    rw [add_plain]
    have h3 : j % 3 = 0 ∨ j % 3 = 1 ∨ j % 3 = 2 := by omega
    rcases h3 with h3 | h3 | h3
    · have e : j = j / 3 * 3 := by omega
      rw [e, f0] at hj
      cases hj
      have e' : o + j = o + j / 3 * 3 := by omega
      rw [e']
      exact hs.c
    · have e : j = j / 3 * 3 + 1 := by omega
      rw [e, f1] at hj
      cases hj
      have e' : o + j = o + j / 3 * 3 + 1 := by omega
      rw [e']
      exact hs.b
    · have e : j = j / 3 * 3 + 2 := by omega
      rw [e, f2] at hj
      cases hj
      have e' : o + j = o + j / 3 * 3 + 2 := by omega
      rw [e']
      exact hs.v
/-- LOGS OF ONE'S OWN: the row, and the bodies of the first j. -/
structure OwnT (w : World) (base : Nat) (v : Value) (T : List Lg) (j : Nat) : Prop where
  row : w.ownsRow base 52 3 v T.length (flatL T)
  own : ∀ i (h : i < T.length), i < j → w.ownsRow base 3 1 T[i].v T[i].xs.length (T[i].xs.map (Value.int .i64))
  apart : ∀ i (h : i < T.length), i < j → ∀ k, T[i].v.ownBlock = some k → v.ownBlock ≠ some k
  two : ∀ i i' (h : i < T.length) (h' : i' < T.length), i < j → i' < j → i' ≠ i → ∀ k, T[i].v.ownBlock = some k → T[i'].v.ownBlock ≠ some k
/-- Alike but for where the bodies lie. -/
def Alike (S T : List Lg) : Prop := T.length = S.length ∧ ∀ i (h : i < S.length) (h' : i < T.length), T[i].c = S[i].c ∧ T[i].b = S[i].b ∧ T[i].xs = S[i].xs
theorem own_block {w : World} {base e size n : Nat} {v : Value} {xs : List Value} (h : w.ownsRow base e size v n xs) {k : Nat} (hk : v.ownBlock = some k) : base ≤ k ∧ k < w.heap.size := row_base h hk
end Go.Proofs.Ytcpcnjblojoppaa
