/-
  LAYER 25: Put and Say, of anything. Own work.
-/
import Derived.Test.YtcpcnjblojoppaaLXr
import Derived.Test.YtcpcnjblojoppaaLXk
namespace Go.Proofs.Ytcpcnjblojoppaa
open Go.ChangeShapes Go.WideShapes Go.ChangeAt Go.RowKit Go.Maps
set_option maxRecDepth 100000
attribute [local go_sem ↓] Go.wp_at_zero Go.wp_at_succ
def MayC (c b : Int) : Prop := 0 ≤ c ∧ c < 8 ∧ 0 ≤ b ∧ b ≤ 1048576
instance (c b : Int) : Decidable (MayC c b) := inferInstanceAs (Decidable (_ ∧ _ ∧ _ ∧ _))
set_option maxHeartbeats 2000000 in
theorem may_no (c b : Int) (h : ¬ MayC c b) (ws : World) : Calls Try.prog 29 #[.int .i64 c, .int .i64 b] ws fun e w' => e = .returned (.bool false) ∧ w' = ws := by
  have HN := (show Hid (¬ MayC c b) from h)
  clear h
  by_cases h0 : 0 ≤ c
  rotate_left
  · have d0 : decide (0 ≤ c) = false := decide_eq_false h0
    go_enter Try.func29, Try.ntmps29
    go_wp2
    go_ret
    exact ⟨rfl, rfl⟩
  have d0 : decide (0 ≤ c) = true := decide_eq_true h0
  by_cases h1 : c < 8
  rotate_left
  · have d1 : decide (c < 8) = false := decide_eq_false h1
    go_enter Try.func29, Try.ntmps29
    go_wp2
    go_ret
    exact ⟨rfl, rfl⟩
  have d1 : decide (c < 8) = true := decide_eq_true h1
  by_cases h2 : 0 ≤ b
  rotate_left
  · have d2 : decide (0 ≤ b) = false := decide_eq_false h2
    go_enter Try.func29, Try.ntmps29
    go_wp2
    go_ret
    exact ⟨rfl, rfl⟩
  have d2 : decide (0 ≤ b) = true := decide_eq_true h2
  have h3 : ¬ b ≤ 1048576 := fun h3 => HN.out ⟨h0, h1, h2, h3⟩
  have d3 : decide (b ≤ 1048576) = false := decide_eq_false h3
  go_enter Try.func29, Try.ntmps29
  go_wp2
  go_ret
  exact ⟨rfl, rfl⟩
set_option maxHeartbeats 4000000 in
/-- Put, of what may not be. -/
theorem putm_bad (v : Value) (S : List Lg) (ws : World) (HS : Hid (Logs ws v S)) (h4 : S.length ≤ 900) (HR : Hid (Right S)) (c seq body : Int) (hm : ¬ MayC c body ∨ seq < 1) : Calls Try.prog 20 #[v, .agg #[.int .i64 c, .int .i64 seq, .int .i64 body]] ws fun e w' => e = .returned (.tuple #[.slice none 0 0, .bool false, .int .i64 1]) ∧ Below ws.heap.size ws w' := by
  by_cases h : MayC c body
  · have hs : seq < 1 := by
      rcases hm with h' | h'
      · exact absurd h h'
      · exact h'
    have d1 : decide (seq < 1) = true := decide_eq_true hs
    obtain ⟨h0, h8, hb0, hb1⟩ := h
    clear hm
    go_enter Try.func20, Try.ntmps20
    go_wp2_with (first
    | (go_at_call 11; refine (check_yes (Logs.below HS.out ((Below.refl _ ws).alloc (Nat.le_refl _) (.cells #[.int .i64 c, .int .i64 seq, .int .i64 body] 24))) (by omega) HR.out).mono ?_; rintro ev w1 ⟨rfl, B1⟩
       have y0 : w1.cell? ⟨ws.heap.size, 0, none⟩ = some (.int .i64 c) := (B1.cell (p := ⟨ws.heap.size, 0, none⟩) (by simp)).trans (by simp [go_sem])
       have y1 : w1.cell? ⟨ws.heap.size, 1, none⟩ = some (.int .i64 seq) := (B1.cell (p := ⟨ws.heap.size, 1, none⟩) (by simp)).trans (by simp [go_sem])
       have y2 : w1.cell? ⟨ws.heap.size, 2, none⟩ = some (.int .i64 body) := (B1.cell (p := ⟨ws.heap.size, 2, none⟩) (by simp)).trans (by simp [go_sem])
       have B0 : Below ws.heap.size ws w1 := ((Below.refl _ ws).alloc (Nat.le_refl _) _).trans (B1.mono (by simp))
       clear B1)
    | (go_at_call 29; refine (may_yes c body h0 h8 hb0 hb1 _).mono ?_; rintro ev w1 ⟨rfl, rfl⟩))
    go_ret3
    exact ⟨rfl, B0⟩
  · clear hm
    have HN := (show Hid (¬ MayC c body) from h)
    clear h
    go_enter Try.func20, Try.ntmps20
    go_wp2_with (first
    | (go_at_call 11; refine (check_yes (Logs.below HS.out ((Below.refl _ ws).alloc (Nat.le_refl _) (.cells #[.int .i64 c, .int .i64 seq, .int .i64 body] 24))) (by omega) HR.out).mono ?_; rintro ev w1 ⟨rfl, B1⟩
       have y0 : w1.cell? ⟨ws.heap.size, 0, none⟩ = some (.int .i64 c) := (B1.cell (p := ⟨ws.heap.size, 0, none⟩) (by simp)).trans (by simp [go_sem])
       have y1 : w1.cell? ⟨ws.heap.size, 1, none⟩ = some (.int .i64 seq) := (B1.cell (p := ⟨ws.heap.size, 1, none⟩) (by simp)).trans (by simp [go_sem])
       have y2 : w1.cell? ⟨ws.heap.size, 2, none⟩ = some (.int .i64 body) := (B1.cell (p := ⟨ws.heap.size, 2, none⟩) (by simp)).trans (by simp [go_sem])
       have B0 : Below ws.heap.size ws w1 := ((Below.refl _ ws).alloc (Nat.le_refl _) _).trans (B1.mono (by simp))
       clear B1)
    | (go_at_call 29; refine (may_no c body HN.out _).mono ?_; rintro ev w1 ⟨rfl, rfl⟩))
    go_ret3
    exact ⟨rfl, B0⟩
set_option maxHeartbeats 4000000 in
/-- Say, of what may not be. -/
theorem say_bad (v : Value) (S : List Lg) (ws : World) (HS : Hid (Logs ws v S)) (h4 : S.length ≤ 900) (HR : Hid (Right S)) (c body : Int) (hm : Hid (¬ MayC c body)) : Calls Try.prog 16 #[v, .int .i64 c, .int .i64 body] ws fun e w' => e = .returned (.tuple #[.slice none 0 0, .int .i64 0, .int .i64 1]) ∧ Below ws.heap.size ws w' := by
  go_enter Try.func16, Try.ntmps16
  go_wp2_with (first
    | (go_at_call 11; refine (check_yes HS.out (by omega) HR.out).mono ?_; rintro ev w1 ⟨rfl, B1⟩)
    | (go_at_call 29; refine (may_no c body hm.out _).mono ?_; rintro ev w2 ⟨rfl, rfl⟩))
  go_ret3
  exact ⟨rfl, B1⟩
set_option maxHeartbeats 8000000 in
/-- Put, of the next one. -/
theorem putm_nexta (v : Value) (S : List Lg) (ws : World) (HS : Hid (Logs ws v S)) (h4 : S.length ≤ 900) (HR : Hid (Right S)) (client : Nat) (seq body had : Int) (hc8 : client < 8) (hb0 : 0 ≤ body) (hb1 : body ≤ 1048576) (_ : 1 ≤ seq) (HH : Hid (HadIs S client had)) (hh0 : 0 ≤ had) (hh1 : had ≤ 2000000000) (hlt : seq = had + 1) : Calls Try.prog 20 #[v, .agg #[.int .i64 client, .int .i64 seq, .int .i64 body]] ws fun e w' => ∃ v' k er, e = .returned (.tuple #[v', .bool (er == 0), .int .i64 er]) ∧ PutSpec S client body w' v' k er ∧ Below ws.heap.size ws w' := by
  have hk8 : (client : Int) < 8 := by omega
  have d1 : decide (seq < 1) = false := decide_eq_false (by omega)
  have hw1 : IntKind.i64.wrap (had + 1) = had + 1 := IntWalk.i64_in _ (by omega)
  have d2 : decide (seq ≤ had) = false := decide_eq_false (by omega)
  have d3 : decide (had + 1 < seq) = false := decide_eq_false (by omega)
  clear hlt
  go_enter Try.func20, Try.ntmps20
  go_wp2_with (first
    | (go_at_call 11; refine (check_yes (Logs.below HS.out ((Below.refl _ ws).alloc (Nat.le_refl _) (.cells #[.int .i64 client, .int .i64 seq, .int .i64 body] 24))) (by omega) HR.out).mono ?_; rintro ev w1 ⟨rfl, B1⟩
       have hsz := B1.size
       simp only [World.size_alloc] at hsz
       have y0 : w1.cell? ⟨ws.heap.size, 0, none⟩ = some (.int .i64 client) := (B1.cell (p := ⟨ws.heap.size, 0, none⟩) (by simp)).trans (by simp [go_sem])
       have y1 : w1.cell? ⟨ws.heap.size, 1, none⟩ = some (.int .i64 seq) := (B1.cell (p := ⟨ws.heap.size, 1, none⟩) (by simp)).trans (by simp [go_sem])
       have y2 : w1.cell? ⟨ws.heap.size, 2, none⟩ = some (.int .i64 body) := (B1.cell (p := ⟨ws.heap.size, 2, none⟩) (by simp)).trans (by simp [go_sem])
       have B0 : Below ws.heap.size ws w1 := ((Below.refl _ ws).alloc (Nat.le_refl _) _).trans (B1.mono (by simp))
       clear B1)
    | (go_at_call 29; refine (may_yes client body (by omega) hk8 hb0 hb1 _).mono ?_; rintro ev w1 ⟨rfl, rfl⟩))
  go_region_with (go_at_call 14; refine (have_at (Logs.below HS.out (by first | exact B0 | exact B0.drew)) (by omega) HR.out hc8 HH.out).mono ?_; rintro ev w3 ⟨g3, c3, rfl, v3, B3⟩; have v0 := (B3.cell (p := ⟨ws.heap.size, 0, none⟩) (show ws.heap.size < w1.heap.size by omega)).trans y0; have v1 := (B3.cell (p := ⟨ws.heap.size, 1, none⟩) (show ws.heap.size < w1.heap.size by omega)).trans y1; have v2 := (B3.cell (p := ⟨ws.heap.size, 2, none⟩) (show ws.heap.size < w1.heap.size by omega)).trans y2; have BB : Below ws.heap.size ws w3 := by first | exact B0.trans (B3.mono B0.size) | exact B0.drew.trans (B3.mono B0.size))
  all_goals clear y0 y1 y2 B3 v3
  all_goals (try simp only [Exit.then]
             go_wp2_with (go_at_call 30; refine (put_any (Logs.below HS.out BB) h4 HR.out (by omega) hk8 ⟨by omega, by omega⟩).mono ?_; rintro ev w4 ⟨v', k, er, rfl, hp, B4⟩; have HP := (show Hid (PutSpec S client body w4 v' k er) from hp); clear hp)
             go_ret3
             exact ⟨v', k, er, rfl, HP.out, BB.trans (B4.mono BB.size)⟩)
end Go.Proofs.Ytcpcnjblojoppaa
