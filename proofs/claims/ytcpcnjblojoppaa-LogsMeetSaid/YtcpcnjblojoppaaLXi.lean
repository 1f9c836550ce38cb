/-
  LAYER 25: put, Say. Own work.
-/
import Derived.Test.YtcpcnjblojoppaaLXh
namespace Go.Proofs.Ytcpcnjblojoppaa
open Go.ChangeShapes Go.WideShapes Go.ChangeAt Go.RowKit Go.Maps
set_option maxRecDepth 100000
attribute [local go_sem ↓] Go.wp_at_zero Go.wp_at_succ
theorem at_exists (S : List Lg) (hR : Right S) (client : Int) : ∃ a, AtL S client a := by
  have key : ∀ k, k ≤ S.length → ∃ a, a ≤ k ∧ (∀ (t : Nat) (g : Lg), S[t]? = some g → t < a → g.c < client) ∧ (∀ (t : Nat) (g : Lg), S[t]? = some g → a ≤ t → t < k → client ≤ g.c) := by
    intro k
    induction k with
    | zero => exact fun _ => ⟨0, Nat.le_refl _, fun t g _ h => absurd h (Nat.not_lt_zero _), fun t g _ _ h => absurd h (Nat.not_lt_zero _)⟩
    | succ k ih =>
      intro hk
      obtain ⟨a, ha, h1, h2⟩ := ih (by omega)
      have hsk := List.getElem?_eq_getElem (show k < S.length by omega)
      by_cases hc : S[k].c < client
      · refine ⟨k + 1, Nat.le_refl _, fun t g hg ht => ?_, fun t g _ h3 h4 => by omega⟩
        rcases Nat.lt_or_ge t k with h | h
        · have := right_up hR hg hsk h
          omega
        · obtain rfl : t = k := by omega
          rw [hsk] at hg
          cases hg
          exact hc
      · refine ⟨a, by omega, h1, fun t g hg h3 h4 => ?_⟩
        rcases Nat.lt_or_ge t k with h | h
        · exact h2 t g hg h3 h
        · obtain rfl : t = k := by omega
          rw [hsk] at hg
          cases hg
          omega
  obtain ⟨a, ha, h1, h2⟩ := key S.length (Nat.le_refl _)
  exact ⟨a, ha, h1, fun t g hg h => h2 t g hg h (List.getElem?_eq_some_iff.1 hg).1⟩
def insL (S : List Lg) (a : Nat) (x : Lg) : List Lg := S.take a ++ x :: S.drop a
/-- What put answers. -/
def PutSpec (S : List Lg) (client body : Int) (w' : World) (v : Value) (k er : Int) : Prop :=
  ∃ a, AtL S client a ∧ ((foundL S client a = true ∧ ∃ g, S[a]? = some g ∧ ((g.xs.length = 32 ∧ v = .slice none 0 0 ∧ k = 0 ∧ er = 20) ∨ (g.xs.length < 32 ∧ k = g.b + (g.xs.length + 1 : Nat) ∧ er = 0 ∧ ∃ T, appL S a body T ∧ Logs w' v T))) ∨
    (foundL S client a = false ∧ k = 1 ∧ er = 0 ∧ ∃ T, appL (insL S a (newLg client)) a body T ∧ Logs w' v T))
/-- The same, of blocks from a base on. -/
def PutSpecF (b0 : Nat) (S : List Lg) (client body : Int) (w' : World) (v : Value) (k er : Int) : Prop :=
  ∃ a, AtL S client a ∧ ((foundL S client a = true ∧ ∃ g, S[a]? = some g ∧ ((g.xs.length = 32 ∧ v = .slice none 0 0 ∧ k = 0 ∧ er = 20) ∨ (g.xs.length < 32 ∧ k = g.b + (g.xs.length + 1 : Nat) ∧ er = 0 ∧ ∃ T, appL S a body T ∧ Logs w' v T ∧ Fr b0 v T))) ∨
    (foundL S client a = false ∧ k = 1 ∧ er = 0 ∧ ∃ T, appL (insL S a (newLg client)) a body T ∧ Logs w' v T ∧ Fr b0 v T))
theorem PutSpecF.to {b0 : Nat} {S : List Lg} {client body : Int} {w' : World} {v : Value} {k er : Int} (h : PutSpecF b0 S client body w' v k er) : PutSpec S client body w' v k er := by
  obtain ⟨a, hA, ⟨hf, g, hg, h1 | ⟨h32, hk, he, T, hap, hl, _⟩⟩ | ⟨hf, hk, he, T, hap, hl, _⟩⟩ := h
  · exact ⟨a, hA, .inl ⟨hf, g, hg, .inl h1⟩⟩
  · exact ⟨a, hA, .inl ⟨hf, g, hg, .inr ⟨h32, hk, he, T, hap, hl⟩⟩⟩
  · exact ⟨a, hA, .inr ⟨hf, hk, he, T, hap, hl⟩⟩
theorem PutSpecF.low {b0 b1 : Nat} {S : List Lg} {client body : Int} {w' : World} {v : Value} {k er : Int} (h : PutSpecF b0 S client body w' v k er) (hle : b1 ≤ b0) : PutSpecF b1 S client body w' v k er := by
  obtain ⟨a, hA, ⟨hf, g, hg, h1 | ⟨h32, hk, he, T, hap, hl, hfr⟩⟩ | ⟨hf, hk, he, T, hap, hl, hfr⟩⟩ := h
  · exact ⟨a, hA, .inl ⟨hf, g, hg, .inl h1⟩⟩
  · exact ⟨a, hA, .inl ⟨hf, g, hg, .inr ⟨h32, hk, he, T, hap, hl, hfr.low hle⟩⟩⟩
  · exact ⟨a, hA, .inr ⟨hf, hk, he, T, hap, hl, hfr.low hle⟩⟩
/-- A client's log is there, or comes last. -/
def LastL (S : List Lg) (client : Int) : Prop := ∀ a, AtL S client a → foundL S client a = false → a = S.length
theorem put_ok {v : Value} {S : List Lg} {ws : World} (h : Logs ws v S) (h4 : S.length ≤ 900) (hR : Right S) {client body : Int} (hc0 : 0 ≤ client) (hc8 : client < 8) (hb : In64 body) (hlast : LastL S client) : Calls Try.prog 30 #[v, .int .i64 client, .int .i64 body] ws fun e w' => ∃ v' k er, e = .returned (.tuple #[v', .int .i64 k, .int .i64 er]) ∧ PutSpec S client body w' v' k er ∧ Below ws.heap.size ws w' := by
  have h' := h
  obtain ⟨p, c, rfl, _⟩ := h
  obtain ⟨a, ha⟩ := at_exists S hR client
  cases hf : foundL S client a with
  | true =>
    have hf' := hf
    unfold foundL at hf'
    obtain ⟨g, hg, hgc⟩ := of_decide_eq_true hf'
    have hal := (List.getElem?_eq_some_iff.1 hg).1
    have hge := (List.getElem?_eq_some_iff.1 hg).2
    have h32 := (right_ok' hR hg).2.2.2.2.1
    by_cases hx : g.xs.length = 32
    · refine (put_full p _ c a S rfl (by omega) client body hc0 hc8 ws hR h' ha hf hal (show Hid (S[a].xs.length = 32) from by rw [hge]; exact hx)).mono ?_
      rintro e w' ⟨rfl, hB⟩
      exact ⟨_, _, _, rfl, ⟨a, ha, .inl ⟨hf, g, hg, .inl ⟨hx, rfl, rfl, rfl⟩⟩⟩, hB⟩
    · have h31 : S[a].xs.length < 32 := by rw [hge]; omega
      refine (put_there p _ c a S rfl (by omega) client body hc0 hc8 hb ws hR h' ha hf hal h31).mono ?_
      rintro e w' ⟨v', T, rfl, hap, ⟨hl, _⟩, hB⟩
      rw [hge]
      exact ⟨_, _, _, rfl, ⟨a, ha, .inl ⟨hf, g, hg, .inr ⟨by omega, rfl, rfl, T, hap, hl⟩⟩⟩, hB⟩
  | false =>
    obtain rfl := hlast a ha hf
    refine (put_end p _ c S rfl (by omega) client body hc0 hc8 hb ws hR h' ha hf).mono ?_
    rintro e w' ⟨v', T, rfl, hap, ⟨hl, _⟩, hB⟩
    exact ⟨_, _, _, rfl, ⟨_, ha, .inr ⟨hf, rfl, rfl, T, by simpa [insL] using hap, hl⟩⟩, hB⟩
set_option maxHeartbeats 4000000 in
theorem say_ok {v : Value} {S : List Lg} {ws : World} (h : Logs ws v S) (h4 : S.length ≤ 900) (hR : Right S) {client body : Int} (hc0 : 0 ≤ client) (hc8 : client < 8) (hb0 : 0 ≤ body) (hb1 : body ≤ 1048576) (hlast : LastL S client) : Calls Try.prog 16 #[v, .int .i64 client, .int .i64 body] ws fun e w' => ∃ v' k er, e = .returned (.tuple #[v', .int .i64 k, .int .i64 er]) ∧ PutSpec S client body w' v' k er ∧ Below ws.heap.size ws w' := by
  have HS := (show Hid (Logs ws v S) from h)
  have HR := (show Hid (Right S) from hR)
  have HL := (show Hid (LastL S client) from hlast)
  clear h hR hlast
  go_enter Try.func16, Try.ntmps16
  go_wp2_with (first
    | (go_at_call 11; refine (check_yes HS.out (by omega) HR.out).mono ?_; rintro ev w1 ⟨rfl, B1⟩)
    | (go_at_call 29; refine (may_yes client body hc0 hc8 hb0 hb1 _).mono ?_; rintro ev w2 ⟨rfl, rfl⟩)
    | (go_at_call 30; refine (put_ok (Logs.below HS.out B1) h4 HR.out hc0 hc8 ⟨by omega, by omega⟩ HL.out).mono ?_; rintro ev w3 ⟨v', k, er, rfl, hp, B3⟩; have HP := (show Hid (PutSpec S client body w3 v' k er) from hp); clear hp))
  go_ret3
  exact ⟨v', k, er, rfl, HP.out, B1.trans (B3.mono B1.size)⟩
end Go.Proofs.Ytcpcnjblojoppaa
