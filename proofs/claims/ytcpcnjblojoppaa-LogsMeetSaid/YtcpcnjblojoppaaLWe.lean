/-
  LAYER 25: Heavy, Msg, wakes; what is wanted first. Own work.
-/
import Derived.Test.YtcpcnjblojoppaaLWd
namespace Go.Proofs.Ytcpcnjblojoppaa
open Go.RowKit Go.Maps
set_option maxRecDepth 100000
attribute [local go_sem ↓] Go.wp_at_zero Go.wp_at_succ
set_option maxHeartbeats 1000000 in
theorem heavy_nil (p : Option Addr) (c : Nat) (w : World) : Calls Try.prog 8 #[.slice p 0 c] w fun e w' => w' = w ∧ e = .returned (.bool false) := by
  go_enter Try.func8, Try.ntmps8
  go_wp2
  go_loopw [3] (fun i wr => i = .int .i64 0 ∧ wr = w) (fun _ _ => 0)
  case atStart => exact ⟨rfl, rfl⟩
  case round =>
    obtain ⟨rfl, rfl⟩ := hrel
    go_wp2
    go_ret
    exact ⟨rfl, rfl⟩
set_option maxHeartbeats 4000000 in
theorem heavy_some (b o c : Nat) (S : List Lg) (n : Nat) (hn : S.length = n) (w : World) (HS : Hid (∀ i (h : i < S.length), LgAt w b (o + i * 3) S[i])) : Calls Try.prog 8 #[.slice (some ⟨b, o, none⟩) n c] w fun e w' => w' = w ∧ ∃ r, e = .returned (.bool r) ∧ (r = false → n ≤ 50) := by
  go_enter Try.func8, Try.ntmps8
  go_wp2
  · go_ret
    exact ⟨rfl, _, rfl, fun h => by cases h⟩
  · go_loopw [3] (fun i wr => ∃ j : Nat, i = .int .i64 j ∧ j ≤ n ∧ wr = w) (fun i _ => n - (intOf i).toNat)
    case atStart => exact ⟨0, rfl, by omega, rfl⟩
    case round =>
      obtain ⟨j, rfl, hjn, rfl⟩ := hrel
      by_cases hlt : j < n
      · have hst := HS.out j (by omega)
        obtain ⟨q, c4, hv⟩ := hst.args.form
        have hcell := hst.v
        rw [hv] at hcell
        clear hst hv
        generalize S[j] = s at hcell
        go_wp2
        · go_ret
          exact ⟨rfl, _, rfl, fun h => by cases h⟩
        · exact ⟨⟨j + 1, by simp, by omega, trivial⟩, by simp [intOf]; omega⟩
      · go_wp2
        go_ret
        exact ⟨rfl, _, rfl, fun _ => by omega⟩
theorem heavy_ok {v : Value} {S : List Lg} {w : World} (h : Logs w v S) : Calls Try.prog 8 #[v] w fun e w' => w' = w ∧ ∃ r, e = .returned (.bool r) ∧ (r = false → S.length ≤ 50) := by
  obtain ⟨p, c, rfl, rfl | ⟨b, o, rfl, hb, hc⟩⟩ := h
  · refine (heavy_nil p c w).mono ?_
    rintro e w' ⟨rfl, rfl⟩
    exact ⟨rfl, _, rfl, fun _ => by simp⟩
  · exact heavy_some b o c S _ rfl w hc
theorem check_yes {v : Value} {S : List Lg} {ws : World} (h : Logs ws v S) (h4 : S.length ≤ 1000) (hR : Right S) : Calls Try.prog 11 #[v] ws fun e w' => e = .returned (.int .i64 0) ∧ Below ws.heap.size ws w' := by
  refine (check_ok h h4).mono ?_
  rintro e w' ⟨hB, r, rfl, ⟨rfl, _⟩ | ⟨_, hn⟩⟩
  · exact ⟨rfl, hB⟩
  · exact absurd hR hn
theorem check_not {v : Value} {S : List Lg} {ws : World} (h : Logs ws v S) (h4 : S.length ≤ 1000) (hR : ¬ Right S) : Calls Try.prog 11 #[v] ws fun e w' => e = .returned (.int .i64 1) ∧ Below ws.heap.size ws w' := by
  refine (check_ok h h4).mono ?_
  rintro e w' ⟨hB, r, rfl, ⟨_, hn⟩ | ⟨rfl, _⟩⟩
  · exact absurd hn hR
  · exact ⟨rfl, hB⟩
/-- The first log of which there is more, if any. -/
theorem first_hit (S : List Lg) (hv : List Int) : (∃ (i : Nat) (g : Lg), S[i]? = some g ∧ hitL g hv ∧ ∀ (k : Nat) (x : Lg), S[k]? = some x → k < i → ¬ hitL x hv) ∨ ∀ (k : Nat) (x : Lg), S[k]? = some x → ¬ hitL x hv := by
  have key : ∀ n, n ≤ S.length → (∃ (i : Nat) (g : Lg), S[i]? = some g ∧ hitL g hv ∧ ∀ (k : Nat) (x : Lg), S[k]? = some x → k < i → ¬ hitL x hv) ∨ ∀ (k : Nat) (x : Lg), S[k]? = some x → k < n → ¬ hitL x hv := by
    intro n
    induction n with
    | zero => intro _; exact .inr fun k x _ h => by omega
    | succ n ih =>
      intro hn
      rcases ih (by omega) with h | h
      · exact .inl h
      · by_cases hc : hitL (S[n]'(by omega)) hv
        · exact .inl ⟨n, _, List.getElem?_eq_getElem (by omega), hc, h⟩
        · refine .inr fun k x hx hk => ?_
          rcases Nat.lt_or_ge k n with h1 | h1
          · exact h k x hx h1
          · obtain rfl : k = n := by omega
            rw [List.getElem?_eq_getElem (by omega)] at hx
            cases hx
            exact hc
  rcases key S.length (Nat.le_refl _) with h | h
  · exact .inl h
  · exact .inr fun k x hx => h k x hx (List.getElem?_eq_some_iff.1 hx).1
theorem want_ok {v u : Value} {S : List Lg} {hv : List Int} {ws : World} (h : Logs ws v S) (h4 : S.length ≤ 1000) (hR : Right S) (hu : RdW ws u hv) (h8 : hv.length = 8) : Calls Try.prog 22 #[v, u] ws fun e w' => Wanted S hv e ∧ Below ws.heap.size ws w' := by
  have h' := h
  have hu' := hu
  obtain ⟨p, c, rfl, _⟩ := h
  obtain ⟨p', c', rfl, _⟩ := hu
  rw [h8] at hu' ⊢
  exact want_low p _ c S rfl h4 p' c' hv h8 ws hR h' hu'
theorem want_none {v u : Value} {S : List Lg} {hv : List Int} {ws : World} (h : Logs ws v S) (h4 : S.length ≤ 1000) (hR : Right S) (hu : RdW ws u hv) (h8 : hv.length = 8) (hn : ∀ (k : Nat) (x : Lg), S[k]? = some x → ¬ hitL x hv) : Calls Try.prog 22 #[v, u] ws fun e w' => e = .returned (.tuple #[.agg #[.int .i64 0, .int .i64 0, .int .i64 0], .bool false]) ∧ Below ws.heap.size ws w' := by
  refine (want_ok h h4 hR hu h8).mono ?_
  rintro e w' ⟨⟨i, g, hg, hh, _⟩ | ⟨_, rfl⟩, hB⟩
  · exact absurd hh (hn i g hg)
  · exact ⟨rfl, hB⟩
theorem want_hit {v u : Value} {S : List Lg} {hv : List Int} {ws : World} (h : Logs ws v S) (h4 : S.length ≤ 1000) (hR : Right S) (hu : RdW ws u hv) (h8 : hv.length = 8) {i : Nat} {g : Lg} (hg : S[i]? = some g) (hh : hitL g hv) (hn : ∀ (k : Nat) (x : Lg), S[k]? = some x → k < i → ¬ hitL x hv) : Calls Try.prog 22 #[v, u] ws fun e w' => e = .returned (.tuple #[.agg #[.int .i64 g.c, .int .i64 (hadOf g hv + 1), .int .i64 (g.xs.getD (hadOf g hv - g.b).toNat 0)], .bool true]) ∧ Below ws.heap.size ws w' := by
  refine (want_ok h h4 hR hu h8).mono ?_
  rintro e w' ⟨⟨j, x, hx, hh', hn', rfl⟩ | ⟨hn', _⟩, hB⟩
  · have hij : i = j := by
      rcases Nat.lt_trichotomy i j with h1 | h1 | h1
      · exact absurd hh (hn' i g hg h1)
      · exact h1
      · exact absurd hh' (hn j x hx h1)
    subst hij
    rw [hg] at hx
    cases hx
    exact ⟨rfl, hB⟩
  · exact absurd hh (hn' i g hg)
set_option maxHeartbeats 1000000 in
theorem msg0_ok (ws : World) : Calls Try.prog 24 #[.agg #[.int .i64 0, .int .i64 0, .int .i64 0], .agg #[.int .i64 0, .int .i64 0, .int .i64 0]] ws fun e w' => e = .returned (.bool true) ∧ Below ws.heap.size ws w' := by
  go_enter Try.func24, Try.ntmps24
  go_wp2
  go_ret
  exact ⟨rfl, ((Below.refl _ ws).alloc (Nat.le_refl _) _).alloc (by simp) _⟩
def wkLg (b : Nat) : Lg := ⟨1, 0, .slice (some ⟨b, 0, none⟩) 3 3, [5, 6, 7]⟩
theorem wk_logs (ws : World) : Logs (((ws.alloc (.cells #[.int .i64 5, .int .i64 6, .int .i64 7] 3)).alloc (.cells #[.int .i64 1, .int .i64 0, .slice (some ⟨ws.heap.size, 0, none⟩) 3 3] 52)).alloc (.cells #[.int .i64 0, .int .i64 1, .int .i64 0, .int .i64 0, .int .i64 0, .int .i64 0, .int .i64 0, .int .i64 0] 3)) (.slice (some ⟨ws.heap.size + 1, 0, none⟩) 1 1) [wkLg ws.heap.size] := by
  refine ⟨_, 1, rfl, .inr ⟨ws.heap.size + 1, 0, rfl, by simp, fun i hi => ?_⟩⟩
  obtain rfl : i = 0 := by simpa using hi
  refine ⟨?_, ?_, ?_, ⟨_, 3, rfl, .inr ⟨ws.heap.size, 0, rfl, by simp; omega, fun t ht => ?_⟩⟩, by simp [wkLg, In64], by simp [wkLg, In64], fun x hx => ?_, ⟨(fun c h => by cases h), fun p n c h => by simp only [wkLg, List.getElem_cons_zero] at h; cases h; exact Nat.le_refl _⟩⟩
  · simp [go_sem, wkLg]
  · simp [go_sem, wkLg]
  · simp [go_sem, wkLg]
  · have h3 : t < 3 := ht
    match t, h3 with
    | 0, _ => simp [go_sem, wkLg]
    | 1, _ => simp [go_sem, wkLg]
    | 2, _ => simp [go_sem, wkLg]
  · simp [wkLg] at hx
    unfold In64
    omega
set_option maxHeartbeats 4000000 in
theorem wakes25_ok (ws : World) : Calls Try.prog 27 #[] ws fun e w' => e = .returned (.bool true) ∧ Below ws.heap.size ws w' := by
  have hR : Right [wkLg ws.heap.size] := ⟨fun i h => by
    obtain rfl : i = 0 := by simpa using h
    refine ⟨by simp [wkLg], by simp [wkLg], by simp [wkLg], by simp [wkLg], by simp [wkLg], fun x hx => ?_⟩
    simp [wkLg] at hx
    omega, fun i j h hj => by simp at hj; omega⟩
  have hhit : hitL (wkLg ws.heap.size) [0, 1, 0, 0, 0, 0, 0, 0] := by simp [hitL, hadOf, wkLg]
  have hW := want_hit (wk_logs ws) (by simp) hR (((reads_lit [0, 1, 0, 0, 0, 0, 0, 0] rfl rfl 3).rdw)) rfl (i := 0) (g := wkLg ws.heap.size) rfl hhit (fun k x _ hk => by omega)
  have e1 : (wkLg ws.heap.size).c = 1 := rfl
  have e2 : hadOf (wkLg ws.heap.size) [0, 1, 0, 0, 0, 0, 0, 0] = 1 := by simp [hadOf, wkLg]
  have e3 : (wkLg ws.heap.size).b = 0 := rfl
  have e4 : (wkLg ws.heap.size).xs = [5, 6, 7] := rfl
  rw [e1, e2, e3, e4] at hW
  have hs : ((ws.alloc (.cells #[.int .i64 5, .int .i64 6, .int .i64 7] 3)).alloc (.cells #[.int .i64 1, .int .i64 0, .slice (some ⟨ws.heap.size, 0, none⟩) 3 3] 52)).heap.size = ws.heap.size + 2 := by simp
  rw [hs] at hW
  have HW := (show Hid _ from hW)
  clear hW hR hhit
  go_enter Try.func27, Try.ntmps27
  go_wp2_with (go_at_call 22; refine Calls.mono HW.out ?_; rintro ev w1 ⟨rfl, B1⟩)
  go_ret
  exact ⟨rfl, (((((Below.refl _ ws).alloc (Nat.le_refl _) _).alloc (by simp) _).alloc (by simp; omega) _).trans (B1.mono (by simp; omega))).alloc (by have := B1.size; simp at this; omega) _⟩
end Go.Proofs.Ytcpcnjblojoppaa
