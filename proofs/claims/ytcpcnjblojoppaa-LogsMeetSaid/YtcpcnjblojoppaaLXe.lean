/-
  LAYER 25: a body more, a log more. Own work.
-/
import Derived.Test.YtcpcnjblojoppaaLXd
namespace Go.Proofs.Ytcpcnjblojoppaa
open Go.ChangeShapes Go.WideShapes Go.ChangeAt Go.RowKit Go.Maps
set_option maxRecDepth 100000
attribute [local go_sem ↓] Go.wp_at_zero Go.wp_at_succ
theorem OwnT.same {w w' : World} {base j : Nat} {v : Value} {T : List Lg} (h : OwnT w base v T j) (hB : Below w.heap.size w w') : OwnT w' base v T j :=
  ⟨own_same h.row hB, fun i hi hj => own_same (h.own i hi hj) hB, h.apart, h.two⟩
/-- A body behind one log's. -/
theorem OwnT.app {w w1 : World} {base g n c a : Nat} {T : List Lg} {v' : Value} {x : Int} (h : OwnT w base (.slice (some ⟨g, 0, none⟩) n c) T n) (ha : a < T.length) (hn : T.length = n) (_ : base ≤ w.heap.size) (hG : w.grownBy w1 T[a].v.ownBlock)
    (hu : w1.ownsRow base 3 1 v' (T[a].xs.length + 1) (T[a].xs.map (Value.int .i64) ++ [.int .i64 x])) (hat : v'.ownBlock = T[a].v.ownBlock ∨ v'.ownBlock = some w.heap.size) :
    OwnT (w1.setCell ⟨g, a * 3 + 2, none⟩ v') base (.slice (some ⟨g, 0, none⟩) n c) (T.set a ⟨T[a].c, T[a].b, v', T[a].xs ++ [x]⟩) n := by
  subst hn
  have hg := own_block h.row (k := g) rfl
  have hrow := own_grown h.row hG (fun k hk e => by
    cases hk
    exact h.apart a ha ha g e rfl)
  obtain ⟨hst, hgr⟩ := World.ownsRow.stored hrow (a * 3 + 2) v'
  have hlen : (T.set a ⟨T[a].c, T[a].b, v', T[a].xs ++ [x]⟩).length = T.length := List.length_set
  have get1 : ∀ i (hi : i < (T.set a ⟨T[a].c, T[a].b, v', T[a].xs ++ [x]⟩).length), i ≠ a → (T.set a ⟨T[a].c, T[a].b, v', T[a].xs ++ [x]⟩)[i] = T[i]'(by simpa using hi) := fun i hi hne => by rw [List.getElem_set_ne (by omega)]
  have get0 : ∀ (hi : a < (T.set a ⟨T[a].c, T[a].b, v', T[a].xs ++ [x]⟩).length), (T.set a ⟨T[a].c, T[a].b, v', T[a].xs ++ [x]⟩)[a] = ⟨T[a].c, T[a].b, v', T[a].xs ++ [x]⟩ := fun hi => List.getElem_set_self hi
  have vblk : ∀ k, v'.ownBlock = some k → k ≠ g := by
    intro k hk e
    subst e
    rcases hat with h1 | h1
    · exact h.apart a ha ha k (h1 ▸ hk) rfl
    · rw [h1] at hk
      cases hk
      omega
  have vother : ∀ i (hi : i < T.length), i ≠ a → ∀ k, T[i].v.ownBlock = some k → v'.ownBlock ≠ some k := by
    intro i hi hne k hk hk'
    rcases hat with h1 | h1
    · exact h.two i a hi ha hi ha (by omega) k hk (h1 ▸ hk')
    · rw [h1] at hk'
      cases hk'
      have := (own_block (h.own i hi hi) hk).2
      omega
  refine ⟨?_, ?_, ?_, ?_⟩
  · rw [hlen, ← flat_set T a ha v' _]
    exact hst
  · intro i hi hlt
    by_cases he : i = a
    · subst he
      rw [get0]
      have hu' := own_grown hu hgr (fun k hk e => vblk k hk (Option.some.inj e).symm)
      simpa using hu'
    · have hi' : i < T.length := by simpa using hi
      rw [get1 i hi he]
      exact own_grown (own_grown (h.own i hi' hi') hG (fun k hk e => h.two i a hi' ha hi' ha (by omega) k hk e)) hgr (fun k hk => h.apart i hi' hi' k hk)
  · intro i hi hlt k hk
    by_cases he : i = a
    · subst he
      rw [get0] at hk
      have := vblk k hk
      simp only [Value.ownBlock, ne_eq, Option.some.injEq]
      omega
    · have hi' : i < T.length := by simpa using hi
      rw [get1 i hi he] at hk
      exact h.apart i hi' hi' k hk
  · intro i i' hi hi' hlt hlt' hne k hk hk'
    have h1 : i < T.length := by simpa using hi
    have h2 : i' < T.length := by simpa using hi'
    by_cases he : i = a
    · subst he
      rw [get0] at hk
      rw [get1 i' hi' hne] at hk'
      exact vother i' h2 hne k hk' hk
    · rw [get1 i hi he] at hk
      by_cases he' : i' = a
      · subst he'
        rw [get0] at hk'
        exact vother i h1 he k hk hk'
      · rw [get1 i' hi' he'] at hk'
        exact h.two i i' h1 h2 h1 h2 hne k hk hk'
/-- A log more, with nothing in it, at the end. -/
theorem OwnT.ins {w w1 : World} {base n : Nat} {v v' : Value} {T : List Lg} {x : Lg} (h : OwnT w base v T n) (hn : T.length = n) (hG : w.grownBy w1 v.ownBlock) (hu : w1.ownsRow base 52 3 v' (n + 1) (flatL T ++ lgC x)) (hat : v'.ownBlock = v.ownBlock ∨ v'.ownBlock = some w.heap.size) (hx : x.v = .slice none 0 0) (hx0 : x.xs = []) : OwnT w1 base v' (T ++ [x]) (n + 1) := by
  subst hn
  have hlast : ∀ i (hi : i < (T ++ [x]).length), ¬ i < T.length → (T ++ [x])[i] = x := fun i hi hni => by
    rw [List.getElem_append_right (by omega)]
    simp
  have hold : ∀ i (hi : i < (T ++ [x]).length) (h' : i < T.length), (T ++ [x])[i] = T[i] := fun i hi h' => List.getElem_append_left h'
  have nob : ∀ k, (Value.slice none 0 0).ownBlock ≠ some k := fun k h => by simp [Value.ownBlock] at h
  refine ⟨?_, ?_, ?_, ?_⟩
  · have e : flatL (T ++ [x]) = flatL T ++ lgC x := by simp [flatL]
    rw [e, List.length_append]
    exact hu
  · intro i hi hlt
    by_cases he : i < T.length
    · rw [hold i hi he]
      exact own_grown (h.own i he he) hG (fun k hk e => h.apart i he he k hk e)
    · rw [hlast i hi he, hx, hx0]
      exact World.ownsRow_nil _ _ _ _
  · intro i hi hlt k hk hk'
    by_cases he : i < T.length
    · rw [hold i hi he] at hk
      rcases hat with h1 | h1
      · exact h.apart i he he k hk (h1 ▸ hk')
      · rw [h1] at hk'
        cases hk'
        have := (own_block (h.own i he he) hk).2
        omega
    · rw [hlast i hi he, hx] at hk
      exact nob k hk
  · intro i i' hi hi' hlt hlt' hne k hk hk'
    by_cases he : i < T.length
    · rw [hold i hi he] at hk
      by_cases he' : i' < T.length
      · rw [hold i' hi' he'] at hk'
        exact h.two i i' he he' he he' hne k hk hk'
      · rw [hlast i' hi' he', hx] at hk'
        exact nob k hk'
    · rw [hlast i hi he, hx] at hk
      exact nob k hk
def In3 (g : Lg) : Prop := In64 g.c ∧ In64 g.b ∧ ∀ x ∈ g.xs, In64 x
theorem logs_in {w : World} {v : Value} {S : List Lg} (h : Logs w v S) : ∀ i (h : i < S.length), In3 S[i] := by
  obtain ⟨p, c, rfl, rfl | ⟨b, o, rfl, hb, hc⟩⟩ := h
  · intro i h; cases h
  · exact fun i h => ⟨(hc i h).inc, (hc i h).inb, (hc i h).inx⟩
theorem own_nilcap {w : World} {base e size n : Nat} {v : Value} {xs : List Value} (h : w.ownsRow base e size v n xs) : NilCap v := by
  rcases h.2 with ⟨h1, _⟩ | ⟨g, cap, cur, h1, _, _, hc, _⟩
  · subst h1
    exact ⟨fun c hc => by cases hc; rfl, fun p n c hc => by cases hc; exact Nat.zero_le _⟩
  · subst h1
    exact ⟨fun c hc => by (cases hc), fun p n c h => by cases h; exact hc⟩
/-- Logs of blocks from a base on. -/
def Fr (base : Nat) (v : Value) (T : List Lg) : Prop := (∀ k, v.ownBlock = some k → base ≤ k) ∧ ∀ i (h : i < T.length) (k : Nat), T[i].v.ownBlock = some k → base ≤ k
theorem Fr.low {b b' : Nat} {v : Value} {T : List Lg} (h : Fr b v T) (hle : b' ≤ b) : Fr b' v T := ⟨fun k hk => Nat.le_trans hle (h.1 k hk), fun i hi k hk => Nat.le_trans hle (h.2 i hi k hk)⟩
theorem OwnT.fr {w : World} {base : Nat} {v : Value} {T : List Lg} {n : Nat} (h : OwnT w base v T n) (hn : T.length = n) : Fr base v T := ⟨fun _ hk => (own_block h.row hk).1, fun i hi _ hk => (own_block (h.own i hi (by omega)) hk).1⟩
theorem OwnT.logs {w : World} {base : Nat} {v : Value} {T : List Lg} {n : Nat} (h : OwnT w base v T n) (hn : T.length = n) (hin : ∀ i (h : i < T.length), In3 T[i]) : Logs w v T := by
  subst hn
  obtain ⟨p, c, rfl⟩ := row_slice h.row
  refine ⟨p, c, rfl, ?_⟩
  cases hT : T with
  | nil => exact .inl rfl
  | cons a T' =>
    rw [← hT]
    obtain ⟨g, rfl, _, hg, _, hcell⟩ := row_open h.row (by rw [hT]; simp)
    refine .inr ⟨g, 0, rfl, hg, fun i hi => ?_⟩
    obtain ⟨f0, f1, f2⟩ := flat_get T i hi
    obtain ⟨i0, i1, i2⟩ := hin i hi
    rw [Nat.zero_add]
    exact ⟨(hcell _ (by omega)).trans f0, (hcell _ (by omega)).trans f1, (hcell _ (by omega)).trans f2, (irow_of (h.own i hi hi)).reads.rdw, i0, i1, i2, own_nilcap (h.own i hi hi)⟩
theorem Alike.in3 {S T : List Lg} (h : Alike S T) (hin : ∀ i (h : i < S.length), In3 S[i]) : ∀ i (h : i < T.length), In3 T[i] := by
  intro i hi
  have hi' : i < S.length := by rw [← h.1]; exact hi
  obtain ⟨e0, e1, e2⟩ := h.2 i hi' hi
  obtain ⟨a, b, c⟩ := hin i hi'
  unfold In3
  rw [e0, e1, e2]
  exact ⟨a, b, c⟩
set_option maxHeartbeats 2000000 in
/-- slices.Insert of one log, at the end. -/
theorem insert_end (v : Value) (n b1 base : Nat) (cs : List Value) (client : Int) (h4 : n ≤ 1000) (ws : World) (hb : base ≤ ws.heap.size) (hown : Hid (ws.ownsRow base 52 3 v n cs)) (hnew : Hid (∀ j u, (lgC ⟨client, 0, .slice none 0 0, []⟩)[j]? = some u → ws.cell? ((⟨b1, 0, none⟩ : Addr).add j) = some u)) : Calls Try.prog 36 #[v, .int .i64 n, .slice (some ⟨b1, 0, none⟩) 1 1] ws fun e w' => ∃ v', e = .returned v' ∧ w'.ownsRow base 52 3 v' (n + 1) (cs ++ lgC ⟨client, 0, .slice none 0 0, []⟩) ∧ ws.grownBy w' v.ownBlock ∧ (v'.ownBlock = v.ownBlock ∨ v'.ownBlock = some ws.heap.size) := by
  obtain ⟨i0, hi, hz0, hz1, hz2⟩ := info_parts (P := Try.prog) (e := 52) (z := .agg #[.int .i64 0, .int .i64 0, .slice none 0 0]) (size := 3) (bytes := 40) (by kernel_rfl)
  obtain ⟨p, c, rfl⟩ := row_slice hown.out
  have hnc : n ≤ c := by
    rcases hown.out.2 with ⟨h1, h2⟩ | ⟨g, cap, cur, h1, _, _, h2, _⟩
    · omega
    · cases h1; exact h2
  have hcm : c ≤ 9223372036854775807 := by
    rcases hown.out.2 with ⟨h1, h2⟩ | ⟨g, cap, cur, h1, _, _, _, h2, _⟩
    · cases h1; omega
    · cases h1; simpa [maxLen] using h2
  have h1 : ∀ u ∈ lgC ⟨client, 0, .slice none 0 0, []⟩, u.oneCell' = true := by
    intro u hu
    simp only [lgC, List.mem_cons, List.not_mem_nil, or_false] at hu
    rcases hu with rfl | rfl | rfl <;> rfl
  cases p with
  | none =>
    go_enter Try.func36, Try.ntmps36
    go_wp2_with (at_builtin; refine wpList_append_own_at _ rfl (.tmp 23) (.tmp 24) 22 rfl base 52 i0 (.agg #[.int .i64 0, .int .i64 0, .slice none 0 0]) 3 40 Try.underlying22 hi hz0 hz1 hz2 rfl (by decide) (.slice none n c) n cs rfl hown.out ⟨b1, 0, none⟩ 1 1 (lgC ⟨client, 0, .slice none 0 0, []⟩) rfl rfl hnew.out h1 (by unfold maxLen; omega) (by omega) hb ?_; intro v' w1 hown1 hgrow1 _ hat)
    go_ret
    exact ⟨v', rfl, hown1, hgrow1, hat⟩
  | some ad =>
    obtain ⟨b, o, s⟩ := ad
    go_enter Try.func36, Try.ntmps36
    go_wp2_with (at_builtin; refine wpList_append_own_at _ rfl (.tmp 23) (.tmp 24) 22 rfl base 52 i0 (.agg #[.int .i64 0, .int .i64 0, .slice none 0 0]) 3 40 Try.underlying22 hi hz0 hz1 hz2 rfl (by decide) (.slice (some ⟨b, o, s⟩) n c) n cs rfl hown.out ⟨b1, 0, none⟩ 1 1 (lgC ⟨client, 0, .slice none 0 0, []⟩) rfl rfl hnew.out h1 (by unfold maxLen; omega) (by omega) hb ?_; intro v' w1 hown1 hgrow1 _ hat)
    all_goals (go_ret; exact ⟨v', rfl, hown1, hgrow1, hat⟩)
end Go.Proofs.Ytcpcnjblojoppaa
