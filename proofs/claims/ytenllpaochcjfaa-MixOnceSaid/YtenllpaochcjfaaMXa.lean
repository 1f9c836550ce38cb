/-
  MIX: registers in memory, copies of them, where one is. Own work.
-/
import Derived.Test.YtenllpaochcjfaaSLa
namespace Go.Proofs.Ytenllpaochcjfaa
open Go.ChangeShapes Go.WideShapes Go.ChangeAt Go.RowKit Go.Maps
set_option maxRecDepth 100000
attribute [local go_sem ↓] Go.wp_at_zero Go.wp_at_succ
abbrev Ky := Int × Int
def kyC (k : Ky) : List Value := [.int .i64 k.1, .int .i64 k.2]
def flatK (sk : List Ky) : List Value := sk.flatMap kyC
theorem flatK_len (sk : List Ky) : (flatK sk).length = sk.length * 2 := by
  unfold flatK
  induction sk with
  | nil => rfl
  | cons a T ih =>
    simp only [List.flatMap_cons, List.length_append, ih, List.length_cons, kyC, List.length_nil]
    omega
theorem flatK_get : ∀ (sk : List Ky) (i : Nat) (k : Ky), sk[i]? = some k → (flatK sk)[i * 2]? = some (.int .i64 k.1) ∧ (flatK sk)[i * 2 + 1]? = some (.int .i64 k.2) := by
  unfold flatK
  intro sk
  induction sk with
  | nil => intro i k h; cases h
  | cons a T ih =>
    intro i k h
    cases i with
    | zero => cases h; simp [List.flatMap_cons, kyC]
    | succ i =>
      have h' := ih i k (by simpa using h)
      have e0 : (i + 1) * 2 = (kyC a).length + i * 2 := by simp [kyC]; omega
      have e1 : (i + 1) * 2 + 1 = (kyC a).length + (i * 2 + 1) := by simp [kyC]; omega
      rw [List.flatMap_cons, e1, e0]
      simp only [List.getElem?_append_right (Nat.le_add_right _ _), Nat.add_sub_cancel_left]
      exact h'
theorem flatK_app (a b : List Ky) : flatK (a ++ b) = flatK a ++ flatK b := by simp [flatK]
theorem flatK_one (sk : List Ky) : ∀ u ∈ flatK sk, u.oneCell' = true := by
  intro u hu
  obtain ⟨k, _, hu⟩ := List.mem_flatMap.1 hu
  simp only [kyC, List.mem_cons, List.not_mem_nil, or_false] at hu
  rcases hu with rfl | rfl <;> rfl
/-- Keys in memory. -/
def RdK (w : World) (v : Value) (sk : List Ky) : Prop :=
  ∃ p c, v = .slice p sk.length c ∧ (sk = [] ∨ ∃ b o, p = some ⟨b, o, none⟩ ∧ b < w.heap.size ∧ ∀ t u, (flatK sk)[t]? = some u → w.cell? ⟨b, o + t, none⟩ = some u)
theorem RdK.keeps {F : Nat → Prop} {w w' : World} {v : Value} {sk : List Ky} (h : RdK w v sk) (hK : Keeps F w w') (hn : sk ≠ [] → ∀ k, v.ownBlock = some k → ¬ F k) : RdK w' v sk := by
  obtain ⟨p, c, rfl, h | ⟨b, o, rfl, hb, hc⟩⟩ := h
  · exact ⟨p, c, rfl, .inl h⟩
  · by_cases hs : sk = []
    · exact ⟨_, c, rfl, .inl hs⟩
    · exact ⟨_, c, rfl, .inr ⟨b, o, rfl, Nat.lt_of_lt_of_le hb hK.size, fun t u hu => (hK.cell (p := ⟨b, o + t, none⟩) hb (hn hs b rfl)).trans (hc t u hu)⟩⟩
theorem RdK.below {w w' : World} {v : Value} {sk : List Ky} (h : RdK w v sk) (hB : Below w.heap.size w w') : RdK w' v sk := h.keeps (Keeps.of_below (F := fun _ => False) hB) (fun _ _ _ h => h)
theorem RdK.alloc {w : World} {v : Value} {sk : List Ky} (h : RdK w v sk) (o : Obj) : RdK (w.alloc o) v sk := h.below ((Below.refl _ w).alloc (Nat.le_refl _) o)
theorem rdk_row {w : World} {base n : Nat} {v : Value} {sk : List Ky} (h : w.ownsRow base 52 2 v n (flatK sk)) : RdK w v sk := by
  have hl := h.1
  rw [flatK_len] at hl
  obtain rfl : n = sk.length := by omega
  rcases h.2 with ⟨rfl, h0⟩ | ⟨g, cap, cur, rfl, hb, hg, _⟩
  · exact ⟨none, 0, by rw [h0], .inl (List.eq_nil_of_length_eq_zero h0)⟩
  · refine ⟨_, cap, rfl, .inr ⟨g, 0, rfl, (Array.getElem?_eq_some_iff.1 hg).1, fun t u hu => ?_⟩⟩
    have := World.ownsRow.cells h rfl t u hu
    rw [add_plain] at this
    simpa using this
theorem rdk_nth {w : World} {p : Option Addr} {n c t : Nat} {sk : List Ky} {k : Ky} (h : RdK w (.slice p n c) sk) (ht : sk[t]? = some k) : ∃ b o, p = some ⟨b, o, none⟩ ∧ b < w.heap.size ∧ w.cell? ⟨b, o + t * 2, none⟩ = some (.int .i64 k.1) ∧ w.cell? ⟨b, o + t * 2 + 1, none⟩ = some (.int .i64 k.2) := by
  obtain ⟨p', c', e, rfl | ⟨b, o, rfl, hb, hc⟩⟩ := h
  · cases ht
  · cases e
    obtain ⟨h1, h2⟩ := flatK_get sk t k ht
    exact ⟨b, o, rfl, hb, hc _ _ h1, hc _ _ h2⟩
theorem rdk_form {w : World} {p : Option Addr} {n c : Nat} {sk : List Ky} (h : RdK w (.slice p n c) sk) : n = sk.length := by
  obtain ⟨p', c', e, _⟩ := h
  cases e
  rfl
set_option maxHeartbeats 1000000 in
theorem clonek_some (ad : Addr) (n c : Nat) (sk : List Ky) (w : World) (hl : sk.length = n) (h4 : n ≤ 1000) (hc : Hid (∀ j u, (flatK sk)[j]? = some u → w.cell? (ad.add j) = some u)) : Calls Try.prog 19 #[.slice (some ad) n c] w fun e w' => ∃ v, e = .returned v ∧ w'.ownsRow w.heap.size 52 2 v n (flatK sk) ∧ Below w.heap.size w w' := by
  obtain ⟨i0, hi, hz0, hz1, hz2⟩ := info_parts (P := Try.prog) (e := 52) (z := .agg #[.int .i64 0, .int .i64 0]) (size := 2) (bytes := 16) (by kernel_rfl)
  have heq := fun w => run_eql_slice_nil (P := Try.prog) w 28 52 (some ad) n c Try.underlying28
  go_enter Try.func19, Try.ntmps19
  go_wp2_with (at_builtin; refine wpList_append_own _ rfl (.tmp 5) (.tmp 6) 28 rfl w.heap.size 52 i0 (.agg #[.int .i64 0, .int .i64 0]) 2 16 Try.underlying28 hi hz0 hz1 hz2 rfl (by decide) (.slice (some ⟨w.heap.size, 0, none⟩) 0 0) 0 [] rfl (World.ownsRow_made w #[] 0 (Nat.le_refl _) (by decide) rfl) ad n c (flatK sk) rfl (by rw [flatK_len, hl]) (fun j u h => (((Below.refl _ w).alloc (Nat.le_refl _) _).cell (World.block_lt_of_cell? w _ (hc.out j u h))).trans (hc.out j u h)) (flatK_one sk) (by unfold maxLen; omega) (by omega) (by simp) ?_; intro v' w1 hown1 hgrow1 _)
  go_ret
  exact ⟨v', rfl, by simpa using hown1, ((Below.refl _ _).alloc (Nat.le_refl _) _).grown hgrow1 (by simp) (fun _ hk => by simp [Value.ownBlock] at hk; omega)⟩
set_option maxHeartbeats 1000000 in
theorem clonek_nil (c : Nat) (w : World) : Calls Try.prog 19 #[.slice none 0 c] w fun e w' => e = .returned (.slice none 0 0) ∧ w' = w := by
  have heq := fun w => run_eql_slice_nil (P := Try.prog) w 28 52 none 0 c Try.underlying28
  go_enter Try.func19, Try.ntmps19
  go_wp2
  go_ret
  exact ⟨rfl, rfl⟩
theorem clonek_ok {w : World} {v : Value} {sk : List Ky} (h : RdK w v sk) (h4 : sk.length ≤ 1000) : Calls Try.prog 19 #[v] w fun e w' => ∃ p c, e = .returned (.slice p sk.length c) ∧ w'.ownsRow w.heap.size 52 2 (.slice p sk.length c) sk.length (flatK sk) ∧ Below w.heap.size w w' := by
  have fin : ∀ (ad : Addr) (c : Nat), (∀ j u, (flatK sk)[j]? = some u → w.cell? (ad.add j) = some u) → Calls Try.prog 19 #[.slice (some ad) sk.length c] w fun e w' => ∃ p c, e = .returned (.slice p sk.length c) ∧ w'.ownsRow w.heap.size 52 2 (.slice p sk.length c) sk.length (flatK sk) ∧ Below w.heap.size w w' := by
    intro ad c hc
    refine (clonek_some ad _ c sk w rfl h4 hc).mono ?_
    rintro e w' ⟨v, rfl, hown, hB⟩
    obtain ⟨p, c, rfl⟩ := row_slice hown
    exact ⟨p, c, rfl, hown, hB⟩
  obtain ⟨p, c, rfl, rfl | ⟨b, o, rfl, hb, hc⟩⟩ := h
  · cases p with
    | none =>
      refine (clonek_nil c w).mono ?_
      rintro e w' ⟨rfl, rfl⟩
      exact ⟨none, 0, rfl, World.ownsRow_nil _ _ _ _, Below.refl _ _⟩
    | some ad => exact fin ad c (fun j u h => by simp [flatK] at h)
  · exact fin _ c (fun j u hj => by rw [add_plain]; exact hc j u hj)
theorem at_mem {sk : List Ky} {i : Nat} {k : Ky} (h : sk[i]? = some k) : k ∈ sk := List.mem_of_getElem? h
set_option maxHeartbeats 1000000 in
theorem isn_ok (a b m : Int) (nb : Nat) (ws : World) (hn : nb < ws.heap.size) (hc : ws.cell? ⟨nb, 0, none⟩ = some (.int .i64 m)) : Calls Try.prog 25 #[.agg #[.int .i64 a, .int .i64 b], .pointer (some ⟨nb, 0, none⟩)] ws fun e w' => e = .returned (.bool (decide (a = m))) ∧ Below ws.heap.size ws w' := by
  have hc2 := (((Below.refl _ ws).alloc (Nat.le_refl _) (.cells #[.int .i64 a, .int .i64 b] 52)).cell (p := ⟨nb, 0, none⟩) hn).trans hc
  go_enter Try.func25, Try.ntmps25
  go_wp2
  go_ret
  refine ⟨?_, (Below.refl _ ws).alloc (Nat.le_refl _) _⟩
  by_cases h : a = m <;> simp [h]
set_option maxHeartbeats 4000000 in
theorem index_low (p : Option Addr) (c nb : Nat) (m : Int) (sk : List Ky) (ws : World) (h4 : sk.length ≤ 1000) (RK : Hid (RdK ws (.slice p sk.length c) sk)) (hn : nb < ws.heap.size) (hc : Hid (ws.cell? ⟨nb, 0, none⟩ = some (.int .i64 m))) : Calls Try.prog 24 #[.slice p sk.length c, .func (.func 25) #[] #[.pointer (some ⟨nb, 0, none⟩)]] ws fun e w' => ∃ i : Int, e = .returned (.int .i64 i) ∧ ((i = -1 ∧ ∀ k ∈ sk, k.1 ≠ m) ∨ ∃ (t : Nat) (s : Int), i = (t : Int) ∧ sk[t]? = some (m, s) ∧ ∀ (t' : Nat) (k : Ky), t' < t → sk[t']? = some k → k.1 ≠ m) ∧ Below ws.heap.size ws w' := by
  go_enter Try.func24, Try.ntmps24
  go_wp2
  go_loopw [8] (fun i wq => ∃ j : Nat, i = .int .i64 j ∧ j ≤ sk.length ∧ Hid (∀ (t : Nat) (k : Ky), t < j → sk[t]? = some k → k.1 ≠ m) ∧ Below ws.heap.size ws wq) (fun i _ => sk.length - (intOf i).toNat)
  case atStart => exact ⟨0, rfl, by omega, (fun t k h => absurd h (Nat.not_lt_zero _) : ∀ (t : Nat) (k : Ky), t < 0 → sk[t]? = some k → k.1 ≠ m), Below.refl _ _⟩
  case round =>
    obtain ⟨j, rfl, hj, I, hB⟩ := hrel
    by_cases hlt : j < sk.length
    · obtain ⟨k, hk⟩ : ∃ k, sk[j]? = some k := ⟨_, List.getElem?_eq_getElem hlt⟩
      obtain ⟨b, o, rfl, hb, c0, c1⟩ := rdk_nth (RK.out.below hB) hk
      obtain ⟨kn, ks⟩ := k
      simp only at c0 c1
      have HK := (show Hid _ from hk)
      have hcm := (hB.cell (p := ⟨nb, 0, none⟩) hn).trans hc.out
      have hnb := Nat.lt_of_lt_of_le hn hB.size
      have hjI : (j : Int) < sk.length := by omega
      have HCM := (show Hid _ from hcm)
      clear hk hcm
      by_cases he : kn = m
      · subst he
        have hd : decide (kn = kn) = true := decide_eq_true rfl
        go_wp2_with (go_at_call 25; refine (isn_ok kn ks kn nb _ hnb HCM.out).mono ?_; rintro ev w1 ⟨rfl, B1⟩; rw [hd])
        go_ret
        exact ⟨j, rfl, .inr ⟨j, ks, rfl, HK.out, I.out⟩, hB.trans (B1.mono hB.size)⟩
      · have hd : decide (kn = m) = false := decide_eq_false he
        go_wp2_with (go_at_call 25; refine (isn_ok kn ks m nb _ hnb HCM.out).mono ?_; rintro ev w1 ⟨rfl, B1⟩; rw [hd])
        refine ⟨⟨j + 1, by simp, by omega, (fun t k ht hk2 => ?_ : ∀ (t : Nat) (k : Ky), t < j + 1 → sk[t]? = some k → k.1 ≠ m), hB.trans (B1.mono hB.size)⟩, by simp [intOf]; omega⟩
        rcases Nat.lt_or_ge t j with h | h
        · exact I.out t k h hk2
        · obtain rfl : t = j := by omega
          rw [HK.out] at hk2
          cases hk2
          exact he
    · obtain rfl : j = sk.length := by omega
      go_wp2
      go_ret
      exact ⟨-1, rfl, .inl ⟨rfl, fun k hk => by
        obtain ⟨t, ht, rfl⟩ := List.getElem_of_mem hk
        exact I.out t _ ht (List.getElem?_eq_getElem ht)⟩, hB⟩
/-- What a register's place is. -/
def RegIs (R : List Ky) (m i : Int) : Prop := (i = -1 ∧ ∀ k ∈ R, k.1 ≠ m) ∨ ∃ (t : Nat) (s : Int), i = (t : Int) ∧ R[t]? = some (m, s) ∧ ∀ (t' : Nat) (k : Ky), t' < t → R[t']? = some k → k.1 ≠ m
set_option maxHeartbeats 4000000 in
theorem register_ok (p : Option Addr) (n c : Nat) (m : Int) (R : List Ky) (ws : World) (hn : R.length = n) (h4 : n ≤ 1000) (RK : Hid (RdK ws (.slice p n c) R)) : Calls Try.prog 20 #[.slice p n c, .int .i64 m] ws fun e w' => ∃ i : Int, e = .returned (.int .i64 i) ∧ RegIs R m i ∧ Below ws.heap.size ws w' := by
  subst hn
  go_enter Try.func20, Try.ntmps20
  go_wp2_with (go_at_call 24; refine (index_low p c ws.heap.size m R _ h4 (show Hid _ from RK.out.alloc _) (by simp) (show Hid _ from (by simp [go_sem] : (ws.alloc (.cells #[.int .i64 m] 3)).cell? ⟨ws.heap.size, 0, none⟩ = some (.int .i64 m)))).mono ?_; rintro ev w1 ⟨i, rfl, hi, B1⟩)
  go_ret
  exact ⟨i, rfl, hi, ((Below.refl _ ws).alloc (Nat.le_refl _) _).trans (B1.mono (by simp))⟩
end Go.Proofs.Ytenllpaochcjfaa
