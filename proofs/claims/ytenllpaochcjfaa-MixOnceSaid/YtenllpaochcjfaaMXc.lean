/-
  MIX: rows of payloads; whom one meets. Own work.
-/
import Derived.Test.YtenllpaochcjfaaMXb
namespace Go.Proofs.Ytenllpaochcjfaa
open Go.ChangeShapes Go.WideShapes Go.ChangeAt Go.RowKit Go.Maps
set_option maxRecDepth 100000
attribute [local go_sem ↓] Go.wp_at_zero Go.wp_at_succ
abbrev Pl := Int × Int × Int
def plC (k : Pl) : List Value := [.int .i64 k.1, .int .i64 k.2.1, .int .i64 k.2.2]
def flatP (sk : List Pl) : List Value := sk.flatMap plC
theorem flatP_len (sk : List Pl) : (flatP sk).length = sk.length * 3 := by
  unfold flatP
  induction sk with
  | nil => rfl
  | cons a T ih =>
    simp only [List.flatMap_cons, List.length_append, ih, List.length_cons, plC, List.length_nil]
    omega
theorem flatP_get : ∀ (sk : List Pl) (i : Nat) (k : Pl), sk[i]? = some k → (flatP sk)[i * 3]? = some (.int .i64 k.1) ∧ (flatP sk)[i * 3 + 1]? = some (.int .i64 k.2.1) ∧ (flatP sk)[i * 3 + 2]? = some (.int .i64 k.2.2) := by
  unfold flatP
  intro sk
  induction sk with
  | nil => intro i k h; cases h
  | cons a T ih =>
    intro i k h
    cases i with
    | zero => cases h; simp [List.flatMap_cons, plC]
    | succ i =>
      have h' := ih i k (by simpa using h)
      have e0 : (i + 1) * 3 = (plC a).length + i * 3 := by simp [plC]; omega
      have e1 : (i + 1) * 3 + 1 = (plC a).length + (i * 3 + 1) := by simp [plC]; omega
      have e2 : (i + 1) * 3 + 2 = (plC a).length + (i * 3 + 2) := by simp [plC]; omega
      rw [List.flatMap_cons, e1, e2, e0]
      simp only [List.getElem?_append_right (Nat.le_add_right _ _), Nat.add_sub_cancel_left]
      exact h'
theorem flatP_app (a b : List Pl) : flatP (a ++ b) = flatP a ++ flatP b := by simp [flatP]
/-- Payloads in memory. -/
def RdP (w : World) (v : Value) (sk : List Pl) : Prop :=
  ∃ p c, v = .slice p sk.length c ∧ (sk = [] ∨ ∃ b o, p = some ⟨b, o, none⟩ ∧ b < w.heap.size ∧ ∀ t u, (flatP sk)[t]? = some u → w.cell? ⟨b, o + t, none⟩ = some u)
theorem RdP.keeps {F : Nat → Prop} {w w' : World} {v : Value} {sk : List Pl} (h : RdP w v sk) (hK : Keeps F w w') (hn : sk ≠ [] → ∀ k, v.ownBlock = some k → ¬ F k) : RdP w' v sk := by
  obtain ⟨p, c, rfl, h | ⟨b, o, rfl, hb, hc⟩⟩ := h
  · exact ⟨p, c, rfl, .inl h⟩
  · by_cases hs : sk = []
    · exact ⟨_, c, rfl, .inl hs⟩
    · exact ⟨_, c, rfl, .inr ⟨b, o, rfl, Nat.lt_of_lt_of_le hb hK.size, fun t u hu => (hK.cell (p := ⟨b, o + t, none⟩) hb (hn hs b rfl)).trans (hc t u hu)⟩⟩
theorem RdP.below {w w' : World} {v : Value} {sk : List Pl} (h : RdP w v sk) (hB : Below w.heap.size w w') : RdP w' v sk := h.keeps (Keeps.of_below (F := fun _ => False) hB) (fun _ _ _ h => h)
theorem rdp_row {w : World} {base n : Nat} {v : Value} {sk : List Pl} (h : w.ownsRow base 57 3 v n (flatP sk)) : RdP w v sk := by
  have hl := h.1
  rw [flatP_len] at hl
  obtain rfl : n = sk.length := by omega
  rcases h.2 with ⟨rfl, h0⟩ | ⟨g, cap, cur, rfl, hb, hg, _⟩
  · exact ⟨none, 0, by rw [h0], .inl (List.eq_nil_of_length_eq_zero h0)⟩
  · refine ⟨_, cap, rfl, .inr ⟨g, 0, rfl, (Array.getElem?_eq_some_iff.1 hg).1, fun t u hu => ?_⟩⟩
    have := World.ownsRow.cells h rfl t u hu
    rw [add_plain] at this
    simpa using this
theorem rdp_nth {w : World} {p : Option Addr} {n c t : Nat} {sk : List Pl} {k : Pl} (h : RdP w (.slice p n c) sk) (ht : sk[t]? = some k) : ∃ b o, p = some ⟨b, o, none⟩ ∧ b < w.heap.size ∧ w.cell? ⟨b, o + t * 3, none⟩ = some (.int .i64 k.1) ∧ w.cell? ⟨b, o + t * 3 + 1, none⟩ = some (.int .i64 k.2.1) ∧ w.cell? ⟨b, o + t * 3 + 2, none⟩ = some (.int .i64 k.2.2) := by
  obtain ⟨p', c', e, rfl | ⟨b, o, rfl, hb, hc⟩⟩ := h
  · cases ht
  · cases e
    obtain ⟨h1, h2, h3⟩ := flatP_get sk t k ht
    exact ⟨b, o, rfl, hb, hc _ _ h1, hc _ _ h2, hc _ _ h3⟩
/-! whom one meets -/
def cnd (As : List Pl) (i k : Nat) : Bool := decide (k ≠ i) && (decide ((As.getD k (0, 0, 0)).1 = 73) && decide ((As.getD k (0, 0, 0)).2.1 = (As.getD i (0, 0, 0)).2.1))
def mtL (As : List Pl) (i j : Nat) : List Nat := (List.range j).filter (cnd As i)
theorem mtL_succ (As : List Pl) (i j : Nat) : mtL As i (j + 1) = mtL As i j ++ (if cnd As i j then [j] else []) := by
  unfold mtL
  rw [List.range_succ, List.filter_append]
  cases h : cnd As i j <;> simp [h]
theorem mtL_le (As : List Pl) (i : Nat) {j n : Nat} (h : j ≤ n) : (mtL As i j).length ≤ (mtL As i n).length := by
  induction n with
  | zero =>
    obtain rfl : j = 0 := by omega
    exact Nat.le_refl _
  | succ n ih =>
    rcases Nat.lt_or_ge j (n + 1) with h1 | h1
    · have := ih (by omega)
      rw [mtL_succ, List.length_append]
      omega
    · obtain rfl : j = n + 1 := by omega
      exact Nat.le_refl _
def MeetIs (As : List Pl) (i : Nat) (r : Int) : Prop := (r = -1 ∧ (mtL As i As.length).length ≠ 1) ∨ ∃ k : Nat, r = (k : Int) ∧ mtL As i As.length = [k]
def MeetAt (As : List Pl) (i j : Nat) (r : Int) : Prop := (r = -1 ∧ mtL As i j = []) ∨ ∃ k : Nat, r = (k : Int) ∧ mtL As i j = [k]
set_option maxHeartbeats 8000000 in
theorem meets_ok (p : Option Addr) (n c : Nat) (As : List Pl) (i : Nat) (ws : World) (hn : As.length = n) (h4 : n ≤ 1000) (hi : i < n) (RK : Hid (RdP ws (.slice p n c) As)) : Calls Try.prog 21 #[.slice p n c, .int .i64 i] ws fun e w' => ∃ r : Int, e = .returned (.int .i64 r) ∧ MeetIs As i r ∧ Below ws.heap.size ws w' := by
  obtain ⟨⟨iu, iy, iz⟩, hiA⟩ : ∃ k, As[i]? = some k := ⟨_, List.getElem?_eq_getElem (by omega)⟩
  have HIA := (show Hid _ from hiA)
  clear hiA
  go_enter Try.func21, Try.ntmps21
  go_wp2
  go_loopw [5, 10] (fun o j wq => ∃ (t : Nat) (r : Int), o = .int .i64 r ∧ j = .int .i64 t ∧ t ≤ n ∧ Hid (MeetAt As i t r) ∧ Below ws.heap.size ws wq) (fun _ j _ => n - (intOf j).toNat)
  case atStart => exact ⟨0, -1, rfl, rfl, by omega, (.inl ⟨rfl, rfl⟩ : MeetAt As i 0 (-1)), Below.refl _ _⟩
  case round =>
    obtain ⟨t, r, rfl, rfl, ht, M, hB⟩ := hrel
    by_cases hlt : t < n
    · obtain ⟨⟨u, y, z⟩, hk⟩ : ∃ k, As[t]? = some k := ⟨_, List.getElem?_eq_getElem (by omega)⟩
      obtain ⟨b, o, rfl, hb, c0, c1, c2⟩ := rdp_nth (RK.out.below hB) hk
      obtain ⟨b2, o2, hbo, _, _, e1, _⟩ := rdp_nth (RK.out.below hB) HIA.out
      obtain ⟨rfl, rfl⟩ : b = b2 ∧ o = o2 := by simpa using hbo
      simp only at c0 c1 c2 e1
      have HK := (show Hid _ from hk)
      have htI : (t : Int) < n := by omega
      have hiI : (i : Int) < n := by omega
      clear hk hbo
      have hBn := (Below.refl _ wr).alloc (Nat.le_refl _) (.cells #[.int .i64 u, .int .i64 y, .int .i64 z] 57)
      have f1 := (hBn.cell (p := ⟨b, o + i * 3 + 1, none⟩) hb).trans e1
      have hBq := hB.trans (hBn.mono hB.size)
      have HS := (show Hid _ from mtL_succ As i t)
      have hcn : cnd As i t = (decide (t ≠ i) && (decide (u = 73) && decide (y = iy))) := by
        unfold cnd
        rw [List.getD_eq_getElem?_getD, List.getD_eq_getElem?_getD, HK.out, HIA.out]
        rfl
      have HC := (show Hid _ from hcn)
      clear hcn
      by_cases hti : t = i
      · subst hti
        have hM : MeetAt As t (t + 1) r := by
          have e : mtL As t (t + 1) = mtL As t t := by rw [HS.out, HC.out]; simp
          unfold MeetAt
          rw [e]
          exact M.out
        go_wp2
        go_quiet (fail)
        go_wp2
        exact ⟨⟨t + 1, r, rfl, by simp, by omega, hM, below_drewN hBq _⟩, by simp [intOf]; omega⟩
      · have hne1 : ¬ (t : Int) = i := by omega
        by_cases hu : u = 73
        · subst hu
          by_cases hy : y = iy
          · subst hy
            have hS : mtL As i (t + 1) = mtL As i t ++ [t] := by rw [HS.out, HC.out]; simp [hti]
            rcases M.out with ⟨rfl, m1⟩ | ⟨k, rfl, m1⟩
            · have hM : MeetAt As i (t + 1) (t : Int) := .inr ⟨t, rfl, by rw [hS, m1]; rfl⟩
              clear M HS HC hS m1
              go_wp2
              go_quiet (fail)
              go_wp2
              exact ⟨⟨t + 1, (t : Int), rfl, by simp, by omega, hM, below_drewN hBq _⟩, by simp [intOf]; omega⟩
            · have hM : MeetIs As i (-1) := .inl ⟨rfl, by
                have h1 := mtL_le As i (j := t + 1) (n := As.length) (by omega)
                rw [hS, m1] at h1
                simp at h1
                omega⟩
              clear M HS HC hS m1
              go_wp2
              go_quiet (fail)
              go_wp2
              go_ret
              exact ⟨-1, rfl, hM, below_drewN hBq _⟩
          · have hM : MeetAt As i (t + 1) r := by
              have e : mtL As i (t + 1) = mtL As i t := by rw [HS.out, HC.out]; simp [hy]
              unfold MeetAt
              rw [e]
              exact M.out
            have hyb : (y != iy) = true := by simp [hy]
            clear M HS HC
            go_wp2
            go_quiet (fail)
            go_wp2
            exact ⟨⟨t + 1, r, rfl, by simp, by omega, hM, below_drewN hBq _⟩, by simp [intOf]; omega⟩
        · have hM : MeetAt As i (t + 1) r := by
            have e : mtL As i (t + 1) = mtL As i t := by rw [HS.out, HC.out]; simp [hu]
            unfold MeetAt
            rw [e]
            exact M.out
          clear M HS HC
          go_wp2
          go_quiet (fail)
          go_wp2
          exact ⟨⟨t + 1, r, rfl, by simp, by omega, hM, below_drewN hBq _⟩, by simp [intOf]; omega⟩
    · obtain rfl : t = n := by omega
      go_wp2
      go_ret
      refine ⟨r, rfl, ?_, hB⟩
      rcases M.out with ⟨rfl, m1⟩ | ⟨k, rfl, m1⟩
      · exact .inl ⟨rfl, by rw [hn, m1]; simp⟩
      · exact .inr ⟨k, rfl, by rw [hn]; exact m1⟩
end Go.Proofs.Ytenllpaochcjfaa
