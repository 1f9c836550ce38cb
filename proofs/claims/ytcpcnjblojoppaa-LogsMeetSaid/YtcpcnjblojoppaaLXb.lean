/-
  LAYER 25: copies.Logs. Own work.
-/
import Derived.Test.YtcpcnjblojoppaaLXa
namespace Go.Proofs.Ytcpcnjblojoppaa
open Go.ChangeShapes Go.WideShapes Go.ChangeAt Go.RowKit Go.Maps
set_option maxRecDepth 100000
attribute [local go_sem ↓] Go.wp_at_zero Go.wp_at_succ
theorem own_grown {w w' : World} {base e size n : Nat} {v : Value} {ys : List Value} {row : Option Nat} (h : w.ownsRow base e size v n ys) (hG : w.grownBy w' row) (hk : ∀ k, v.ownBlock = some k → row ≠ some k) : w'.ownsRow base e size v n ys := row_keeps (F := fun k => row = some k) h ⟨hG.os, hG.tape, hG.output, hG.size, fun k h1 h2 => hG.block k h1 (fun e => h2 e.symm)⟩ hk
theorem own_same {w w' : World} {base e size n : Nat} {v : Value} {ys : List Value} (h : w.ownsRow base e size v n ys) (hB : Below w.heap.size w w') : w'.ownsRow base e size v n ys := own_below h hB (fun _ hk => (own_block h hk).2)
/-- One more body's row is one's own. -/
theorem OwnT.more {w w1 : World} {base g n c j : Nat} {T : List Lg} {u : Value} (h : OwnT w base (.slice (some ⟨g, 0, none⟩) n c) T j) (hj : j < T.length) (hn : T.length = n) (hb : base ≤ w.heap.size) (hB : Below w.heap.size w w1) (hu : w1.ownsRow w.heap.size 3 1 u T[j].xs.length (T[j].xs.map (Value.int .i64))) :
    OwnT (w1.setCell ⟨g, j * 3 + 2, none⟩ u) base (.slice (some ⟨g, 0, none⟩) n c) (T.set j ⟨T[j].c, T[j].b, u, T[j].xs⟩) (j + 1) := by
  subst hn
  have hg := (own_block h.row (k := g) rfl)
  have hrow := own_same h.row hB
  obtain ⟨hst, hgr⟩ := World.ownsRow.stored hrow (j * 3 + 2) u
  have hlen : (T.set j ⟨T[j].c, T[j].b, u, T[j].xs⟩).length = T.length := List.length_set
  have ublk : ∀ k, u.ownBlock = some k → w.heap.size ≤ k := fun k hk => (own_block hu hk).1
  have get1 : ∀ i (hi : i < (T.set j ⟨T[j].c, T[j].b, u, T[j].xs⟩).length), i ≠ j → (T.set j ⟨T[j].c, T[j].b, u, T[j].xs⟩)[i] = T[i]'(by simpa using hi) := fun i hi hne => by rw [List.getElem_set_ne (by omega)]
  have get0 : ∀ (hi : j < (T.set j ⟨T[j].c, T[j].b, u, T[j].xs⟩).length), (T.set j ⟨T[j].c, T[j].b, u, T[j].xs⟩)[j] = ⟨T[j].c, T[j].b, u, T[j].xs⟩ := fun hi => List.getElem_set_self hi
  refine ⟨?_, ?_, ?_, ?_⟩
  · rw [hlen, ← flat_set T j hj u _]
    exact hst
  · intro i hi hlt
    by_cases he : i = j
    · subst he
      rw [get0]
      exact row_lower (own_grown hu hgr (fun k hk e => by cases e; have := ublk _ hk; omega)) hb
    · have hi' : i < T.length := by simpa using hi
      rw [get1 i hi he]
      exact own_grown (own_same (h.own i hi' (by omega)) hB) hgr (fun k hk => h.apart i hi' (by omega) k hk)
  · intro i hi hlt k hk
    by_cases he : i = j
    · subst he
      rw [get0] at hk
      have := ublk k hk
      simp only [Value.ownBlock, ne_eq, Option.some.injEq]
      omega
    · have hi' : i < T.length := by simpa using hi
      rw [get1 i hi he] at hk
      exact h.apart i hi' (by omega) k hk
  · intro i i' hi hi' hlt hlt' hne k hk hk'
    have h1 : i < T.length := by simpa using hi
    have h2 : i' < T.length := by simpa using hi'
    by_cases he : i = j
    · subst he
      rw [get0] at hk
      rw [get1 i' hi' hne] at hk'
      have := ublk k hk
      have := (own_block (h.own i' h2 (by omega)) hk').2
      omega
    · rw [get1 i hi he] at hk
      by_cases he' : i' = j
      · subst he'
        rw [get0] at hk'
        have := ublk k hk'
        have := (own_block (h.own i h1 (by omega)) hk).2
        omega
      · rw [get1 i' hi' he'] at hk'
        exact h.two i i' h1 h2 (by omega) (by omega) hne k hk hk'
theorem Alike.more {S T : List Lg} {j : Nat} (h : Alike S T) (hj : j < T.length) (u : Value) : Alike S (T.set j ⟨T[j].c, T[j].b, u, T[j].xs⟩) := by
  refine ⟨by rw [List.length_set]; exact h.1, fun i hi hi' => ?_⟩
  have h1 : i < T.length := by simpa using hi'
  by_cases he : i = j
  · subst he
    rw [List.getElem_set_self]
    exact h.2 i hi h1
  · rw [List.getElem_set_ne (by omega)]
    exact h.2 i hi h1
theorem logs_all {w : World} {v : Value} {S : List Lg} (h : Logs w v S) : ∀ i (h : i < S.length), RdW w S[i].v S[i].xs ∧ NilCap S[i].v := by
  obtain ⟨p, c, rfl, rfl | ⟨b, o, rfl, hb, hc⟩⟩ := h
  · intro i h; cases h
  · exact fun i h => ⟨(hc i h).args, (hc i h).nilc⟩
/-- What the loop of a copy of logs holds. -/
def CpL (ws : World) (v : Value) (S : List Lg) (j : Nat) (wr : World) : Prop :=
  ∃ T : List Lg, Alike S T ∧ (∀ i (h : i < T.length) (h' : i < S.length), j ≤ i → T[i] = S[i]) ∧ OwnT wr ws.heap.size v T j ∧ Below ws.heap.size ws wr
set_option maxHeartbeats 4000000 in
theorem copyl_low (p : Option Addr) (n cc : Nat) (S : List Lg) (hn : S.length = n) (h4 : n ≤ 1000) (hx : Hid (∀ i (h : i < S.length), S[i].xs.length ≤ 1000)) (ws : World) (HS : Hid (Logs ws (.slice p n cc) S)) : Calls Try.prog 34 #[.slice p n cc] ws fun e w' => ∃ p' c', e = .returned (.slice p' n c') ∧ CpL ws (.slice p' n c') S n w' := by
  go_enter Try.func34, Try.ntmps34
  go_wp2_with (go_at_call 37; refine (clonel_ok HS.out (by omega)).mono ?_; rintro ev w1 ⟨q, qc, rfl, hown, B1⟩; have hstart := (show Hid (CpL ws (.slice q n qc) S 0 w1) from (by subst hn; exact ⟨S, ⟨rfl, fun _ _ _ => ⟨rfl, rfl, rfl⟩⟩, fun _ _ _ _ => rfl, ⟨hown, fun i h h1 => absurd h1 (Nat.not_lt_zero _), fun i h h1 => absurd h1 (Nat.not_lt_zero _), fun i i' h h' h1 => absurd h1 (Nat.not_lt_zero _)⟩, B1⟩)); rw [hn]; clear hown B1)
  go_loopw [9] (fun i wr => ∃ j : Nat, i = .int .i64 j ∧ j ≤ n ∧ CpL ws (.slice q n qc) S j wr) (fun i _ => n - (intOf i).toNat)
  case atStart => exact ⟨0, rfl, by omega, hstart⟩
  case round =>
    obtain ⟨j, rfl, hj, hcp⟩ := hrel
    by_cases hlt : j < n
    · obtain ⟨T, hA, hR, hO, hB⟩ := hcp
      have hT : T.length = n := hA.1.trans hn
      have hrow := hO.row
      rw [hT] at hrow
      obtain ⟨g, rfl, hg1, hg2, _, hcell⟩ := row_open hrow (by omega)
      obtain ⟨f0, f1, f2⟩ := flat_get T j (by omega)
      have x2 := (hcell (j * 3 + 2) (by omega)).trans f2
      have hz := World.ownsRow.frozenAt hrow (j * 3 + 2)
      have hTS := hR j (by omega) (by omega) (Nat.le_refl _)
      obtain ⟨hrd, hnc⟩ := logs_all HS.out j (by omega)
      have hx1 := hx.out j (by omega)
      rw [← hTS] at hrd hnc hx1
      have hrd' := (show Hid _ from RdW.below (w := ws) hrd hB)
      have hfin : Hid (∀ (u : Value) (w2 : World), Below wr.heap.size wr w2 → w2.ownsRow wr.heap.size 3 1 u T[j].xs.length (T[j].xs.map (Value.int .i64)) → CpL ws (.slice (some ⟨g, 0, none⟩) n qc) S (j + 1) (w2.setCell ⟨g, j * 3 + 2, none⟩ u)) := fun u w2 B2 hu =>
        ⟨_, hA.more (by omega) u, fun i hi hi' hle => by rw [List.getElem_set_ne (by omega)]; exact hR i (by simpa using hi) hi' (by omega), hO.more (by omega) hT hB.size B2 hu, (hB.trans (B2.mono hB.size)).setCell hg1 _⟩
      clear hrow hcell f0 f1 f2 hTS hR hO hA hrd
      generalize T[j] = s at x2 hnc hx1 hrd' hfin
      obtain ⟨sc, sb, sv, sx⟩ := s
      simp only at x2 hnc hx1 hrd' hfin
      have hgb : g < wr.heap.size := hg2
      go_wp2_with (go_at_call 38; refine (clonei_ok hrd'.out hx1 hnc).mono ?_; rintro ev w2 ⟨q2, c2, rfl, hu, B2⟩; have HF := (show Hid _ from hfin.out _ _ B2 hu); have z2 := (B2.frozen (p := ⟨g, j * 3 + 2, none⟩) hgb).trans hz; have x3 := (B2.cell (p := ⟨g, j * 3 + 2, none⟩) hgb).trans x2; clear hu)
      exact ⟨⟨j + 1, by simp, by omega, HF.out⟩, by simp [intOf]; omega⟩
    · obtain rfl : j = n := by omega
      have HC := (show Hid _ from hcp)
      go_wp2
      go_ret
      exact ⟨q, qc, rfl, HC.out⟩
end Go.Proofs.Ytcpcnjblojoppaa
