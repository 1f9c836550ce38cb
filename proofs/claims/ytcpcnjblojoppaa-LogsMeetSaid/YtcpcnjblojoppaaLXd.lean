/-
  LAYER 25: Have, may. Own work.
-/
import Derived.Test.YtcpcnjblojoppaaLXc
namespace Go.Proofs.Ytcpcnjblojoppaa
open Go.ChangeShapes Go.WideShapes Go.ChangeAt Go.RowKit Go.Maps
set_option maxRecDepth 100000
attribute [local go_sem ↓] Go.wp_at_zero Go.wp_at_succ
/-- What one has of each client by the first j logs. -/
structure HaveR (S : List Lg) (j : Nat) (zs : List Int) : Prop where
  len : zs.length = 8
  yes : ∀ (i : Nat) (g : Lg), S[i]? = some g → i < j → zs.getD g.c.toNat 0 = g.b + g.xs.length
  no : ∀ c : Nat, c < 8 → (∀ (i : Nat) (g : Lg), S[i]? = some g → i < j → g.c ≠ c) → zs.getD c 0 = 0
theorem HaveR.more {S : List Lg} {j k : Nat} {zs : List Int} {g : Lg} (h : HaveR S j zs) (hR : Right S) (hg : S[j]? = some g) (hk : g.c = k) : HaveR S (j + 1) (zs.set k (g.b + g.xs.length)) := by
  have hk8 : k < 8 := by have := (right_ok' hR hg).2.1; omega
  refine ⟨by rw [List.length_set]; exact h.len, ?_, ?_⟩
  · intro i x hx hi
    rcases Nat.lt_or_ge i j with hlt | hge
    · have hup := right_up hR hx hg hlt
      have hne : k ≠ x.c.toNat := by
        have := (right_ok' hR hx).1
        omega
      rw [List.getD_eq_getElem?_getD, List.getElem?_set_ne hne, ← List.getD_eq_getElem?_getD]
      exact h.yes i x hx hlt
    · obtain rfl : i = j := by omega
      rw [hg] at hx
      cases hx
      rw [hk, Int.toNat_natCast, List.getD_eq_getElem?_getD, List.getElem?_set_self (by rw [h.len]; exact hk8)]
      rfl
  · intro c hc hall
    have hne : k ≠ c := fun e => hall j g hg (by omega) (by rw [hk, e])
    rw [List.getD_eq_getElem?_getD, List.getElem?_set_ne hne, ← List.getD_eq_getElem?_getD]
    exact h.no c hc (fun i x hx hi => hall i x hx (by omega))
theorem int_set (zs : List Int) (k : Nat) (x : Int) : (zs.map (Value.int .i64)).set k (.int .i64 x) = (zs.set k x).map (Value.int .i64) := by rw [List.map_set]
def HavI (ws : World) (S : List Lg) (v : Value) (j : Nat) (wr : World) : Prop := ∃ zs, HaveR S j zs ∧ wr.ownsRow ws.heap.size 3 1 v 8 (zs.map (Value.int .i64)) ∧ Below ws.heap.size ws wr
theorem HavI.more {ws wr w2 : World} {S : List Lg} {g c j k : Nat} {x : Lg} (h : HavI ws S (.slice (some ⟨g, 0, none⟩) 8 c) j wr) (hB : Below wr.heap.size wr w2) (hR : Right S) (hx : S[j]? = some x) (hk : x.c = k) : HavI ws S (.slice (some ⟨g, 0, none⟩) 8 c) (j + 1) (w2.setCell ⟨g, k, none⟩ (.int .i64 (x.b + x.xs.length))) := by
  obtain ⟨zs, hz, hown, hb⟩ := h
  refine ⟨_, hz.more hR hx hk, ?_, (hb.trans (hB.mono hb.size)).setCell (own_block hown (k := g) rfl).1 _⟩
  rw [← int_set]
  exact (World.ownsRow.stored (own_same hown hB) k _).1
theorem HavI.drew {ws wr : World} {S : List Lg} {v : Value} {j : Nat} (h : HavI ws S v j wr) : HavI ws S v j wr.drew := by
  obtain ⟨zs, hz, hown, hb⟩ := h
  exact ⟨zs, hz, hown, hb.drew⟩
theorem far1 (w : World) (b i : Nat) (x : Value) {a : Addr} (h : b ≠ a.block) : ((w.setCell ⟨b, i, none⟩ x).drew).cell? a = w.cell? a := by
  show (w.setCell ⟨b, i, none⟩ x).cell? a = _
  rw [World.cell?_setCell_far _ _ _ _ h]
set_option maxHeartbeats 4000000 in
theorem have_low (p : Option Addr) (n cc : Nat) (S : List Lg) (hn : S.length = n) (h4 : n ≤ 1000) (ws : World) (HR : Hid (Right S)) (HS : Hid (Logs ws (.slice p n cc) S)) : Calls Try.prog 14 #[.slice p n cc] ws fun e w' => ∃ g c, e = .returned (.slice (some ⟨g, 0, none⟩) 8 c) ∧ HavI ws S (.slice (some ⟨g, 0, none⟩) 8 c) n w' := by
  have hmk : ∀ w, (Instr.makeSlice 25 (.int .i64 8) (.int .i64 8)).run Try.prog w = .ok (.slice (some ⟨w.heap.size, 0, none⟩) 8 8) (w.alloc (.cells #[.int .i64 0, .int .i64 0, .int .i64 0, .int .i64 0, .int .i64 0, .int .i64 0, .int .i64 0, .int .i64 0] 3)) := by
    intro w
    kernel_rfl
  go_enter Try.func14, Try.ntmps14
  go_wp2_with (go_at_call 11; refine (check_ok (HS.out.below ((Below.refl _ ws).alloc (Nat.le_refl _) (.cells #[.int .i64 0, .int .i64 0, .int .i64 0, .int .i64 0, .int .i64 0, .int .i64 0, .int .i64 0, .int .i64 0] 3))) (by omega)).mono ?_; rintro ev w1 ⟨B1, r, rfl, hr⟩; obtain rfl : r = 0 := by (rcases hr with h | h; exact h.1; exact absurd HR.out h.2))
  have hstart : Hid (HavI ws S (.slice (some ⟨ws.heap.size, 0, none⟩) 8 8) 0 w1) := by
    refine ⟨[0, 0, 0, 0, 0, 0, 0, 0], ⟨rfl, fun i g _ h => absurd h (Nat.not_lt_zero _), fun c hc _ => ?_⟩, ?_, ((Below.refl _ ws).alloc (Nat.le_refl _) _).trans (B1.mono (by simp))⟩
    · match c, hc with
      | 0, _ => rfl
      | 1, _ => rfl
      | 2, _ => rfl
      | 3, _ => rfl
      | 4, _ => rfl
      | 5, _ => rfl
      | 6, _ => rfl
      | 7, _ => rfl
    · refine own_same (w := ws.alloc (.cells #[.int .i64 0, .int .i64 0, .int .i64 0, .int .i64 0, .int .i64 0, .int .i64 0, .int .i64 0, .int .i64 0] 3)) ⟨rfl, .inr ⟨ws.heap.size, 8, _, rfl, Nat.le_refl _, heap_alloc_new ws _, Nat.le_refl _, by decide, rfl, rfl⟩⟩ B1
  clear hr B1
  generalize ws.heap.size = g0 at hstart
  go_loopw [12] (fun i wr => ∃ j : Nat, i = .int .i64 j ∧ j ≤ n ∧ HavI ws S (.slice (some ⟨g0, 0, none⟩) 8 8) j wr) (fun i _ => n - (intOf i).toNat)
  case atStart => exact ⟨0, rfl, by omega, hstart⟩
  case round =>
    obtain ⟨j, rfl, hj, hcp⟩ := hrel
    by_cases hlt : j < n
    · have HC := (show Hid _ from hcp)
      obtain ⟨zs, hz, hown, hB⟩ := hcp
      obtain ⟨g, he, hg1, hg2, _, hcell⟩ := row_open hown (by omega)
      cases he
      obtain ⟨b, o, k, m, q, c4, xs, rfl, hb0, hsj, hst0⟩ := logs_at HS.out (j := j) (by omega)
      have hst := hst0.below hb0 hB
      have hb := Nat.lt_of_lt_of_le hb0 hB.size
      obtain ⟨k0, k8, m0, m1, x32, _⟩ := right_ok' HR.out hsj
      simp only at k0 k8 m0 m1 x32
      have x0 := hst.c
      have x1 := hst.b
      have x2 := hst.v
      simp only at x0 x1 x2
      obtain ⟨k, rfl⟩ : ∃ q : Nat, k = q := ⟨k.toNat, by omega⟩
      have hkk : k < 8 := by omega
      have hnext : Hid (∀ w2, Below wr.heap.size wr w2 → HavI ws S (.slice (some ⟨g0, 0, none⟩) 8 8) (j + 1) (w2.setCell ⟨g0, k, none⟩ (.int .i64 (m + xs.length)))) := fun w2 B2 => HavI.more HC.out B2 HR.out hsj rfl
      have c0 : ∃ u, wr.cell? ⟨g0, k, none⟩ = some u := ⟨_, (hcell k (by omega)).trans (List.getElem?_eq_getElem (by rw [List.length_map, hz.len]; exact hkk))⟩
      obtain ⟨u0, hu0⟩ := c0
      have hz0 := World.ownsRow.frozenAt hown k
      clear hst hst0 hsj hcell hown hz hB
      have hu1 := ((Below.refl _ wr).alloc (Nat.le_refl _) (.cells #[.int .i64 k, .int .i64 m, .slice q xs.length c4] 52)).cell (p := ⟨g0, k, none⟩) hg2 |>.trans hu0
      have hz1 := ((Below.refl _ wr).alloc (Nat.le_refl _) (.cells #[.int .i64 k, .int .i64 m, .slice q xs.length c4] 52)).frozen (p := ⟨g0, k, none⟩) hg2 |>.trans hz0
      go_wp2_with (first | (go_at_call 28; fail))
      have y0 : (wr.alloc (.cells #[.int .i64 k, .int .i64 m, .slice q xs.length c4] 52)).cell? ⟨wr.heap.size, 0, none⟩ = some (.int .i64 k) := by simp [go_sem]
      have y1 : (wr.alloc (.cells #[.int .i64 k, .int .i64 m, .slice q xs.length c4] 52)).cell? ⟨wr.heap.size, 1, none⟩ = some (.int .i64 m) := by simp [go_sem]
      have y2 : (wr.alloc (.cells #[.int .i64 k, .int .i64 m, .slice q xs.length c4] 52)).cell? ⟨wr.heap.size, 2, none⟩ = some (.slice q xs.length c4) := by simp [go_sem]
      have hwz : (wr.alloc (.cells #[.int .i64 k, .int .i64 m, .slice q xs.length c4] 52)).heap.size = wr.heap.size + 1 := by simp
      have hB0 : Hid (Below wr.heap.size wr (wr.alloc (.cells #[.int .i64 k, .int .i64 m, .slice q xs.length c4] 52))) := (Below.refl _ wr).alloc (Nat.le_refl _) _
      generalize wr.alloc (.cells #[.int .i64 k, .int .i64 m, .slice q xs.length c4] 52) = wz at y0 y1 y2 hu1 hz1 hwz hB0 ⊢
      have hne : g0 ≠ wr.heap.size := by omega
      go_region_held3 (fun w' => w'.cell? ⟨wr.heap.size, 0, none⟩ = some (.int .i64 k) ∧ w'.cell? ⟨wr.heap.size, 1, none⟩ = some (.int .i64 m) ∧ w'.cell? ⟨wr.heap.size, 2, none⟩ = some (.slice q xs.length c4))
        (first | exact ⟨y0, y1, y2⟩ | exact ⟨v0, v1, v2⟩ | exact ⟨(far1 _ _ _ _ hne).trans v0, (far1 _ _ _ _ hne).trans v1, (far1 _ _ _ _ hne).trans v2⟩)
        (first | (go_at_call 28; refine (has_lg _ _ _ _ _ (by omega) (by omega) _).mono ?_; rintro ev w3 ⟨rfl, B3⟩; have v0 := (B3.cell (p := ⟨wr.heap.size, 0, none⟩) (by simp; omega)).trans y0; have v1 := (B3.cell (p := ⟨wr.heap.size, 1, none⟩) (by simp; omega)).trans y1; have v2 := (B3.cell (p := ⟨wr.heap.size, 2, none⟩) (by simp; omega)).trans y2; have hu3 := (B3.cell (p := ⟨g0, k, none⟩) (by simp; omega)).trans hu1; have hz3 := (B3.frozen (p := ⟨g0, k, none⟩) (by simp; omega)).trans hz1))
      have HF := (show Hid _ from hnext.out _ (hB0.out.drew.trans (B3.mono (show wr.heap.size ≤ wz.heap.size by omega))))
      clear hnext
      try simp only [Exit.then]
      go_wp2
      exact ⟨⟨j + 1, by simp, by omega, HF.out⟩, by simp [intOf]; omega⟩
    · obtain rfl : j = n := by omega
      have HC := (show Hid _ from hcp)
      go_wp2
      go_ret
      exact ⟨g0, 8, rfl, HC.out⟩
theorem have_ok {v : Value} {S : List Lg} {ws : World} (h : Logs ws v S) (h4 : S.length ≤ 1000) (hR : Right S) : Calls Try.prog 14 #[v] ws fun e w' => ∃ p c zs, e = .returned (.slice p 8 c) ∧ HaveR S S.length zs ∧ RdW w' (.slice p 8 c) zs ∧ Below ws.heap.size ws w' := by
  have h' := h
  obtain ⟨p, c, rfl, _⟩ := h
  refine (have_low p _ c S rfl h4 ws hR h').mono ?_
  rintro e w' ⟨g, c', rfl, zs, hz, hown, hB⟩
  have hi := (irow_of hown).reads.rdw
  exact ⟨_, c', zs, rfl, hz, hi, hB⟩
set_option maxHeartbeats 1000000 in
theorem may_yes (c b : Int) (h0 : 0 ≤ c) (h8 : c < 8) (h1 : 0 ≤ b) (h2 : b ≤ 1048576) (ws : World) : Calls Try.prog 29 #[.int .i64 c, .int .i64 b] ws fun e w' => e = .returned (.bool true) ∧ w' = ws := by
  have d0 : decide (0 ≤ c) = true := decide_eq_true h0
  have d1 : decide (c < 8) = true := decide_eq_true h8
  have d2 : decide (0 ≤ b) = true := decide_eq_true h1
  have d3 : decide (b ≤ 1048576) = true := decide_eq_true h2
  go_enter Try.func29, Try.ntmps29
  go_wp2
  go_ret
  exact ⟨rfl, rfl⟩
end Go.Proofs.Ytcpcnjblojoppaa
