/-
  RATCHET: a key that was skipped: where it is; Take. Own work.
-/
import Derived.Test.YtikbeagcflofhaaRTd
namespace Go.Proofs.Ytikbeagcflofhaa
open Go.ChangeShapes Go.WideShapes Go.ChangeAt Go.RowKit Go.Maps
set_option maxRecDepth 100000
attribute [local go_sem ↓] Go.wp_at_zero Go.wp_at_succ
set_option maxHeartbeats 1000000 in
theorem isn_ok (a b m : Int) (nb : Nat) (ws : World) (hn : nb < ws.heap.size) (hc : ws.cell? ⟨nb, 0, none⟩ = some (.int .i64 m)) : Calls Try.prog 90 #[.agg #[.int .i64 a, .int .i64 b], .pointer (some ⟨nb, 0, none⟩)] ws fun e w' => e = .returned (.bool (decide (a = m))) ∧ Below ws.heap.size ws w' := by
  have hc2 := (((Below.refl _ ws).alloc (Nat.le_refl _) (.cells #[.int .i64 a, .int .i64 b] 87)).cell (p := ⟨nb, 0, none⟩) hn).trans hc
  go_enter Try.func90, Try.ntmps90
  go_wp2
  go_ret
  refine ⟨?_, (Below.refl _ ws).alloc (Nat.le_refl _) _⟩
  by_cases h : a = m <;> simp [h]
set_option maxHeartbeats 4000000 in
theorem index_low (p : Option Addr) (c nb : Nat) (m : Int) (sk : List Ky) (ws : World) (h4 : sk.length ≤ 1000) (RK : Hid (RdK ws (.slice p sk.length c) sk)) (hn : nb < ws.heap.size) (hc : Hid (ws.cell? ⟨nb, 0, none⟩ = some (.int .i64 m))) : Calls Try.prog 89 #[.slice p sk.length c, .func (.func 90) #[] #[.pointer (some ⟨nb, 0, none⟩)]] ws fun e w' => ∃ i : Int, e = .returned (.int .i64 i) ∧ ((i = -1 ∧ ∀ k ∈ sk, k.1 ≠ m) ∨ ∃ (t : Nat) (s : Int), i = (t : Int) ∧ sk[t]? = some (m, s)) ∧ Below ws.heap.size ws w' := by
  go_enter Try.func89, Try.ntmps89
  go_wp2
  go_loopw [8] (fun i wq => ∃ j : Nat, i = .int .i64 j ∧ j ≤ sk.length ∧ Hid (∀ (t : Nat) (k : Ky), t < j → sk[t]? = some k → k.1 ≠ m) ∧ Below ws.heap.size ws wq) (fun i _ => sk.length - (intOf i).toNat)
  case atStart => exact ⟨0, rfl, by omega, (fun t k h => absurd h (Nat.not_lt_zero _) : ∀ (t : Nat) (k : Ky), t < 0 → sk[t]? = some k → k.1 ≠ m), Below.refl _ _⟩
  case round =>
    obtain ⟨j, rfl, hj, I, hB⟩ := hrel
    by_cases hlt : j < sk.length
    · obtain ⟨k, hk⟩ : ∃ k, sk[j]? = some k := ⟨_, List.getElem?_eq_getElem hlt⟩
      obtain ⟨b, o, rfl, hb, c0, c1⟩ := rdk_nth (RK.out.below hB) hk
      obtain ⟨kn, ks⟩ := k
      simp only at c0 c1
      have HK := (show Hid _ from hk)
      have hcm := (hB.cell (p := ⟨nb, 0, none⟩) hn).trans hc.out
      have hnb := Nat.lt_of_lt_of_le hn hB.size
      have hjI : (j : Int) < sk.length := by omega
      have HCM := (show Hid _ from hcm)
      clear hk hcm
      by_cases he : kn = m
      · subst he
        have hd : decide (kn = kn) = true := decide_eq_true rfl
        go_wp2_with (go_at_call 90; refine (isn_ok kn ks kn nb _ hnb HCM.out).mono ?_; rintro ev w1 ⟨rfl, B1⟩; rw [hd])
        go_ret
        exact ⟨j, rfl, .inr ⟨j, ks, rfl, HK.out⟩, hB.trans (B1.mono hB.size)⟩
      · have hd : decide (kn = m) = false := decide_eq_false he
        go_wp2_with (go_at_call 90; refine (isn_ok kn ks m nb _ hnb HCM.out).mono ?_; rintro ev w1 ⟨rfl, B1⟩; rw [hd])
        refine ⟨⟨j + 1, by simp, by omega, (fun t k ht hk2 => ?_ : ∀ (t : Nat) (k : Ky), t < j + 1 → sk[t]? = some k → k.1 ≠ m), hB.trans (B1.mono hB.size)⟩, by simp [intOf]; omega⟩
        rcases Nat.lt_or_ge t j with h | h
        · exact I.out t k h hk2
        · obtain rfl : t = j := by omega
          rw [HK.out] at hk2
          cases hk2
          exact he
    · obtain rfl : j = sk.length := by omega
      go_wp2
      go_ret
      exact ⟨-1, rfl, .inl ⟨rfl, fun k hk => by
        obtain ⟨t, ht, rfl⟩ := List.getElem_of_mem hk
        exact I.out t _ ht (List.getElem?_eq_getElem ht)⟩, hB⟩
set_option maxHeartbeats 4000000 in
theorem skipped_no (p : Option Addr) (c : Nat) (ch next m : Int) (sk : List Ky) (ws : World) (h4 : sk.length ≤ 1000) (RK : Hid (RdK ws (.slice p sk.length c) sk)) (hno : Hid (∀ k ∈ sk, k.1 ≠ m)) : Calls Try.prog 76 #[.agg #[.int .i64 ch, .int .i64 next, .slice p sk.length c], .int .i64 m] ws fun e w' => e = .returned (.tuple #[.int .i64 0, .agg #[.int .i64 0, .int .i64 0, .slice none 0 0], .int .i64 13]) ∧ Below ws.heap.size ws w' := by
  go_enter Try.func76, Try.ntmps76
  let o1 : Obj := .cells #[.int .i64 ch, .int .i64 next, .slice p sk.length c] 70
  let o2 : Obj := .cells #[.int .i64 m] 3
  let o3 : Obj := .cells #[.int .i64 0, .int .i64 0, .slice none 0 0] 70
  go_wp2_with (go_at_call 89
               refine (index_low p c (ws.heap.size + 1) m sk (((ws.alloc o1).alloc o2).alloc o3) h4 (((RK.out.alloc _).alloc _).alloc _) (by simp) (show Hid ((((ws.alloc o1).alloc o2).alloc o3).cell? ⟨ws.heap.size + 1, 0, none⟩ = some (.int .i64 m)) from (show ((((ws.alloc o1).alloc o2).alloc o3).cell? ⟨ws.heap.size + 1, 0, none⟩ = some (.int .i64 m)) from by simp [go_sem, o1, o2, o3]))).mono ?_; rintro ev w1 ⟨i, rfl, hi, B1⟩
               rcases hi with ⟨rfl, _⟩ | ⟨t, s, rfl, ht⟩
               rotate_left
               · exact absurd rfl (hno.out _ (at_mem ht))
               have d0 : w1.cell? ⟨ws.heap.size + 1 + 1, 0, none⟩ = some (.int .i64 0) := (B1.cell (p := ⟨ws.heap.size + 1 + 1, 0, none⟩) (by simp)).trans (by simp [go_sem, o1, o2, o3])
               have d1 : w1.cell? ⟨ws.heap.size + 1 + 1, 1, none⟩ = some (.int .i64 0) := (B1.cell (p := ⟨ws.heap.size + 1 + 1, 1, none⟩) (by simp)).trans (by simp [go_sem, o1, o2, o3])
               have d2 : w1.cell? ⟨ws.heap.size + 1 + 1, 2, none⟩ = some (.slice none 0 0) := (B1.cell (p := ⟨ws.heap.size + 1 + 1, 2, none⟩) (by simp)).trans (by simp [go_sem, o1, o2, o3])
               have q0 : w1.frozen? ⟨ws.heap.size + 1 + 1, 0, none⟩ = false := (B1.frozen (p := ⟨ws.heap.size + 1 + 1, 0, none⟩) (by simp)).trans (by simp [go_sem, o1, o2, o3])
               have q1 : w1.frozen? ⟨ws.heap.size + 1 + 1, 1, none⟩ = false := (B1.frozen (p := ⟨ws.heap.size + 1 + 1, 1, none⟩) (by simp)).trans (by simp [go_sem, o1, o2, o3])
               have q2 : w1.frozen? ⟨ws.heap.size + 1 + 1, 2, none⟩ = false := (B1.frozen (p := ⟨ws.heap.size + 1 + 1, 2, none⟩) (by simp)).trans (by simp [go_sem, o1, o2, o3]))
  refine bodyPost_ret (v := .tuple #[.int .i64 0, .agg #[.int .i64 0, .int .i64 0, .slice none 0 0], .int .i64 13]) (by simp [results, Try.results76, go_sem, d0, d1, d2, q0, q1, q2]) rfl ⟨rfl, ?_⟩
  have hB : Below ws.heap.size ws w1 := ((((Below.refl _ ws).alloc (Nat.le_refl _) o1).alloc (by simp) o2).alloc (by simp; omega) o3).trans (B1.mono (by simp; omega))
  exact ((hB.setCell (p := ⟨ws.heap.size + 1 + 1, 0, none⟩) (by simp; omega) _).setCell (p := ⟨ws.heap.size + 1 + 1, 1, none⟩) (by simp; omega) _).setCell (p := ⟨ws.heap.size + 1 + 1, 2, none⟩) (by simp; omega) _
/-! Take -/
section
variable {w wr w' : World} {aa : Nat} {L L1 L2 : List Tm} {G : Nat → Prop}
set_option maxHeartbeats 4000000 in
theorem take_ahead2 (T : Hid (On w wr aa L G)) (c0 c next D : Nat) (m : Int) (p : Option Addr) (cc : Nat) (sk : List Ky) (R : Hid (RtOk L c0 c next sk)) (RK : Hid (RdK wr (.slice p sk.length cc) sk)) (hm : Hid (m = (next + D : Nat))) (hM : m < 1073741824) (hD : D ≤ 200) (hL : L.length ≤ 900) : Calls Try.prog 48 #[.pointer (some ⟨aa, 0, none⟩), .agg #[.int .i64 c, .int .i64 next, .slice p sk.length cc], .int .i64 m] wr fun e w' => ∃ (L' : List Tm) (k c' : Nat) (zs : List Ky) (q : Option Addr) (d : Nat), e = .returned (.tuple #[.int .i64 k, .agg #[.int .i64 c', .int .i64 (m + 1), .slice q ((sk ++ zs).drop ((sk ++ zs).length - 16)).length d], .int .i64 0]) ∧ On w w' aa L' (fun j => G j ∨ (Value.slice q ((sk ++ zs).drop ((sk ++ zs).length - 16)).length d).ownBlock = some j) ∧ w'.ownsRow wr.heap.size 87 2 (.slice q ((sk ++ zs).drop ((sk ++ zs).length - 16)).length d) ((sk ++ zs).drop ((sk ++ zs).length - 16)).length (flatK ((sk ++ zs).drop ((sk ++ zs).length - 16))) ∧ Stay G wr w' ∧ KeyAt L' c0 (next + D) k ∧ Pos L' c0 (next + D + 1) c' ∧ Skip L' c0 next zs ∧ zs.length = D ∧ L'.length ≤ L.length + 2 * (D + 1) ∧ (∀ (i : Nat) (u : Tm), L[i]? = some u → L'[i]? = some u) ∧ (Cov c0 L → Cov c0 L') := by
  have hmm := hm.out
  have h1 : ¬ m < 0 := by omega
  have h2 : ¬ (1073741824 : Int) ≤ m := by omega
  have h3 : ¬ m < (next : Int) := by omega
  have h4 : ¬ (200 : Int) < m - next := by omega
  have hw : IntKind.i64.wrap (m - next) = m - next := IntWalk.i64_in _ (by omega)
  clear hmm
  go_enter Try.func48, Try.ntmps48
  go_wp2_with (first
    | (go_at_call 75; refine (usable_yes (loc_on T.out _ _) R.out.right ((RK.out.alloc _).alloc _) R.out.pos.lt R.out.sec).mono ?_; rintro ev w1 ⟨rfl, B1⟩
       have S1 := stay_below (G := Loc wr G) B1
       have r0 : w1.cell? ⟨wr.heap.size, 0, none⟩ = some (.int .i64 c) := loc_cell S1 (.inl rfl) (by simp [go_sem])
       have r1 : w1.cell? ⟨wr.heap.size, 1, none⟩ = some (.int .i64 next) := loc_cell S1 (.inl rfl) (by simp [go_sem])
       have r2 : w1.cell? ⟨wr.heap.size, 2, none⟩ = some (.slice p sk.length cc) := loc_cell S1 (.inl rfl) (by simp [go_sem])
       have HT1 := (show Hid (On w w1 aa L (Loc wr G)) from (loc_on T.out _ _).step B1)
       have HRK1 := (show Hid (RdK w1 (.slice p sk.length cc) sk) from ((RK.out.alloc _).alloc _).below B1)
       clear B1)
    | (go_at_call 77; refine (ahead_low HT1 c0 c next D m p cc sk R HRK1 hm hM hD hL).mono ?_; rintro ev w2 ⟨L', k, c', zs, q, d, rfl, T2, O2, S2, k1, k2, k3, k4, k5, k6, k7⟩
       have S12 := S1.trans S2
       have d0 : w2.cell? ⟨wr.heap.size + 1, 0, none⟩ = some (.int .i64 0) := loc_cell S12 (.inr rfl) (by simp [go_sem])
       have d1 : w2.cell? ⟨wr.heap.size + 1, 1, none⟩ = some (.int .i64 0) := loc_cell S12 (.inr rfl) (by simp [go_sem])
       have d2 : w2.cell? ⟨wr.heap.size + 1, 2, none⟩ = some (.slice none 0 0) := loc_cell S12 (.inr rfl) (by simp [go_sem])
       have q0 : w2.frozen? ⟨wr.heap.size + 1, 0, none⟩ = false := loc_frozen S12 (.inr rfl) (by simp [go_sem])
       have q1 : w2.frozen? ⟨wr.heap.size + 1, 1, none⟩ = false := loc_frozen S12 (.inr rfl) (by simp [go_sem])
       have q2 : w2.frozen? ⟨wr.heap.size + 1, 2, none⟩ = false := loc_frozen S12 (.inr rfl) (by simp [go_sem])
       have HSW := (show Hid (Stay G wr w2) from (stay_below (loc_below wr _ _)).trans (S12.mono (fun j hj => .inl hj)))
       have hsz : wr.heap.size + 2 ≤ w1.heap.size := by have := S1.size; simpa using this
       have HX := (show Hid (KeyAt L' c0 (next + D) k ∧ Pos L' c0 (next + D + 1) c' ∧ Skip L' c0 next zs ∧ zs.length = D ∧ L'.length ≤ L.length + 2 * (D + 1) ∧ (∀ (i : Nat) (u : Tm), L[i]? = some u → L'[i]? = some u) ∧ (Cov c0 L → Cov c0 L')) from ⟨k1, k2, k3, k4, k5, k6, k7⟩)
       generalize hKs : (sk ++ zs).drop ((sk ++ zs).length - 16) = ks at *
       have HKs := (show Hid _ from hKs)
       clear S12 S1 S2 r0 r1 r2 k1 k2 k3 k4 k5 k6 k7 hKs))
  refine bodyPost_ret (v := .tuple #[.int .i64 (k : Int), .agg #[.int .i64 (c' : Int), .int .i64 (m + 1), .slice q ks.length d], .int .i64 0]) (by simp [results, Try.results48, go_sem, d0, d1, d2, q0, q1, q2]) rfl ?_
  have hK := keeps_set3 w2 (wr.heap.size + 1) (.int .i64 (c' : Int)) (.int .i64 (m + 1)) (.slice q ks.length d)
  have hbs := T.out.below.size
  have T6 := T2.own hK (fun j hj => .inl ⟨.inl (.inr (.inr hj)), by omega⟩)
  obtain ⟨k1, k2, k3, k4, k5, k6, k7⟩ := HX.out
  refine ⟨L', k, c', zs, q, d, by rw [HKs.out], ?_, ?_, ?_, k1, k2, k3, k4, k5, k6, k7⟩
  · rw [HKs.out]
    exact T6.mono (fun j hj => hj.elim (fun h => .inl (.inl h)) .inr)
  · rw [HKs.out]
    exact row_lower (row_keeps O2 hK (fun j hj he => by have := (row_base O2 hj).1; omega)) (by omega)
  · exact HSW.out.trans (hK.mono (fun j _ hj hg => by have := T.out.lt j hg; omega))
theorem take_ahead (T : Hid (On w wr aa L G)) (c0 c next D : Nat) (m : Int) (p : Option Addr) (cc : Nat) (sk : List Ky) (R : Hid (RtOk L c0 c next sk)) (RK : Hid (RdK wr (.slice p sk.length cc) sk)) (hm : Hid (m = (next + D : Nat))) (hM : m < 1073741824) (hD : D ≤ 200) (hL : L.length ≤ 900) : Calls Try.prog 48 #[.pointer (some ⟨aa, 0, none⟩), .agg #[.int .i64 c, .int .i64 next, .slice p sk.length cc], .int .i64 m] wr fun e w' => ∃ (L' : List Tm) (k c' : Nat) (zs : List Ky) (q : Option Addr) (d : Nat), e = .returned (.tuple #[.int .i64 k, .agg #[.int .i64 c', .int .i64 (m + 1), .slice q ((sk ++ zs).drop ((sk ++ zs).length - 16)).length d], .int .i64 0]) ∧ On w w' aa L' (fun j => G j ∨ (Value.slice q ((sk ++ zs).drop ((sk ++ zs).length - 16)).length d).ownBlock = some j) ∧ w'.ownsRow wr.heap.size 87 2 (.slice q ((sk ++ zs).drop ((sk ++ zs).length - 16)).length d) ((sk ++ zs).drop ((sk ++ zs).length - 16)).length (flatK ((sk ++ zs).drop ((sk ++ zs).length - 16))) ∧ Stay G wr w' ∧ KeyAt L' c0 (next + D) k ∧ Pos L' c0 (next + D + 1) c' ∧ Skip L' c0 next zs ∧ zs.length = D ∧ L'.length ≤ L.length + 2 * (D + 1) ∧ (∀ (i : Nat) (u : Tm), L[i]? = some u → L'[i]? = some u) := by
  refine (take_ahead2 T c0 c next D m p cc sk R RK hm hM hD hL).mono ?_
  rintro e w' ⟨L', k, c', zs, q, d, h1, h2, h3, h4, k1, k2, k3, k4, k5, k6, _⟩
  exact ⟨L', k, c', zs, q, d, h1, h2, h3, h4, k1, k2, k3, k4, k5, k6⟩
end
end Go.Proofs.Ytikbeagcflofhaa
namespace Go.Proofs.Ytikbeagcflofhaa
open Go.ChangeShapes Go.WideShapes Go.ChangeAt Go.RowKit Go.Maps
set_option maxRecDepth 100000
attribute [local go_sem ↓] Go.wp_at_zero Go.wp_at_succ
/-- A ratchet in a variable. -/
structure Rv (w : World) (rb : Nat) (c nx : Int) (v : Value) : Prop where
  c0 : w.cell? ⟨rb, 0, none⟩ = some (.int .i64 c)
  c1 : w.cell? ⟨rb, 1, none⟩ = some (.int .i64 nx)
  c2 : w.cell? ⟨rb, 2, none⟩ = some v
  f0 : w.frozen? ⟨rb, 0, none⟩ = false
  f1 : w.frozen? ⟨rb, 1, none⟩ = false
  f2 : w.frozen? ⟨rb, 2, none⟩ = false
  lt : rb < w.heap.size
theorem Rv.new (w : World) (c nx : Int) (v : Value) : Rv (w.alloc (.cells #[.int .i64 c, .int .i64 nx, v] 70)) w.heap.size c nx v := ⟨by simp [go_sem], by simp [go_sem], by simp [go_sem], by simp [go_sem], by simp [go_sem], by simp [go_sem], by simp⟩
theorem Rv.keep {F : Nat → Prop} {w w' : World} {rb : Nat} {c nx : Int} {v : Value} (h : Rv w rb c nx v) (hK : Keeps F w w') (hn : ¬ F rb) : Rv w' rb c nx v :=
  ⟨(hK.cell (p := ⟨rb, 0, none⟩) h.lt hn).trans h.c0, (hK.cell (p := ⟨rb, 1, none⟩) h.lt hn).trans h.c1, (hK.cell (p := ⟨rb, 2, none⟩) h.lt hn).trans h.c2, (hK.frozen (p := ⟨rb, 0, none⟩) h.lt hn).trans h.f0, (hK.frozen (p := ⟨rb, 1, none⟩) h.lt hn).trans h.f1, (hK.frozen (p := ⟨rb, 2, none⟩) h.lt hn).trans h.f2, Nat.lt_of_lt_of_le h.lt hK.size⟩
theorem Rv.stay {G : Nat → Prop} {w w' : World} {rb : Nat} {c nx : Int} {v : Value} (h : Rv w rb c nx v) (hS : Stay G w w') (hg : G rb) : Rv w' rb c nx v := h.keep hS (fun hn => hn hg)
theorem Rv.below {w w' : World} {rb : Nat} {c nx : Int} {v : Value} (h : Rv w rb c nx v) (hB : Below w.heap.size w w') : Rv w' rb c nx v := h.keep (Keeps.of_below (F := fun _ => False) hB) (fun h => h)
theorem Rv.alloc {w : World} {rb : Nat} {c nx : Int} {v : Value} (h : Rv w rb c nx v) (o : Obj) : Rv (w.alloc o) rb c nx v := h.below ((Below.refl _ w).alloc (Nat.le_refl _) o)
theorem Rv.set {w : World} {rb : Nat} {c nx : Int} {v : Value} (h : Rv w rb c nx v) (c' nx' : Int) (v' : Value) : Rv (((w.setCell ⟨rb, 0, none⟩ (.int .i64 c')).setCell ⟨rb, 1, none⟩ (.int .i64 nx')).setCell ⟨rb, 2, none⟩ v') rb c' nx' v' := by
  obtain ⟨c0, c1, c2, f0, f1, f2, lt⟩ := h
  exact ⟨by simp [go_sem, c0, c1, c2], by simp [go_sem, c0, c1, c2], by simp [go_sem, c0, c1, c2], by simp [go_sem, f0, f1, f2], by simp [go_sem, f0, f1, f2], by simp [go_sem, f0, f1, f2], by simpa using lt⟩
/-- What a ratchet is, turned ahead. -/
theorem rt_ahead {L L' : List Tm} {c0 c c' next D : Nat} {sk zs : List Ky} (R : RtOk L c0 c next sk) (hm : ∀ (i : Nat) (u : Tm), L[i]? = some u → L'[i]? = some u) (hp : Pos L' c0 (next + D + 1) c') (hz : Skip L' c0 next zs) (hl : zs.length = D) (hM : ((next + D + 1 : Nat) : Int) ≤ 1073741824) : RtOk L' c0 c' (next + D + 1) ((sk ++ zs).drop ((sk ++ zs).length - 16)) := by
  have R2 := R.keep hm
  have hmem : ∀ k ∈ sk ++ zs, ∃ i s : Nat, k = ((i : Int), (s : Int)) ∧ KeyAt L' c0 i s ∧ i < next + D + 1 := by
    intro k hk
    rcases List.mem_append.1 hk with h | h
    · obtain ⟨i, s, e, h1⟩ := R2.keys k h
      have := R.right.hi k h
      rw [e] at this
      simp only at this
      exact ⟨i, s, e, h1, by omega⟩
    · obtain ⟨t, ht, rfl⟩ := List.getElem_of_mem h
      obtain ⟨s, e, h1⟩ := hz.at' t _ (List.getElem?_eq_getElem ht)
      exact ⟨next + t, s, e, h1, by omega⟩
  have hup : ∀ (i : Nat) (k l : Ky), (sk ++ zs)[i]? = some k → (sk ++ zs)[i + 1]? = some l → k.1 < l.1 := by
    intro i k l h1 h2
    rcases Nat.lt_or_ge (i + 1) sk.length with h | h
    · rw [List.getElem?_append_left (by omega)] at h1
      rw [List.getElem?_append_left h] at h2
      exact R.right.up i k l h1 h2
    · rw [List.getElem?_append_right h] at h2
      obtain ⟨s2, e2, _⟩ := hz.at' _ _ h2
      rcases Nat.lt_or_ge i sk.length with h3 | h3
      · rw [List.getElem?_append_left h3] at h1
        have := R.right.hi k (at_mem h1)
        rw [e2]
        simp only
        omega
      · rw [List.getElem?_append_right h3] at h1
        obtain ⟨s1, e1, _⟩ := hz.at' _ _ h1
        rw [e1, e2]
        simp only
        omega
  refine ⟨⟨by omega, hM, by rw [List.length_drop]; omega, fun i k l h1 h2 => ?_, fun k hk => ?_, fun k hk => ?_⟩, hp, fun k hk => ?_⟩
  · rw [List.getElem?_drop] at h1 h2
    exact hup _ k l h1 (by rw [Nat.add_assoc]; exact h2)
  · obtain ⟨i, s, rfl, _⟩ := hmem k (List.mem_of_mem_drop hk)
    simp only
    omega
  · obtain ⟨i, s, rfl, _, h1⟩ := hmem k (List.mem_of_mem_drop hk)
    simp only
    omega
  · obtain ⟨i, s, e, h1, _⟩ := hmem k (List.mem_of_mem_drop hk)
    exact ⟨i, s, e, h1⟩
section
variable {w wr w' : World} {aa : Nat} {L L1 L2 : List Tm} {G : Nat → Prop}
theorem loc_end {w1 : World} (B : Below (wr.heap.size + 2) wr w1) (u0 u1 u2 : Value) : Below wr.heap.size wr (((w1.setCell ⟨wr.heap.size + 1, 0, none⟩ u0).setCell ⟨wr.heap.size + 1, 1, none⟩ u1).setCell ⟨wr.heap.size + 1, 2, none⟩ u2) :=
  (((B.mono (by omega)).setCell (p := ⟨wr.heap.size + 1, 0, none⟩) (by simp) _).setCell (p := ⟨wr.heap.size + 1, 1, none⟩) (by simp) _).setCell (p := ⟨wr.heap.size + 1, 2, none⟩) (by simp) _
set_option maxHeartbeats 4000000 in
theorem take_far (T : Hid (On w wr aa L G)) (c0 c next : Nat) (m : Int) (p : Option Addr) (cc : Nat) (sk : List Ky) (R : Hid (RtOk L c0 c next sk)) (RK : Hid (RdK wr (.slice p sk.length cc) sk)) (hM : m < 1073741824) (h4 : (200 : Int) < m - next) : Calls Try.prog 48 #[.pointer (some ⟨aa, 0, none⟩), .agg #[.int .i64 c, .int .i64 next, .slice p sk.length cc], .int .i64 m] wr fun e w' => e = .returned (.tuple #[.int .i64 0, .agg #[.int .i64 0, .int .i64 0, .slice none 0 0], .int .i64 14]) ∧ Below wr.heap.size wr w' := by
  have h1 : ¬ m < 0 := by omega
  have h2 : ¬ (1073741824 : Int) ≤ m := by omega
  have h3 : ¬ m < (next : Int) := by omega
  have hw : IntKind.i64.wrap (m - next) = m - next := IntWalk.i64_in _ (by omega)
  go_enter Try.func48, Try.ntmps48
  go_wp2_with (first
    | (go_at_call 75; refine (usable_yes (loc_on T.out _ _) R.out.right ((RK.out.alloc _).alloc _) R.out.pos.lt R.out.sec).mono ?_; rintro ev w1 ⟨rfl, B1⟩
       have S1 := stay_below (G := Loc wr G) B1
       have r0 : w1.cell? ⟨wr.heap.size, 0, none⟩ = some (.int .i64 c) := loc_cell S1 (.inl rfl) (by simp [go_sem])
       have r1 : w1.cell? ⟨wr.heap.size, 1, none⟩ = some (.int .i64 next) := loc_cell S1 (.inl rfl) (by simp [go_sem])
       have r2 : w1.cell? ⟨wr.heap.size, 2, none⟩ = some (.slice p sk.length cc) := loc_cell S1 (.inl rfl) (by simp [go_sem])
       have d0 : w1.cell? ⟨wr.heap.size + 1, 0, none⟩ = some (.int .i64 0) := loc_cell S1 (.inr rfl) (by simp [go_sem])
       have d1 : w1.cell? ⟨wr.heap.size + 1, 1, none⟩ = some (.int .i64 0) := loc_cell S1 (.inr rfl) (by simp [go_sem])
       have d2 : w1.cell? ⟨wr.heap.size + 1, 2, none⟩ = some (.slice none 0 0) := loc_cell S1 (.inr rfl) (by simp [go_sem])
       have q0 : w1.frozen? ⟨wr.heap.size + 1, 0, none⟩ = false := loc_frozen S1 (.inr rfl) (by simp [go_sem])
       have q1 : w1.frozen? ⟨wr.heap.size + 1, 1, none⟩ = false := loc_frozen S1 (.inr rfl) (by simp [go_sem])
       have q2 : w1.frozen? ⟨wr.heap.size + 1, 2, none⟩ = false := loc_frozen S1 (.inr rfl) (by simp [go_sem])
       have HRK1 := (show Hid (RdK w1 (.slice p sk.length cc) sk) from ((RK.out.alloc _).alloc _).below B1)
       have HB1 := (show Hid (Below wr.heap.size wr w1) from (loc_below wr _ _).trans (B1.mono (by simp; omega)))
       clear B1 S1))
  refine bodyPost_ret (v := .tuple #[.int .i64 0, .agg #[.int .i64 0, .int .i64 0, .slice none 0 0], .int .i64 14]) (by simp [results, Try.results48, go_sem, d0, d1, d2, q0, q1, q2]) rfl ⟨rfl, ?_⟩
  exact ((HB1.out.setCell (p := ⟨wr.heap.size + 1, 0, none⟩) (by simp) _).setCell (p := ⟨wr.heap.size + 1, 1, none⟩) (by simp) _).setCell (p := ⟨wr.heap.size + 1, 2, none⟩) (by simp) _
set_option maxHeartbeats 4000000 in
theorem take_old_no (T : Hid (On w wr aa L G)) (c0 c next : Nat) (m : Int) (p : Option Addr) (cc : Nat) (sk : List Ky) (R : Hid (RtOk L c0 c next sk)) (RK : Hid (RdK wr (.slice p sk.length cc) sk)) (hm0 : 0 ≤ m) (hm : m < next) (hno : Hid (∀ k ∈ sk, k.1 ≠ m)) : Calls Try.prog 48 #[.pointer (some ⟨aa, 0, none⟩), .agg #[.int .i64 c, .int .i64 next, .slice p sk.length cc], .int .i64 m] wr fun e w' => e = .returned (.tuple #[.int .i64 0, .agg #[.int .i64 0, .int .i64 0, .slice none 0 0], .int .i64 13]) ∧ Below wr.heap.size wr w' := by
  have hnM := R.out.right.nM
  have hlen := R.out.right.len
  have h1 : ¬ m < 0 := by omega
  have h2 : ¬ (1073741824 : Int) ≤ m := by omega
  clear hnM
  go_enter Try.func48, Try.ntmps48
  go_wp2_with (first
    | (go_at_call 75; refine (usable_yes (loc_on T.out _ _) R.out.right ((RK.out.alloc _).alloc _) R.out.pos.lt R.out.sec).mono ?_; rintro ev w1 ⟨rfl, B1⟩
       have S1 := stay_below (G := Loc wr G) B1
       have r0 : w1.cell? ⟨wr.heap.size, 0, none⟩ = some (.int .i64 c) := loc_cell S1 (.inl rfl) (by simp [go_sem])
       have r1 : w1.cell? ⟨wr.heap.size, 1, none⟩ = some (.int .i64 next) := loc_cell S1 (.inl rfl) (by simp [go_sem])
       have r2 : w1.cell? ⟨wr.heap.size, 2, none⟩ = some (.slice p sk.length cc) := loc_cell S1 (.inl rfl) (by simp [go_sem])
       have d0 : w1.cell? ⟨wr.heap.size + 1, 0, none⟩ = some (.int .i64 0) := loc_cell S1 (.inr rfl) (by simp [go_sem])
       have d1 : w1.cell? ⟨wr.heap.size + 1, 1, none⟩ = some (.int .i64 0) := loc_cell S1 (.inr rfl) (by simp [go_sem])
       have d2 : w1.cell? ⟨wr.heap.size + 1, 2, none⟩ = some (.slice none 0 0) := loc_cell S1 (.inr rfl) (by simp [go_sem])
       have q0 : w1.frozen? ⟨wr.heap.size + 1, 0, none⟩ = false := loc_frozen S1 (.inr rfl) (by simp [go_sem])
       have q1 : w1.frozen? ⟨wr.heap.size + 1, 1, none⟩ = false := loc_frozen S1 (.inr rfl) (by simp [go_sem])
       have q2 : w1.frozen? ⟨wr.heap.size + 1, 2, none⟩ = false := loc_frozen S1 (.inr rfl) (by simp [go_sem])
       have HRK1 := (show Hid (RdK w1 (.slice p sk.length cc) sk) from ((RK.out.alloc _).alloc _).below B1)
       have HB1 := (show Hid (Below wr.heap.size wr w1) from (loc_below wr _ _).trans (B1.mono (by simp; omega)))
       have hsz1 : wr.heap.size + 2 ≤ w1.heap.size := by have := S1.size; simpa using this
       have HRKs := (show Hid (wr.heap.size + 2 ≤ w1.heap.size) from hsz1)
       clear hsz1
       clear B1 S1)
    | (go_at_call 76; refine (skipped_no p cc _ _ m sk _ (by omega) HRK1 hno).mono ?_; rintro ev w2 ⟨rfl, B2⟩
       have hsz := HB1.out.size
       have hs1 := HRKs.out
       have e0 := (B2.cell (p := ⟨wr.heap.size + 1, 0, none⟩) (show wr.heap.size + 1 < w1.heap.size by omega)).trans d0
       have e1 := (B2.cell (p := ⟨wr.heap.size + 1, 1, none⟩) (show wr.heap.size + 1 < w1.heap.size by omega)).trans d1
       have e2 := (B2.cell (p := ⟨wr.heap.size + 1, 2, none⟩) (show wr.heap.size + 1 < w1.heap.size by omega)).trans d2
       have g0 := (B2.frozen (p := ⟨wr.heap.size + 1, 0, none⟩) (show wr.heap.size + 1 < w1.heap.size by omega)).trans q0
       have g1 := (B2.frozen (p := ⟨wr.heap.size + 1, 1, none⟩) (show wr.heap.size + 1 < w1.heap.size by omega)).trans q1
       have g2 := (B2.frozen (p := ⟨wr.heap.size + 1, 2, none⟩) (show wr.heap.size + 1 < w1.heap.size by omega)).trans q2
       have HB2 := (show Hid (Below wr.heap.size wr w2) from HB1.out.trans (B2.mono hsz))
       clear d0 d1 d2 q0 q1 q2 B2))
  refine bodyPost_ret (v := .tuple #[.int .i64 0, .agg #[.int .i64 0, .int .i64 0, .slice none 0 0], .int .i64 13]) (by simp [results, Try.results48, go_sem, e0, e1, e2, g0, g1, g2]) rfl ⟨rfl, ?_⟩
  exact ((HB2.out.setCell (p := ⟨wr.heap.size + 1, 0, none⟩) (by simp) _).setCell (p := ⟨wr.heap.size + 1, 1, none⟩) (by simp) _).setCell (p := ⟨wr.heap.size + 1, 2, none⟩) (by simp) _
end
theorem put_a1 : put ([] : List Tm) (1, 1, []) = (0, 0, [(1, 1, [])]) := by decide +kernel
set_option maxHeartbeats 4000000 in
theorem wakes19_ok (ws : World) : Calls Try.prog 54 #[] ws fun e w' => e = .returned (.bool true) ∧ Below ws.heap.size ws w' := by
  have HR0 := (show Hid (RtOk [(1, 1, [])] 0 0 0 []) from RtOk.new (by simp))
  go_enter Try.func54, Try.ntmps54
  go_wp2_with (first
    | (go_at_call 13; refine (new_ar _).mono ?_; rintro ev w1 ⟨ab, F0, rfl, A0, hF0, B0⟩; have T0 := on_fresh A0 hF0 B0; clear A0 hF0 B0)
    | (go_at_call 14; refine (make_on T0 1 1 (v := .slice none 0 0) (xs := []) (.inl ⟨rfl, rfl⟩) (by omega) put_a1).mono ?_; rintro ev w2 ⟨rfl, T1, _⟩; clear T0)
    | (go_at_call 47; refine (rnew_ok 0 _).mono ?_; rintro ev w3 ⟨rfl, B3⟩; have T2 := T1.step B3; clear T1 B3)
    | (go_at_call 48; refine (take_ahead T2 0 0 0 2 2 none 0 [] HR0 (show RdK w3 _ [] from ⟨none, 0, rfl, .inl rfl⟩) rfl (by omega) (by omega) (by simp)).mono ?_; rintro ev w4 ⟨L', k, c', zs, q, d, rfl, T4, O4, S4, k1, k2, k3, k4, k5, k6⟩
       obtain ⟨c2, _, hk2⟩ := k1
       have HK2 := (show Hid (L'[k]? = some (4, 1, [(c2 : Int)])) from hk2)
       have T5 := T4.alloc (.cells #[.int .i64 (c' : Int), .int .i64 (2 + 1), .slice q (([] ++ zs).drop (([] ++ zs).length - 16)).length d] 70)
       have hzl : (([] ++ zs).drop (([] ++ zs).length - 16)).length = 2 := by simp [k4]
       have V5 := Rv.new w4 (c' : Int) (2 + 1) (.slice q (([] ++ zs).drop (([] ++ zs).length - 16)).length d)
       rw [hzl] at V5 T5 ⊢
       clear T4 O4 S4 k2 k3 k4 k5 k6 hk2 hzl)
    | (go_at_call 83; refine (node_on T5 HK2.out).mono ?_; rintro ev w5 ⟨p5, c5, rfl, _, B5⟩
       have V6 := V5.below B5
       have hB5 := T5.below.trans (B5.mono T5.below.size)
       have v1 := (V6.alloc (.cells #[.int .i64 4, .int .i64 1, .slice p5 1 c5] 43)).c1
       have v2 := (V6.alloc (.cells #[.int .i64 4, .int .i64 1, .slice p5 1 c5] 43)).c2
       clear T5 V5 B5))
  go_ret
  exact ⟨rfl, hB5.alloc hB5.size _⟩
end Go.Proofs.Ytikbeagcflofhaa
namespace Go.Proofs.Ytikbeagcflofhaa
open Go.ChangeShapes Go.WideShapes Go.ChangeAt Go.RowKit Go.Maps
set_option maxRecDepth 100000
attribute [local go_sem ↓] Go.wp_at_zero Go.wp_at_succ
section
variable {w wr w' : World} {aa : Nat} {L L1 L2 : List Tm} {G : Nat → Prop}
theorem rdk_none (w : World) (q : Option Addr) (d : Nat) : RdK w (.slice q 0 d) [] := ⟨q, d, rfl, .inl rfl⟩
theorem send0 (T : On w wr aa L G) {c0 c k c' next : Nat} {q0 : Option Addr} {d0 : Nat} (K1 : MkT L (4, 1, [(c : Int)]) k L1) (K2 : MkT L1 (4, 2, [(c : Int)]) c' L2) (R : RtOk L c0 c next []) (hM : ¬ (1073741824 : Int) ≤ next) : Calls Try.prog 49 #[.pointer (some ⟨aa, 0, none⟩), .agg #[.int .i64 c, .int .i64 next, .slice q0 0 d0]] wr fun e w' => ∃ q d, e = .returned (.tuple #[.int .i64 k, .int .i64 next, .agg #[.int .i64 c', .int .i64 ((next : Int) + 1), .slice q 0 d], .int .i64 0]) ∧ On w w' aa L2 G ∧ Stay G wr w' := by
  refine (send_on T K1 K2 R (rdk_none wr q0 d0) (fun h => absurd rfl h) hM).mono ?_
  rintro e w' ⟨q, d, rfl, T2, _, S2⟩
  exact ⟨q, d, rfl, T2.mono (fun k hk => .inl hk), S2⟩
theorem take_old_n {sk : List Ky} {n : Nat} (hn : sk.length = n) (T : Hid (On w wr aa L G)) (c0 c next : Nat) (m : Int) (p : Option Addr) (cc : Nat) (R : Hid (RtOk L c0 c next sk)) (RK : Hid (RdK wr (.slice p n cc) sk)) (hm0 : 0 ≤ m) (hm : m < next) (hno : Hid (∀ k ∈ sk, k.1 ≠ m)) : Calls Try.prog 48 #[.pointer (some ⟨aa, 0, none⟩), .agg #[.int .i64 c, .int .i64 next, .slice p n cc], .int .i64 m] wr fun e w' => e = .returned (.tuple #[.int .i64 0, .agg #[.int .i64 0, .int .i64 0, .slice none 0 0], .int .i64 13]) ∧ Below wr.heap.size wr w' := by
  subst hn
  exact take_old_no T c0 c next m p cc sk R RK hm0 hm hno
theorem skip_last {L : List Tm} {c0 next J : Nat} {zs : List Ky} (hz : Skip L c0 next zs) (hl : zs.length = J) : ((([] : List Ky) ++ zs).drop ((([] : List Ky) ++ zs).length - 16)).length = min J 16 ∧ ∀ (i : Nat) (k : Ky), ((([] : List Ky) ++ zs).drop ((([] : List Ky) ++ zs).length - 16))[i]? = some k → k.1 = ((next + J - min J 16 + i : Nat) : Int) := by
  rw [List.nil_append]
  refine ⟨by rw [List.length_drop]; omega, fun i k h => ?_⟩
  rw [List.getElem?_drop] at h
  obtain ⟨s, rfl, _⟩ := hz.at' _ _ h
  simp only
  omega
set_option maxHeartbeats 8000000 in
theorem bounds_main (J F : Nat) (hJ : J ≤ 203) (hF : F ≤ 20) (w : World) : Calls Try.prog 12 #[.int .i64 J, .int .i64 F] w fun e w' => e = .returned (.bool true) ∧ Below w.heap.size w w' := by
  have hj : ¬ (203 : Int) < J := by omega
  have hf : ¬ (20 : Int) < F := by omega
  go_enter Try.func12, Try.ntmps12
  go_wp2_with (first
    | (go_at_call 13; refine (new_ar _).mono ?_; rintro ev w1 ⟨aa, F0, rfl, A0, hF0, B0⟩; have T0 := on_fresh A0 hF0 B0; clear A0 hF0 B0)
    | (go_at_call 14; refine (make_on T0 1 1 (v := .slice none 0 0) (xs := []) (.inl ⟨rfl, rfl⟩) (by omega) put_a1).mono ?_; rintro ev w2 ⟨rfl, T1, _⟩; clear T0)
    | (go_at_call 47; refine (rnew_ok 0 _).mono ?_; rintro ev w3 ⟨rfl, B3⟩; have T2 := T1.step B3; clear T1 B3))
  have T3 := (T2.add ((Below.refl _ w3).alloc (Nat.le_refl _) (.cells #[.int .i64 0, .int .i64 0, .slice none 0 0] 70)) (P := fun k => k = w3.heap.size) (fun k hk => by simp; omega)).mono (G' := fun k => k = w3.heap.size) (fun k hk => .inr hk)
  have V3 := Rv.new w3 0 0 (.slice none 0 0)
  have R3 := RtOk.new (L := [(1, 1, [])]) (c := 0) (by simp)
  have hrb := T2.below.size
  clear T2
  generalize w3.alloc (.cells #[.int .i64 0, .int .i64 0, .slice none 0 0] 70) = w4 at *
  generalize w3.heap.size = rb at *
  go_loopw [9] (fun i wq => ∃ (j : Nat) (L : List Tm) (c : Nat) (q : Option Addr) (d : Nat), i = .int .i64 j ∧ j ≤ F ∧ On w wq aa L (fun k => k = rb) ∧ Rv wq rb c j (.slice q 0 d) ∧ RtOk L 0 c j [] ∧ L.length ≤ 1 + 2 * j) (fun i _ => F - (intOf i).toNat)
  case atStart => exact ⟨0, _, 0, none, 0, rfl, by omega, T3, V3, R3, by simp⟩
  case round =>
    clear T3 V3 R3
    obtain ⟨j, L, c, q, d, rfl, hjF, T, V, R, hL⟩ := hrel
    have HR := (show Hid (RtOk L 0 c j []) from R)
    have HV := (show Hid (Rv wr rb c j (.slice q 0 d)) from V)
    have v0 := V.c0
    have v1 := V.c1
    have v2 := V.c2
    clear R V
    by_cases hlt : j < F
    · obtain ⟨k, L1, c', L2, K1, K2⟩ := turn_mk (L := L) (c := c) HR.out.pos.lt (by omega)
      have M1 := (show Hid (MkT L (4, 1, [(c : Int)]) k L1) from K1)
      have M2 := (show Hid (MkT L1 (4, 2, [(c : Int)]) c' L2) from K2)
      have hjI : (j : Int) < F := by omega
      clear K1 K2
      go_wp2_with (go_at_call 49; refine (send0 T M1.out M2.out HR.out (by omega)).mono ?_; rintro ev w5 ⟨q5, d5, rfl, T5, S5⟩
                   have V5 := (HV.out.stay S5 rfl).alloc (.cells #[.int .i64 (c' : Int), .int .i64 ((j : Int) + 1), .slice q5 0 d5] 70)
                   have HV5 := (show Hid (Rv (w5.alloc (.cells #[.int .i64 (c' : Int), .int .i64 ((j : Int) + 1), .slice q5 0 d5] 70)) rb c j (.slice q 0 d)) from V5)
                   have x0 := V5.c0
                   have x1 := V5.c1
                   have x2 := V5.c2
                   have y0 := V5.f0
                   have y1 := V5.f1
                   have y2 := V5.f2
                   clear v0 v1 v2 V5 S5 T)
      have V6 := HV5.out.set (c' : Int) ((j : Int) + 1) (.slice q5 0 d5)
      have T6 := (T5.alloc (.cells #[.int .i64 (c' : Int), .int .i64 ((j : Int) + 1), .slice q5 0 d5] 70)).own (keeps_set3 _ rb (.int .i64 (c' : Int)) (.int .i64 ((j : Int) + 1)) (.slice q5 0 d5)) (fun k hk => .inl ⟨hk, by omega⟩)
      refine ⟨⟨j + 1, L2, c', q5, d5, by simp, by omega, T6, by simpa using V6, (HR.out.sent (by omega) M1.out M2.out).1, by have := M1.out.le1; have := M2.out.le1; omega⟩, by simp [intOf]; omega⟩
    · obtain rfl : j = F := by omega
      have hw1 : IntKind.i64.wrap ((j : Int) + J) = (j : Int) + J := IntWalk.i64_in _ (by omega)
      by_cases hfar : 200 < J
      · have hfI : (200 : Int) < J := by omega
        go_wp2_with (first
          | (go_at_call 48; refine (take_far (show Hid (On w wr aa L (fun k => k = rb)) from T) 0 c j ((j : Int) + J) q d [] HR (rdk_none wr q d) (by omega) (by omega)).mono ?_; rintro ev w5 ⟨rfl, B5⟩; have hB5 := T.below.trans (B5.mono T.below.size); clear T)
          | (go_at_call 54; refine (wakes19_ok _).mono ?_; rintro ev w6 ⟨rfl, B6⟩))
        go_ret
        exact ⟨rfl, (hB5.alloc hB5.size _).trans (B6.mono (by have := hB5.size; simp; omega))⟩
      · have hfI : ¬ (200 : Int) < J := by omega
        obtain ⟨N, hN⟩ : ∃ N : Nat, N = j + J + 1 := ⟨_, rfl⟩
        have hNI : (j : Int) + J + 1 = (N : Int) := by omega
        have HN := (show Hid (N = j + J + 1) from hN)
        clear hN
        by_cases h16 : 16 < J
        · have hk16 : (16 : Int) < J := by omega
          go_wp2_with (first
            | (go_at_call 48; refine (take_ahead (show Hid (On w wr aa L (fun k => k = rb)) from T) 0 c j J ((j : Int) + J) q d [] HR (rdk_none wr q d) (show Hid ((j : Int) + J = ((j + J : Nat) : Int)) from (by simp : (j : Int) + J = ((j + J : Nat) : Int))) (by omega) (by omega) (by omega)).mono ?_; rintro ev w5 ⟨L', k, c', zs, q5, d5, rfl, T5, O5, S5, k1, k2, k3, k4, k5, k6⟩
               have hR5 := rt_ahead HR.out k6 k2 k3 k4 (by omega)
               obtain ⟨hlen, hat⟩ := skip_last k3 k4
               rw [show min J 16 = 16 by omega] at hlen hat
               generalize (([] : List Ky) ++ zs).drop ((([] : List Ky) ++ zs).length - 16) = ks at *
               rw [hlen] at T5 O5 ⊢
               rw [hNI]
               rw [← HN.out] at hR5
               obtain ⟨c6, L6, c7, L7, K6, K7⟩ := turn_mk (L := L') (c := c') hR5.pos.lt (by omega)
               have M6 := (show Hid _ from K6)
               have M7 := (show Hid _ from K7)
               have hS6 := (show Hid (RtOk L7 0 c7 (N + 1) ks) from (hR5.sent (by have := HN.out; omega) K6 K7).1)
               have HR8 := (show Hid (RtOk L' 0 c' N ks) from hR5)
               have HAT := (show Hid (∀ (i : Nat) (k : Ky), ks[i]? = some k → k.1 = ((j + J - 16 + i : Nat) : Int)) from hat)
               have HLEN := (show Hid (ks.length = 16) from hlen)
               have HRK8 := (show Hid (RdK (w5.alloc (.cells #[.int .i64 (c' : Int), .int .i64 (N : Int), .slice q5 16 d5] 70)) (.slice q5 16 d5) ks) from (rdk_row O5).alloc _)
               have V8 := Rv.new w5 (c' : Int) (N : Int) (.slice q5 16 d5)
               have HV8 := (show Hid (Rv (w5.alloc (.cells #[.int .i64 (c' : Int), .int .i64 (N : Int), .slice q5 16 d5] 70)) w5.heap.size (c' : Int) (N : Int) (.slice q5 16 d5)) from V8)
               have T8 := T5.add ((Below.refl _ w5).alloc (Nat.le_refl _) (.cells #[.int .i64 (c' : Int), .int .i64 (N : Int), .slice q5 16 d5] 70)) (P := fun k => k = w5.heap.size) (fun k hk => by simp; omega)
               have HT8 := (show Hid (On w (w5.alloc (.cells #[.int .i64 (c' : Int), .int .i64 (N : Int), .slice q5 16 d5] 70)) aa L' (fun k => (k = rb ∨ (Value.slice q5 16 d5).ownBlock = some k) ∨ k = w5.heap.size)) from T8)
               clear T5 O5 S5 k1 k2 k3 k4 k5 k6 hR5 hlen hat V8 T8 T K6 K7)
            | (go_at_call 44; refine (check_yes HR8.out.right HRK8.out).mono ?_; rintro ev w9 ⟨rfl, B9⟩
               have HT9 := (show Hid (On w w9 aa L' (fun k => (k = rb ∨ (Value.slice q5 16 d5).ownBlock = some k) ∨ k = w5.heap.size)) from HT8.out.step B9)
               have HRK9 := (show Hid (RdK w9 (.slice q5 16 d5) ks) from HRK8.out.below B9)
               have HV9 := (show Hid (Rv w9 w5.heap.size (c' : Int) (N : Int) (.slice q5 16 d5)) from HV8.out.below B9)
               clear B9 HT8 HRK8 HV8))
          have u0 := HV9.out.c0
          have u1 := HV9.out.c1
          have u2 := HV9.out.c2
          generalize w5.heap.size = sb at *
          go_loopw [17] (fun i wq => ∃ t : Nat, i = .int .i64 t ∧ t ≤ 16 ∧ wq = w9) (fun i _ => 16 - (intOf i).toNat)
          case atStart => exact ⟨0, rfl, by omega, rfl⟩
          case round =>
            obtain ⟨t, rfl, ht, rfl⟩ := hrel
            by_cases htl : t < 16
            · obtain ⟨kk, hkk⟩ : ∃ kk, ks[t]? = some kk := ⟨_, List.getElem?_eq_getElem (by have := HLEN.out; omega)⟩
              obtain ⟨b, o, rfl, hb, x0, x1⟩ := rdk_nth HRK9.out hkk
              have hN := HAT.out t kk hkk
              rw [hN, show ((j + J - 16 + t : Nat) : Int) = ((j : Int) + J - 16) + t by omega] at x0
              have hwA : IntKind.i64.wrap (((j : Int) + J - 16)) = ((j : Int) + J - 16) := IntWalk.i64_in _ (by omega)
              have hwB : IntKind.i64.wrap (((j : Int) + J - 16) + (t : Int)) = ((j : Int) + J - 16) + t := IntWalk.i64_in _ (by omega)
              have htI : (t : Int) < (16 : Int) := by omega
              clear hN hkk x1
              go_wp2
              exact ⟨⟨t + 1, by simp, by omega, trivial⟩, by simp [intOf]; omega⟩
            · obtain rfl : 16 = t := by omega
              obtain ⟨N1, hN1⟩ : ∃ N1 : Nat, N1 = N + 1 := ⟨_, rfl⟩
              have hN1I : (N : Int) + 1 = (N1 : Int) := by omega
              have hno := (show Hid (∀ k ∈ ks, k.1 ≠ (j : Int) + J) from fun k hk => by
                obtain ⟨t, ht, rfl⟩ := List.getElem_of_mem hk
                have h1 := HAT.out t _ (List.getElem?_eq_getElem ht)
                have := HLEN.out
                omega)
              have HN1 := (show Hid (N1 = N + 1) from hN1)
              rw [← hN1] at hS6
              clear hN1
              go_wp2_with (first
                | (go_at_call 49; refine (send_on HT9.out M6.out M7.out HR8.out HRK9.out (fun _ k hk => .inl (.inr hk)) (by have := HN.out; omega)).mono ?_; rintro ev w10 ⟨q6, d6, rfl, T10, O10, S10⟩
                   rw [HLEN.out] at T10 O10 ⊢
                   rw [hN1I]
                   have V10 := (HV9.out.stay S10 (.inr rfl)).alloc (.cells #[.int .i64 (c7 : Int), .int .i64 (N1 : Int), .slice q6 16 d6] 70)
                   have z0 := V10.c0
                   have z1 := V10.c1
                   have z2 := V10.c2
                   have HT11 := (show Hid (On w (w10.alloc (.cells #[.int .i64 (c7 : Int), .int .i64 (N1 : Int), .slice q6 16 d6] 70)) aa L7 _) from T10.alloc _)
                   have HRK11 := (show Hid (RdK (w10.alloc (.cells #[.int .i64 (c7 : Int), .int .i64 (N1 : Int), .slice q6 16 d6] 70)) (.slice q6 16 d6) ks) from (rdk_row O10).alloc _)
                   clear u0 u1 u2 T10 O10 S10 V10)
                | (go_at_call 48; refine (take_old_n HLEN.out HT11 0 c7 N1 ((j : Int) + J) q6 d6 hS6 HRK11 (by omega) (by have := HN1.out; have := HN.out; omega) hno).mono ?_; rintro ev w12 ⟨rfl, B12⟩; have hB12 := HT11.out.below.trans (B12.mono HT11.out.below.size))
                | (go_at_call 54; refine (wakes19_ok _).mono ?_; rintro ev w13 ⟨rfl, B13⟩))
              go_ret
              exact ⟨rfl, hB12.trans (B13.mono hB12.size)⟩
        · have hk16 : ¬ (16 : Int) < J := by omega
          go_wp2_with (first
            | (go_at_call 48; refine (take_ahead (show Hid (On w wr aa L (fun k => k = rb)) from T) 0 c j J ((j : Int) + J) q d [] HR (rdk_none wr q d) (show Hid ((j : Int) + J = ((j + J : Nat) : Int)) from (by simp : (j : Int) + J = ((j + J : Nat) : Int))) (by omega) (by omega) (by omega)).mono ?_; rintro ev w5 ⟨L', k, c', zs, q5, d5, rfl, T5, O5, S5, k1, k2, k3, k4, k5, k6⟩
               have hR5 := rt_ahead HR.out k6 k2 k3 k4 (by omega)
               obtain ⟨hlen, hat⟩ := skip_last k3 k4
               rw [show min J 16 = J by omega] at hlen hat
               generalize (([] : List Ky) ++ zs).drop ((([] : List Ky) ++ zs).length - 16) = ks at *
               rw [hlen] at T5 O5 ⊢
               rw [hNI]
               rw [← HN.out] at hR5
               obtain ⟨c6, L6, c7, L7, K6, K7⟩ := turn_mk (L := L') (c := c') hR5.pos.lt (by omega)
               have M6 := (show Hid _ from K6)
               have M7 := (show Hid _ from K7)
               have hS6 := (show Hid (RtOk L7 0 c7 (N + 1) ks) from (hR5.sent (by have := HN.out; omega) K6 K7).1)
               have HR8 := (show Hid (RtOk L' 0 c' N ks) from hR5)
               have HAT := (show Hid (∀ (i : Nat) (k : Ky), ks[i]? = some k → k.1 = ((j + J - J + i : Nat) : Int)) from hat)
               have HLEN := (show Hid (ks.length = J) from hlen)
               have HRK8 := (show Hid (RdK (w5.alloc (.cells #[.int .i64 (c' : Int), .int .i64 (N : Int), .slice q5 J d5] 70)) (.slice q5 J d5) ks) from (rdk_row O5).alloc _)
               have V8 := Rv.new w5 (c' : Int) (N : Int) (.slice q5 J d5)
               have HV8 := (show Hid (Rv (w5.alloc (.cells #[.int .i64 (c' : Int), .int .i64 (N : Int), .slice q5 J d5] 70)) w5.heap.size (c' : Int) (N : Int) (.slice q5 J d5)) from V8)
               have T8 := T5.add ((Below.refl _ w5).alloc (Nat.le_refl _) (.cells #[.int .i64 (c' : Int), .int .i64 (N : Int), .slice q5 J d5] 70)) (P := fun k => k = w5.heap.size) (fun k hk => by simp; omega)
               have HT8 := (show Hid (On w (w5.alloc (.cells #[.int .i64 (c' : Int), .int .i64 (N : Int), .slice q5 J d5] 70)) aa L' (fun k => (k = rb ∨ (Value.slice q5 J d5).ownBlock = some k) ∨ k = w5.heap.size)) from T8)
               clear T5 O5 S5 k1 k2 k3 k4 k5 k6 hR5 hlen hat V8 T8 T K6 K7)
            | (go_at_call 44; refine (check_yes HR8.out.right HRK8.out).mono ?_; rintro ev w9 ⟨rfl, B9⟩
               have HT9 := (show Hid (On w w9 aa L' (fun k => (k = rb ∨ (Value.slice q5 J d5).ownBlock = some k) ∨ k = w5.heap.size)) from HT8.out.step B9)
               have HRK9 := (show Hid (RdK w9 (.slice q5 J d5) ks) from HRK8.out.below B9)
               have HV9 := (show Hid (Rv w9 w5.heap.size (c' : Int) (N : Int) (.slice q5 J d5)) from HV8.out.below B9)
               clear B9 HT8 HRK8 HV8))
          have u0 := HV9.out.c0
          have u1 := HV9.out.c1
          have u2 := HV9.out.c2
          generalize w5.heap.size = sb at *
          go_loopw [17] (fun i wq => ∃ t : Nat, i = .int .i64 t ∧ t ≤ J ∧ wq = w9) (fun i _ => J - (intOf i).toNat)
          case atStart => exact ⟨0, rfl, by omega, rfl⟩
          case round =>
            obtain ⟨t, rfl, ht, rfl⟩ := hrel
            by_cases htl : t < J
            · obtain ⟨kk, hkk⟩ : ∃ kk, ks[t]? = some kk := ⟨_, List.getElem?_eq_getElem (by have := HLEN.out; omega)⟩
              obtain ⟨b, o, rfl, hb, x0, x1⟩ := rdk_nth HRK9.out hkk
              have hN := HAT.out t kk hkk
              rw [hN, show ((j + J - J + t : Nat) : Int) = (j : Int) + t by omega] at x0
              have hwA : IntKind.i64.wrap ((j : Int)) = (j : Int) := IntWalk.i64_in _ (by omega)
              have hwB : IntKind.i64.wrap ((j : Int) + (t : Int)) = (j : Int) + t := IntWalk.i64_in _ (by omega)
              have htI : (t : Int) < (J : Int) := by omega
              clear hN hkk x1
              go_wp2
              exact ⟨⟨t + 1, by simp, by omega, trivial⟩, by simp [intOf]; omega⟩
            · obtain rfl : J = t := by omega
              obtain ⟨N1, hN1⟩ : ∃ N1 : Nat, N1 = N + 1 := ⟨_, rfl⟩
              have hN1I : (N : Int) + 1 = (N1 : Int) := by omega
              have hno := (show Hid (∀ k ∈ ks, k.1 ≠ (j : Int) + J) from fun k hk => by
                obtain ⟨t, ht, rfl⟩ := List.getElem_of_mem hk
                have h1 := HAT.out t _ (List.getElem?_eq_getElem ht)
                have := HLEN.out
                omega)
              have HN1 := (show Hid (N1 = N + 1) from hN1)
              rw [← hN1] at hS6
              clear hN1
              go_wp2_with (first
                | (go_at_call 49; refine (send_on HT9.out M6.out M7.out HR8.out HRK9.out (fun _ k hk => .inl (.inr hk)) (by have := HN.out; omega)).mono ?_; rintro ev w10 ⟨q6, d6, rfl, T10, O10, S10⟩
                   rw [HLEN.out] at T10 O10 ⊢
                   rw [hN1I]
                   have V10 := (HV9.out.stay S10 (.inr rfl)).alloc (.cells #[.int .i64 (c7 : Int), .int .i64 (N1 : Int), .slice q6 J d6] 70)
                   have z0 := V10.c0
                   have z1 := V10.c1
                   have z2 := V10.c2
                   have HT11 := (show Hid (On w (w10.alloc (.cells #[.int .i64 (c7 : Int), .int .i64 (N1 : Int), .slice q6 J d6] 70)) aa L7 _) from T10.alloc _)
                   have HRK11 := (show Hid (RdK (w10.alloc (.cells #[.int .i64 (c7 : Int), .int .i64 (N1 : Int), .slice q6 J d6] 70)) (.slice q6 J d6) ks) from (rdk_row O10).alloc _)
                   clear u0 u1 u2 T10 O10 S10 V10)
                | (go_at_call 48; refine (take_old_n HLEN.out HT11 0 c7 N1 ((j : Int) + J) q6 d6 hS6 HRK11 (by omega) (by have := HN1.out; have := HN.out; omega) hno).mono ?_; rintro ev w12 ⟨rfl, B12⟩; have hB12 := HT11.out.below.trans (B12.mono HT11.out.below.size))
                | (go_at_call 54; refine (wakes19_ok _).mono ?_; rintro ev w13 ⟨rfl, B13⟩))
              go_ret
              exact ⟨rfl, hB12.trans (B13.mono hB12.size)⟩
end
end Go.Proofs.Ytikbeagcflofhaa
