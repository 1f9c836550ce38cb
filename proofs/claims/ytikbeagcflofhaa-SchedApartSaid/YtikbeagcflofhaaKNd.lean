/-
  KNOW: learn, users, owns. Own work.
-/
import Derived.Test.YtikbeagcflofhaaKNb
namespace Go.Proofs.Ytikbeagcflofhaa
open Go.RowKit Go.Maps
set_option maxRecDepth 100000
attribute [local go_sem ↓] Go.wp_at_zero Go.wp_at_succ
/-- Lengths, and room. -/
structure Okk (L : List Tm) (s : Sk) : Prop where
  lk : s.kn.length = L.length
  lo : s.op.length = L.length
  lm : s.ms.length = L.length
  wb : s.wk.length + s.kn.count false ≤ L.length
  lt : L.length ≤ 1048576
theorem count_set_true {l : List Bool} {i : Nat} (hi : i < l.length) (h : bt l i = false) : (l.set i true).count false + 1 = l.count false := by
  have hg : l[i] = false := by
    unfold bt at h
    rwa [List.getD_eq_getElem?_getD, List.getElem?_eq_getElem hi] at h
  rw [List.count_set hi, hg]
  have : 0 < l.count false := List.count_pos_iff.2 (by rw [← hg]; exact List.getElem_mem hi)
  simp
  omega
theorem Okk.lrn {L : List Tm} {s : Sk} (h : Okk L s) {i : Nat} (hi : i < L.length) : Okk L (lrn s i) := by
  unfold Proofs.Ytikbeagcflofhaa.lrn
  split
  · exact h
  · rename_i hb
    have := count_set_true (l := s.kn) (i := i) (by rw [h.lk]; exact hi) (by simpa using hb)
    refine ⟨by simp [h.lk], h.lo, h.lm, ?_, h.lt⟩
    have := h.wb
    simp only [List.length_append, List.length_cons, List.length_nil]
    omega
theorem kn_at {l : List Bool} {i : Nat} (hi : i < l.length) : (l.map Value.bool)[i]? = some (.bool (bt l i)) := by
  rw [List.getElem?_map, List.getElem?_eq_getElem hi]
  unfold bt
  rw [List.getD_eq_getElem?_getD, List.getElem?_eq_getElem hi]
  rfl
theorem news1' (w : World) (v : Value) (t : Nat) : ∀ j u, [v][j]? = some u → (w.alloc (.cells #[v] t)).cell? ((⟨w.heap.size, 0, none⟩ : Addr).add j) = some u := by
  intro j u hj
  match j, hj with
  | 0, hj =>
    simp at hj
    subst hj
    simp [Addr.add]
  | j + 1, hj => simp at hj
set_option maxHeartbeats 4000000 in
theorem learn_ok {w0 : World} {A : Adr} {L : List Tm} {s : Sk} {wv : Value} {wr : World} (T : Hid (Sea w0 A L s wv wr)) (hO : Hid (Okk L s)) (i : Nat) (hi : i < L.length) : Calls Try.prog 67 #[.pointer (some ⟨A.sb, 0, none⟩), .int .i64 i] wr fun e w' => (∃ v, e = .returned v) ∧ ∃ wv', Sea w0 A L (lrn s i) wv' w' := by
  obtain ⟨i0, hi', hz0, hz1, hz2⟩ := info_parts (P := Try.prog) (e := 3) (z := .int .i64 0) (size := 1) (bytes := 8) (by kernel_rfl)
  have x1 := T.out.base.c1
  have hkl : i < s.kn.length := by rw [hO.out.lk]; exact hi
  have x2 := (World.ownsRow.cellAt T.out.kn i (by omega)).trans (kn_at hkl)
  have hiI : (i : Int) < L.length := by omega
  by_cases hb : bt s.kn i = true
  · rw [hb] at x2
    have he : lrn s i = s := by unfold lrn; rw [if_pos hb]
    go_enter Try.func67, Try.ntmps67
    go_wp2
    go_end0
    exact ⟨⟨_, rfl⟩, wv, by rw [he]; exact T.out⟩
  · rw [Bool.not_eq_true] at hb
    rw [hb] at x2
    have he : lrn s i = { s with kn := s.kn.set i true, wk := s.wk ++ [i] } := by unfold lrn; rw [hb]; rfl
    have x3 := World.ownsRow.frozenAt T.out.kn i
    have T1 := (show Hid (Sea w0 A L { s with kn := s.kn.set i true } wv (wr.setCell ⟨A.kb, i, none⟩ (.bool true))) from T.out.setKn i)
    have y6 := T1.out.base.c6
    have hwl := hO.out.wb
    have hlt := hO.out.lt
    have T2 := (show Hid (Sea w0 A L { s with kn := s.kn.set i true } wv ((wr.setCell ⟨A.kb, i, none⟩ (.bool true)).alloc (.cells #[.int .i64 i] 3))) from T1.out.step ((Below.refl _ _).alloc (Nat.le_refl _) _))
    have hbs : w0.heap.size ≤ ((wr.setCell ⟨A.kb, i, none⟩ (.bool true)).alloc (.cells #[.int .i64 i] 3)).heap.size := T2.out.base.below.size
    have hnew := news1' (wr.setCell ⟨A.kb, i, none⟩ (.bool true)) (.int .i64 i) 3
    rw [show (wr.setCell ⟨A.kb, i, none⟩ (.bool true)).heap.size = wr.heap.size from by simp] at hnew
    have HN := (show Hid _ from hnew)
    clear hnew
    go_enter Try.func67, Try.ntmps67
    go_wp2_with (first
      | (at_builtin; refine wpList_append_own_at _ rfl (.tmp 22) (.tmp 24) 22 rfl w0.heap.size 3 i0 (.int .i64 0) 1 8 Try.underlying22 hi' hz0 hz1 hz2 rfl (by decide) wv s.wk.length (s.wk.map (fun i : Nat => Value.int .i64 i)) rfl T2.out.wk ⟨wr.heap.size, 0, none⟩ 1 1 [.int .i64 i] rfl rfl HN.out (by intro u hu; rw [List.mem_singleton.1 hu]; rfl) (by unfold maxLen; omega) (by omega) hbs ?_; intro v' w3 hown3 hgrow3 _ hat; obtain ⟨p5, c5, rfl⟩ := row_slice hown3; have x6 := (hgrow3.cell_far ⟨A.sb, 6, none⟩ (T2.out.base.own _ (.inl rfl)).2 (fun e => (T2.out.base.nw _ e.symm).1 rfl)).trans T2.out.base.c6; have z6 : w3.frozen? ⟨A.sb, 6, none⟩ = false := (hgrow3.frozen_far ⟨A.sb, 6, none⟩ (T2.out.base.own _ (.inl rfl)).2 (fun e => (T2.out.base.nw _ e.symm).1 rfl)).trans T2.out.base.z6))
    go_end0
    refine ⟨⟨_, rfl⟩, .slice p5 (s.wk.length + 1) c5, ?_⟩
    rw [he]
    refine T2.out.setWk (wk' := s.wk ++ [i]) hgrow3 (by rw [List.length_append, List.map_append]; exact hown3) (fun k hk => ?_)
    rcases hat with h | h
    · exact .inl (by rw [← h]; exact hk)
    · rw [h] at hk
      cases hk
      exact .inr (Nat.le_refl _)
end Go.Proofs.Ytikbeagcflofhaa
namespace Go.Proofs.Ytikbeagcflofhaa
open Go.RowKit Go.Maps
set_option maxRecDepth 100000
attribute [local go_sem ↓] Go.wp_at_zero Go.wp_at_succ
theorem rdw_cell {w : World} {b c n : Nat} {xs : List Int} (h : RdW w (.slice (some ⟨b, 0, none⟩) n c) xs) {t : Nat} (ht : t < xs.length) : w.cell? ⟨b, t, none⟩ = some (.int .i64 (xs.getD t 0)) := by
  obtain ⟨p', c', e, rfl | ⟨b', o, rfl, hb, hc⟩⟩ := h
  · exact absurd ht (Nat.not_lt_zero _)
  · cases e
    have := hc t ht
    rwa [Nat.zero_add] at this
theorem rdw_drop {w : World} {b c n : Nat} {xs : List Int} (h : RdW w (.slice (some ⟨b, 0, none⟩) n c) xs) (a m c' : Nat) (hm : a + m ≤ xs.length) : RdW w (.slice (some ⟨b, a, none⟩) m c') ((xs.drop a).take m) := by
  have hl : ((xs.drop a).take m).length = m := by simp; omega
  obtain ⟨p', c'', e, hx⟩ := h
  cases e
  refine ⟨_, c', by rw [hl], ?_⟩
  by_cases h0 : m = 0
  · subst h0
    exact .inl (by simp)
  · rcases hx with rfl | ⟨b', o, e2, hb, hc⟩
    · simp at hm
      omega
    · cases e2
      refine .inr ⟨b, a, rfl, hb, fun t ht => ?_⟩
      rw [hl] at ht
      have h1 := hc (a + t) (by omega)
      rw [Nat.zero_add] at h1
      rw [h1, List.getD_eq_getElem?_getD, List.getD_eq_getElem?_getD, List.getElem?_take, if_pos ht, List.getElem?_drop]
set_option maxHeartbeats 4000000 in
theorem users_ok {w0 : World} {A : Adr} {L : List Tm} {U : Nat → List Nat} {s : Sk} {wv : Value} {wr : World} (T : Hid (Sea w0 A L s wv wr)) (G : Hid (Seg L U A)) (i : Nat) (hi : i < L.length) : Calls Try.prog 87 #[.pointer (some ⟨A.sb, 0, none⟩), .int .i64 i] wr fun e w' => ∃ v, e = .returned v ∧ (∀ s' wv' w2, Sea w0 A L s' wv' w2 → RdW w2 v ((U i).map (fun u : Nat => (u : Int)))) ∧ Below wr.heap.size wr w' := by
  have x4 := T.out.base.c4
  have x5 := T.out.base.c5
  obtain ⟨a, b, h1, h2, hab, hbu, hseg⟩ := G.out.seg i hi
  have hcap := G.out.cap
  have hlt := G.out.lt
  have hlf := G.out.lf
  have hsm := G.out.small
  have y1 := rdw_cell (t := i) T.out.base.fst (by omega)
  have y2 := rdw_cell (t := i + 1) T.out.base.fst (by omega)
  rw [h1] at y1
  rw [h2] at y2
  unfold Adr.fv at x4
  unfold Adr.uv at x5
  have hiI : (i : Int) < A.fs.length := by omega
  have hiI2 : (i : Int) + 1 < A.fs.length := by omega
  have hw : IntKind.i64.wrap ((i : Int) + 1) = (i + 1 : Nat) := by rw [IntWalk.i64_in _ (by omega)]; rfl
  have haI : (a : Int) ≤ b := by omega
  have hbI : (b : Int) ≤ A.cu := by omega
  have hfin := (show Hid (∀ s' wv' w2, Sea w0 A L s' wv' w2 → RdW w2 (.slice (some ⟨A.ub, a, none⟩) (b - a) (A.cu - a)) ((A.us.drop a).take (b - a))) from fun s' wv' w2 T2 => rdw_drop T2.base.use a (b - a) (A.cu - a) (by omega))
  go_enter Try.func87, Try.ntmps87
  go_wp2
  go_quiet (fail)
  go_wp2
  · go_ret
    have hz : b - a = 0 := by omega
    have hU : (U i).map (fun u : Nat => (u : Int)) = [] := by rw [← hseg, hz]; simp
    rw [hU]
    refine ⟨_, rfl, fun _ _ _ _ => ⟨some ⟨A.ub, 0, none⟩, 0, by rw [hz]; rfl, .inl rfl⟩, below_drewN (Below.refl _ _) _⟩
  · go_ret
    rw [← hseg]
    exact ⟨_, rfl, hfin.out, below_drewN (Below.refl _ _) _⟩
theorem tm_at {L : List Tm} {i : Nat} {t : Tm} (h : L[i]? = some t) : tmAt L i = t := by
  unfold tmAt
  rw [List.getD_eq_getElem?_getD, h]
  rfl
/-- A node, as it lies. -/
theorem Sea.node {w0 : World} {A : Adr} {L : List Tm} {s : Sk} {wv : Value} {wr : World} (T : Sea w0 A L s wv wr) (hW : Wf L) {i : Nat} (hi : i < L.length) : ∃ k m p c xs, L[i]? = some (k, m, xs) ∧ kd L i = k ∧ ar L i = xs.map Int.toNat ∧ (∀ x ∈ xs, 0 ≤ x ∧ x < (i : Int)) ∧ rightOf k m xs.length = 0 ∧ wr.cell? ⟨A.nb, i * 3, none⟩ = some (.int .i64 k) ∧ wr.cell? ⟨A.nb, i * 3 + 1, none⟩ = some (.int .i64 m) ∧ wr.cell? ⟨A.nb, i * 3 + 2, none⟩ = some (.slice p xs.length c) ∧ A.vs i = .slice p xs.length c ∧ xs.length ≤ c ∧ RdW wr (.slice p xs.length c) xs := by
  obtain ⟨h0, h1, h2, h3, _, h5⟩ := T.base.node i hi
  have hg := hW.good i hi
  have hL := List.getElem?_eq_getElem hi
  have ht := tm_at hL
  generalize L[i] = t at *
  obtain ⟨k, m, xs⟩ := t
  have h3' := h3
  obtain ⟨p, c, hv, _⟩ := h3
  rw [hv] at h2 h3' h5
  exact ⟨k, m, p, c, xs, hL, by unfold kd; rw [ht], by unfold ar; rw [ht], hg.2.2, hg.1, h0, h1, h2, hv, h5 _ _ _ rfl, h3'⟩
theorem ar_get {xs : List Int} {m j : Nat} (h : ∀ x ∈ xs, 0 ≤ x ∧ x < (m : Int)) (hj : j < xs.length) : xs.getD j 0 = ((xs.map Int.toNat).getD j 0 : Nat) ∧ (xs.map Int.toNat).getD j 0 < m := by
  rw [List.getD_eq_getElem?_getD, List.getD_eq_getElem?_getD, List.getElem?_map, List.getElem?_eq_getElem hj]
  have := h _ (List.getElem_mem hj)
  simp only [Option.map_some, Option.getD_some]
  omega
theorem rdw_some {w : World} {p : Option Addr} {n c : Nat} {xs : List Int} (h : RdW w (.slice p n c) xs) (h0 : 0 < xs.length) : ∃ b o, p = some ⟨b, o, none⟩ ∧ b < w.heap.size ∧ n = xs.length ∧ ∀ t, t < xs.length → w.cell? ⟨b, o + t, none⟩ = some (.int .i64 (xs.getD t 0)) := by
  obtain ⟨p', c', e, rfl | ⟨b, o, rfl, hb, hc⟩⟩ := h
  · exact absurd h0 (Nat.not_lt_zero _)
  · cases e
    exact ⟨b, o, rfl, hb, rfl, hc⟩
set_option maxHeartbeats 4000000 in
theorem owns_ok {w0 : World} {A : Adr} {L : List Tm} {s : Sk} {wv : Value} {wr : World} (T : Hid (Sea w0 A L s wv wr)) (hO : Hid (Okk L s)) (hW : Wf L) (i : Nat) (hi : i < L.length) : Calls Try.prog 92 #[.pointer (some ⟨A.sb, 0, none⟩), .int .i64 i] wr fun e w' => e = .returned (.bool (owns L s.kn i)) ∧ Below wr.heap.size wr w' := by
  obtain ⟨k, m, p, c, xs, hL, hk, ha, hx, hr, n0, n1, n2, _, _, hrd⟩ := T.out.node hW hi
  have x0 := T.out.base.c0
  have x1 := T.out.base.c1
  have hiI : (i : Int) < L.length := by omega
  have hsb := (T.out.base.own _ (.inl rfl)).2
  have hkb := (T.out.base.own A.kb (.inr (.inl rfl))).2
  by_cases h5 : k = 5
  · subst h5
    have hxl : 0 < xs.length := by
      unfold rightOf leastOf mostOf at hr
      repeat' split at hr
      all_goals omega
    obtain ⟨b, o, rfl, hb, _, hc⟩ := rdw_some hrd hxl
    obtain ⟨e1, e2⟩ := ar_get (j := 0) hx hxl
    have y0 := hc 0 hxl
    rw [e1, Nat.add_zero] at y0
    have hgo : owns L s.kn i = bt s.kn ((xs.map Int.toNat).getD 0 0) := by unfold owns; rw [hk, ha]; simp
    rw [hgo]
    generalize (xs.map Int.toNat).getD 0 0 = a at *
    have hal : a < s.kn.length := by rw [hO.out.lk]; omega
    have haI : (a : Int) < L.length := by omega
    have y1 := (World.ownsRow.cellAt T.out.kn a (by omega)).trans (kn_at hal)
    generalize bt s.kn a = r at *
    have hxI : (0 : Int) < xs.length := by omega
    clear hrd hc hx hr hgo
    go_enter Try.func92, Try.ntmps92
    go_wp2
    go_quiet (fail)
    go_wp2
    go_ret
    exact ⟨rfl, below_drewN ((Below.refl _ wr).alloc (Nat.le_refl _) _) _⟩
  · have hgo : owns L s.kn i = false := by unfold owns; rw [hk]; simp [h5]
    rw [hgo]
    have hd : decide (k = 5) = false := decide_eq_false h5
    go_enter Try.func92, Try.ntmps92
    go_wp2
    go_quiet (fail)
    go_wp2
    go_ret
    exact ⟨rfl, below_drewN ((Below.refl _ wr).alloc (Nat.le_refl _) _) _⟩
end Go.Proofs.Ytikbeagcflofhaa
