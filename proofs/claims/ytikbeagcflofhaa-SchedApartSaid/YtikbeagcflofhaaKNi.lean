/-
  KNOW: a round of the search, on lists. Own work.
-/
import Derived.Test.YtikbeagcflofhaaKNe
namespace Go.Proofs.Ytikbeagcflofhaa
open Go.RowKit Go.Maps
set_option maxRecDepth 100000
/-! how much there is to do -/
def meas (s : Sk) : Nat := s.wk.length + 2 * s.kn.count false
theorem lrn_meas {L : List Tm} {s : Sk} (h : Okk L s) {i : Nat} (hi : i < L.length) : meas (lrn s i) ≤ meas s := by
  unfold lrn
  split
  · exact Nat.le_refl _
  · rename_i hb
    have := count_set_true (l := s.kn) (i := i) (by rw [h.lk]; exact hi) (by simpa using hb)
    unfold meas
    simp only [List.length_append, List.length_cons, List.length_nil]
    omega
theorem lrns_meas {L : List Tm} : ∀ (l : List Nat) (s : Sk), Okk L s → (∀ x ∈ l, x < L.length) → meas (l.foldl lrn s) ≤ meas s := by
  intro l
  induction l with
  | nil => exact fun s _ _ => Nat.le_refl _
  | cons a l ih =>
    intro s h hl
    have ha := hl a List.mem_cons_self
    exact Nat.le_trans (ih _ (h.lrn ha) (fun x hx => hl x (List.mem_cons_of_mem _ hx))) (lrn_meas h ha)
/-- The arguments of terms are terms. -/
def Args (L : List Tm) : Prop := ∀ i, ∀ x ∈ ar L i, x < L.length
theorem Okk.opn {L : List Tm} {s : Sk} (h : Okk L s) (hA : Args L) (i : Nat) : Okk L (opn L s i) ∧ meas (opn L s i) ≤ meas s := by
  unfold Proofs.Ytikbeagcflofhaa.opn
  split
  · exact ⟨h, Nat.le_refl _⟩
  · split
    · exact ⟨h, Nat.le_refl _⟩
    · rename_i f _
      have hl : ∀ x ∈ (ar L i).drop f, x < L.length := fun x hx => hA i x (List.mem_of_mem_drop hx)
      exact ⟨Okk.lrns _ _ (h.setOp i) hl, lrns_meas _ _ (h.setOp i) hl⟩
theorem Okk.opns {L : List Tm} (hA : Args L) : ∀ (l : List Nat) (s : Sk), Okk L s → Okk L (l.foldl (Proofs.Ytikbeagcflofhaa.opn L) s) ∧ meas (l.foldl (Proofs.Ytikbeagcflofhaa.opn L) s) ≤ meas s := by
  intro l
  induction l with
  | nil => exact fun s h => ⟨h, Nat.le_refl _⟩
  | cons a l ih =>
    intro s h
    obtain ⟨h1, h2⟩ := h.opn hA a
    obtain ⟨h3, h4⟩ := ih _ h1
    exact ⟨h3, Nat.le_trans h4 h2⟩
theorem Okk.bxs {L : List Tm} {U : Nat → List Nat} {s : Sk} (h : Okk L s) (hA : Args L) (i : Nat) : Okk L (bxs L U s i) ∧ meas (bxs L U s i) ≤ meas s := by
  unfold Proofs.Ytikbeagcflofhaa.bxs
  split
  · exact Okk.opns hA _ _ h
  · exact ⟨h, Nat.le_refl _⟩
theorem Okk.dec {L : List Tm} {s : Sk} (h : Okk L s) (u : Nat) : Okk L (dec s u) := ⟨h.lk, h.lo, by simp [Proofs.Ytikbeagcflofhaa.dec, h.lm], h.wb, h.lt⟩
theorem Okk.mkd {L : List Tm} {s : Sk} (h : Okk L s) {u : Nat} (hu : u < L.length) : Okk L (mkd s u) ∧ meas (mkd s u) ≤ meas s := by
  unfold Proofs.Ytikbeagcflofhaa.mkd
  split
  · exact ⟨h.lrn hu, lrn_meas h hu⟩
  · exact ⟨h, Nat.le_refl _⟩
theorem Okk.use {L : List Tm} {U : Nat → List Nat} {s : Sk} (h : Okk L s) (hA : Args L) {u : Nat} (hu : u < L.length) : Okk L (use L U s u) ∧ meas (use L U s u) ≤ meas s := by
  obtain ⟨h1, h2⟩ := (h.dec u).mkd hu
  obtain ⟨h3, h4⟩ := h1.opn hA u
  obtain ⟨h5, h6⟩ := h3.bxs (U := U) hA u
  exact ⟨h5, Nat.le_trans h6 (Nat.le_trans h4 h2)⟩
theorem Okk.uses {L : List Tm} {U : Nat → List Nat} (hA : Args L) : ∀ (l : List Nat) (s : Sk), Okk L s → (∀ x ∈ l, x < L.length) → Okk L (l.foldl (Proofs.Ytikbeagcflofhaa.use L U) s) ∧ meas (l.foldl (Proofs.Ytikbeagcflofhaa.use L U) s) ≤ meas s := by
  intro l
  induction l with
  | nil => exact fun s h _ => ⟨h, Nat.le_refl _⟩
  | cons a l ih =>
    intro s h hl
    obtain ⟨h1, h2⟩ := h.use (U := U) hA (hl a List.mem_cons_self)
    obtain ⟨h3, h4⟩ := ih _ h1 (fun x hx => hl x (List.mem_cons_of_mem _ hx))
    exact ⟨h3, Nat.le_trans h4 h2⟩
theorem Net.args {L : List Tm} {U : Nat → List Nat} (N : Net L U) : Args L := fun i x hx => by
  rcases Nat.lt_or_ge i L.length with h | h
  · exact N.lt i h x hx
  · unfold ar tmAt at hx
    rw [List.getD_eq_getElem?_getD, List.getElem?_eq_none h] at hx
    simp at hx
/-! what holds from round to round -/
structure RunI (L : List Tm) (U : Nat → List Nat) (S : Nat → Prop) (s : Sk) : Prop where
  ok : Okk L s
  ex : ∃ D P, Srch L S s D P ∧ (∀ u, P.count u = (D.flatMap U).count u) ∧ Obl L s D
  giv : ∀ i, S i → i < L.length → bt s.kn i = true
  wrd : ∀ i, i < L.length → kd L i ≠ 1 → ar L i = [] → bt s.kn i = true
/-- The last one of the work is taken out. -/
theorem Srch.pop {L : List Tm} {S : Nat → Prop} {s : Sk} {D P w : List Nat} {i : Nat} (h : Srch L S s D P) (hw : s.wk = w ++ [i]) : Srch L S { s with wk := w } (i :: D) P := by
  refine ⟨h.lk, h.lo, h.lm, h.snd, fun j => ?_, ?_, h.ops, h.mis, h.mkn⟩
  · show bt s.kn j = true ↔ j ∈ i :: D ∨ j ∈ w
    rw [h.work j, hw, List.mem_append, List.mem_singleton, List.mem_cons]
    constructor
    · rintro (h1 | h1 | h1)
      · exact .inl (.inr h1)
      · exact .inr h1
      · exact .inl (.inl h1)
    · rintro ((h1 | h1) | h1)
      · exact .inr (.inr h1)
      · exact .inl h1
      · exact .inr (.inl h1)
  · show (i :: D ++ w).Nodup
    have hn := h.nod
    rw [hw] at hn
    refine (List.Perm.nodup_iff ?_).1 hn
    rw [← List.append_assoc]
    exact List.perm_append_comm.trans (by simp)
theorem Srch.uses {L : List Tm} {U : Nat → List Nat} {S : Nat → Prop} {D : List Nat} (N : Net L U) : ∀ (l : List Nat) (s : Sk) (P : List Nat), Srch L S s D P → (∀ u ∈ l, u < L.length ∧ ar L u ≠ []) → (∀ u, (P ++ l).count u ≤ (D.flatMap U).count u) → Srch L S (l.foldl (Proofs.Ytikbeagcflofhaa.use L U) s) D (P ++ l) := by
  intro l
  induction l with
  | nil => intro s P h _ _; simpa using h
  | cons a l ih =>
    intro s P h hl hc
    obtain ⟨h1, h2⟩ := hl a List.mem_cons_self
    have hc1 : (P ++ [a]).count a ≤ (D.flatMap U).count a := by
      refine Nat.le_trans ?_ (hc a)
      rw [List.count_append, List.count_append]
      simp
    have h3 := ih _ (P ++ [a]) (h.use N h1 h2 hc1) (fun u hu => hl u (List.mem_cons_of_mem _ hu)) (fun u => by have := hc u; simpa using this)
    simpa using h3
theorem RunI.step {L : List Tm} {U : Nat → List Nat} {S : Nat → Prop} {s : Sk} {w : List Nat} {i : Nat} (N : Net L U) (h : RunI L U S s) (hw : s.wk = w ++ [i]) : RunI L U S (stp L U { s with wk := w } i) ∧ meas (stp L U { s with wk := w } i) < meas s ∧ i < L.length := by
  obtain ⟨D, P, h1, h2, h3⟩ := h.ex
  have hi : i < L.length := by
    rw [← h1.lk]
    exact bt_lt ((h1.work i).2 (.inr (by rw [hw]; simp)))
  have p1 := h1.pop hw
  have ho : Obl L { s with wk := w } D := h3
  have hU : ∀ u ∈ U i, u < L.length ∧ ar L u ≠ [] := fun u hu => by
    obtain ⟨a, b⟩ := N.mem' hi hu
    exact ⟨a, fun he => by rw [he] at b; cases b⟩
  have p2 := Srch.uses (U := U) N (U i) _ P (p1.opn N i) hU (fun u => by
    rw [List.count_append, h2 u, List.flatMap_cons, List.count_append]
    omega)
  have p3 := obl_step N p1 ho
  have hok : Okk L { s with wk := w } := ⟨h.ok.lk, h.ok.lo, h.ok.lm, by have := h.ok.wb; rw [hw] at this; simp at this; show w.length + s.kn.count false ≤ _; omega, h.ok.lt⟩
  obtain ⟨k1, k2⟩ := hok.opn N.args i
  obtain ⟨k3, k4⟩ := Okk.uses (U := U) N.args (U i) _ k1 (fun u hu => (hU u hu).1)
  have hle := stp_le L U { s with wk := w } i
  refine ⟨⟨k3, ⟨i :: D, P ++ U i, p2, fun u => ?_, p3⟩, fun j hj hl => hle.kn j (h.giv j hj hl), fun j hj hk ha => hle.kn j (h.wrd j hj hk ha)⟩, ?_, hi⟩
  · rw [List.count_append, h2 u, List.flatMap_cons, List.count_append]
    omega
  · refine Nat.lt_of_le_of_lt (Nat.le_trans k4 k2) ?_
    unfold meas
    rw [hw]
    simp
theorem RunI.done {L : List Tm} {U : Nat → List Nat} {S : Nat → Prop} {s : Sk} (N : Net L U) (h : RunI L U S s) (hw : s.wk = []) : ∀ i, bt s.kn i = true ↔ Kn L S i := by
  obtain ⟨D, P, h1, h2, h3⟩ := h.ex
  exact srch_done N h1 h2 h3 hw h.giv h.wrd
end Go.Proofs.Ytikbeagcflofhaa
namespace Go.Proofs.Ytikbeagcflofhaa
open Go.RowKit Go.Maps
set_option maxRecDepth 100000
attribute [local go_sem ↓] Go.wp_at_zero Go.wp_at_succ
theorem rdw_nth {w : World} {p : Option Addr} {n c t : Nat} {xs : List Int} (h : RdW w (.slice p n c) xs) (ht : t < xs.length) : ∃ b o, p = some ⟨b, o, none⟩ ∧ w.cell? ⟨b, o + t, none⟩ = some (.int .i64 (xs.getD t 0)) := by
  obtain ⟨p', c', e, rfl | ⟨b, o, rfl, hb, hc⟩⟩ := h
  · exact absurd ht (Nat.not_lt_zero _)
  · cases e
    exact ⟨b, o, rfl, hc t ht⟩
theorem cast_nth {U : List Nat} {t : Nat} (ht : t < U.length) : ∃ u, U[t]? = some u ∧ (U.map (fun u : Nat => (u : Int))).getD t 0 = (u : Int) := by
  refine ⟨U[t], List.getElem?_eq_getElem ht, ?_⟩
  rw [List.getD_eq_getElem?_getD, List.getElem?_map, List.getElem?_eq_getElem ht]
  rfl
theorem fold_snoc {f : Sk → Nat → Sk} {U : List Nat} {q u : Nat} {s : Sk} (h : U[q]? = some u) : (U.take (q + 1)).foldl f s = f ((U.take q).foldl f s) u := by
  rw [List.take_add_one, h, List.foldl_append]
  rfl
set_option maxHeartbeats 8000000 in
theorem boxes_ok {w0 : World} {A : Adr} {L : List Tm} {U : Nat → List Nat} {s : Sk} {wv : Value} {wr : World} (T : Hid (Sea w0 A L s wv wr)) (hO : Hid (Okk L s)) (HW : Hid (Wf L)) (G : Hid (Seg L U A)) (HN : Hid (Net L U)) (i : Nat) (hi : i < L.length) : Calls Try.prog 88 #[.pointer (some ⟨A.sb, 0, none⟩), .int .i64 i] wr fun e w' => (∃ v, e = .returned v) ∧ ∃ wv', Sea w0 A L (bxs L U s i) wv' w' := by
  obtain ⟨k, m, p, c, xs, hL, hk, ha, hx, hr, n0, n1, n2, hv, hcap, hrd⟩ := T.out.node HW.out hi
  have x0 := T.out.base.c0
  have hiI : (i : Int) < L.length := by omega
  have hlt := hO.out.lt
  by_cases h5 : k = 5
  · subst h5
    have hgo : bxs L U s i = (U i).foldl (opn L) s := by unfold bxs; rw [if_pos hk]
    have hm : ∀ u ∈ U i, u < L.length := fun u hu => (HN.out.mem' hi hu).1
    have HM := (show Hid _ from hm)
    obtain ⟨n, hn⟩ : ∃ n, n = (U i).length := ⟨_, rfl⟩
    have hlen := G.out.seg i hi
    have hn2 : n ≤ 2147483648 := by
      obtain ⟨a, b, _, _, h1, h2, h3⟩ := hlen
      have := congrArg List.length h3
      have := G.out.small
      simp at *
      omega
    clear hlen hm hx hr hv hcap hrd hL ha
    go_enter Try.func88, Try.ntmps88
    go_wp2_with (first
      | (go_at_call 87; refine (users_ok T G i hi).mono ?_; rintro ev w1 ⟨v, rfl, hR, B1⟩
         have T1 := (show Hid (Sea w0 A L s wv w1) from T.out.step B1)
         have HR := (show Hid (∀ s' wv' w2, Sea w0 A L s' wv' w2 → RdW w2 v ((U i).map (fun u : Nat => (u : Int)))) from hR)
         obtain ⟨p1, c1, hv1, _⟩ := hR _ _ _ T1.out
         rw [List.length_map, ← hn] at hv1
         subst hv1
         clear hR))
    go_loopw [19] (fun j wq => ∃ q : Nat, j = .int .i64 q ∧ q ≤ n ∧ ∃ wv', Sea w0 A L (((U i).take q).foldl (opn L) s) wv' wq ∧ Okk L (((U i).take q).foldl (opn L) s)) (fun j _ => n - (intOf j).toNat)
    case atStart => exact ⟨0, rfl, by omega, wv, T1.out, hO.out⟩
    case round =>
      obtain ⟨q, rfl, hq, wv', hT', hO'⟩ := hrel
      have HT := (show Hid (Sea w0 A L (((U i).take q).foldl (opn L) s) wv' wr) from hT')
      have HO := (show Hid (Okk L (((U i).take q).foldl (opn L) s)) from hO')
      clear hT' hO'
      by_cases hlt2 : q < n
      · obtain ⟨u, hu1, hu2⟩ := cast_nth (U := U i) (t := q) (by omega)
        have hul : u < L.length := HM.out u (List.mem_of_getElem? hu1)
        obtain ⟨b, o, rfl, y⟩ := rdw_nth (HR.out _ _ _ HT.out) (t := q) (by rw [List.length_map]; omega)
        rw [hu2] at y
        have hqI : (q : Int) < n := by omega
        have HE := (show Hid _ from fold_snoc (f := opn L) (s := s) hu1)
        clear hu1 hu2
        go_wp2_with (first | (go_at_call 86; refine (open_ok HT HO HW u hul).mono ?_; rintro ev w9 ⟨⟨v9, rfl⟩, wv9, hT9⟩))
        exact ⟨⟨q + 1, by simp, by omega, wv9, by rw [HE.out]; exact hT9, by rw [HE.out]; exact (HO.out.opn HN.out.args u).1⟩, by simp [intOf]; omega⟩
      · obtain rfl : q = n := by omega
        go_wp2
        go_end0
        refine ⟨⟨_, rfl⟩, wv', ?_⟩
        have := HT.out
        rw [hn, List.take_length] at this
        rw [hgo]
        exact this
  · have hgo : bxs L U s i = s := by unfold bxs; rw [if_neg (by rw [hk]; exact h5)]
    go_enter Try.func88, Try.ntmps88
    go_wp2
    (try simp only [Exit.inBlock, Exit.then])
    refine bodyPost_ret (results_none rfl _ _ _) rfl ?_
    exact ⟨⟨_, rfl⟩, wv, by rw [hgo]; exact T.out⟩
end Go.Proofs.Ytikbeagcflofhaa
namespace Go.Proofs.Ytikbeagcflofhaa
open Go.RowKit Go.Maps
set_option maxRecDepth 100000
attribute [local go_sem ↓] Go.wp_at_zero Go.wp_at_succ
theorem row_shrink {w : World} {base e size n m c : Nat} {p : Option Addr} {xs : List Value} (h : w.ownsRow base e size (.slice p n c) n xs) (hm : m ≤ n) (h0 : 0 < n) : w.ownsRow base e size (.slice p m c) m (xs.take (m * size)) := by
  obtain ⟨hl, h⟩ := h
  refine ⟨by rw [List.length_take, hl]; exact Nat.min_eq_left (Nat.mul_le_mul_right _ hm), ?_⟩
  rcases h with ⟨_, h1⟩ | ⟨g, cap, cur, h1, hb, hg, h2, h3, h4, h5⟩
  · omega
  · cases h1
    refine .inr ⟨g, c, cur, rfl, hb, hg, by omega, h3, h4, ?_⟩
    rw [← h5, List.take_take, Nat.min_eq_left (Nat.mul_le_mul_right _ hm)]
theorem bmap_inj {a b : List Bool} (h : a.map Value.bool = b.map Value.bool) : a = b := by
  refine (List.map_inj_right ?_).1 h
  intro x y e
  cases e
  rfl
theorem own_eq {w : World} {base e size n n' : Nat} {v : Value} {xs ys : List Value} (h : w.ownsRow base e size v n xs) (h' : w.ownsRow base e size v n' ys) : xs = ys := by
  rcases h with ⟨hl, ⟨rfl, rfl⟩ | ⟨g, cap, cur, rfl, _, hg, _, _, _, h5⟩⟩
  · rcases h' with ⟨hl', ⟨_, rfl⟩ | ⟨g, cap, cur, e, _⟩⟩
    · have a : xs = [] := List.eq_nil_of_length_eq_zero (by rw [hl]; simp)
      have b : ys = [] := List.eq_nil_of_length_eq_zero (by rw [hl']; simp)
      rw [a, b]
    · cases e
  · rcases h' with ⟨hl', ⟨e, _⟩ | ⟨g', cap', cur', e, _, hg', _, _, _, h5'⟩⟩
    · cases e
    · cases e
      rw [hg] at hg'
      cases hg'
      rw [← h5, ← h5']
theorem Sea.same {w0 : World} {A : Adr} {L : List Tm} {s s' : Sk} {wv wv' : Value} {w : World} (T : Sea w0 A L s wv w) (T' : Sea w0 A L s' wv' w) : meas s = meas s' := by
  have e := T.base.c6.symm.trans T'.base.c6
  cases e
  have h1 := bmap_inj (own_eq T.kn T'.kn)
  have h2 := congrArg List.length (own_eq T.wk T'.wk)
  simp only [List.length_map] at h2
  unfold meas
  rw [h1, h2]
open Classical in
noncomputable def msW (w0 : World) (A : Adr) (L : List Tm) (w : World) : Nat := if h : ∃ s wv, Sea w0 A L s wv w then meas h.choose else 0
theorem Sea.msW {w0 : World} {A : Adr} {L : List Tm} {s : Sk} {wv : Value} {w : World} (T : Sea w0 A L s wv w) : msW w0 A L w = meas s := by
  unfold Proofs.Ytikbeagcflofhaa.msW
  have h : ∃ s wv, Sea w0 A L s wv w := ⟨s, wv, T⟩
  rw [dif_pos h]
  obtain ⟨wv', h'⟩ := h.choose_spec
  exact h'.same T
theorem last_of {l : List Nat} (h : l ≠ []) : ∃ w i, l = w ++ [i] := ⟨l.dropLast, l.getLast h, (List.dropLast_concat_getLast h).symm⟩
theorem lrn_ms (s : Sk) (i : Nat) : (lrn s i).ms = s.ms := by
  unfold lrn
  split <;> rfl
theorem lrns_ms : ∀ (l : List Nat) (s : Sk), (l.foldl lrn s).ms = s.ms := by
  intro l
  induction l with
  | nil => exact fun s => rfl
  | cons a l ih => exact fun s => (ih _).trans (lrn_ms s a)
theorem opn_ms (L : List Tm) (s : Sk) (i : Nat) : (opn L s i).ms = s.ms := by
  unfold opn
  split
  · rfl
  · split
    · rfl
    · exact lrns_ms _ _
theorem opns_ms (L : List Tm) : ∀ (l : List Nat) (s : Sk), (l.foldl (opn L) s).ms = s.ms := by
  intro l
  induction l with
  | nil => exact fun s => rfl
  | cons a l ih => exact fun s => (ih _).trans (opn_ms L s a)
theorem use_ms (L : List Tm) (U : Nat → List Nat) (s : Sk) (u : Nat) : (use L U s u).ms = s.ms.set u (s.ms.getD u 0 - 1) := by
  have h1 : ∀ t, (bxs L U t u).ms = t.ms := fun t => by
    unfold bxs
    split
    · exact opns_ms L _ _
    · rfl
  have h2 : ∀ t, (mkd t u).ms = t.ms := fun t => by
    unfold mkd
    split
    · exact lrn_ms _ _
    · rfl
  unfold use
  rw [h1, opn_ms, h2]
  rfl
/-- The numbers of what is missing stay small. -/
def MsB (L : List Tm) (s : Sk) (q : Nat) : Prop := ∀ u, u < L.length → -(q : Int) ≤ s.ms.getD u 0 ∧ s.ms.getD u 0 ≤ 400
theorem MsB.use {L : List Tm} {U : Nat → List Nat} {s : Sk} {q : Nat} (h : MsB L s q) (u : Nat) : MsB L (use L U s u) (q + 1) := by
  intro v hv
  have h1 := h v hv
  rw [use_ms, List.getD_eq_getElem?_getD, List.getElem?_set]
  by_cases e : u = v
  · subst e
    rw [if_pos rfl]
    by_cases hl : u < s.ms.length
    · rw [if_pos hl]
      simp only [Option.getD_some]
      omega
    · rw [if_neg hl]
      simp only [Option.getD_none]
      omega
  · rw [if_neg e, ← List.getD_eq_getElem?_getD]
    omega
theorem RunI.msb {L : List Tm} {U : Nat → List Nat} {S : Nat → Prop} {s : Sk} (N : Net L U) (hW : Wf L) (h : RunI L U S s) : MsB L s 0 := by
  obtain ⟨D, P, h1, h2, _⟩ := h.ex
  intro u hu
  have hD : D.Nodup := (List.nodup_append.1 h1.nod).1
  have hDl : ∀ x ∈ D, x < L.length := fun x hx => by rw [← h1.lk]; exact bt_lt ((h1.work x).2 (.inl hx))
  have h3 := h1.mis u hu
  rw [h2 u, N.total hD hDl hu] at h3
  have h4 := List.length_filter_le (fun x => decide (x ∈ D)) (ar L u)
  have h5 := (shape_k (hW.good u hu).1).2.2.2
  have h6 : (ar L u).length = L[u].2.2.length := by
    unfold ar
    rw [tm_at (List.getElem?_eq_getElem hu)]
    simp
  omega
theorem ms_at {l : List Int} {i : Nat} (hi : i < l.length) : (l.map (Value.int .i64))[i]? = some (.int .i64 (l.getD i 0)) := by
  rw [List.getElem?_map, List.getElem?_eq_getElem hi, List.getD_eq_getElem?_getD, List.getElem?_eq_getElem hi]
  rfl
set_option maxHeartbeats 16000000 in
theorem run_ok {w0 : World} {A : Adr} {L : List Tm} {U : Nat → List Nat} {S : Nat → Prop} {s : Sk} {wv : Value} {wr : World} (T : Hid (Sea w0 A L s wv wr)) (HI : Hid (RunI L U S s)) (HW : Hid (Wf L)) (G : Hid (Seg L U A)) (HN : Hid (Net L U)) : Calls Try.prog 68 #[.pointer (some ⟨A.sb, 0, none⟩)] wr fun e w' => (∃ v, e = .returned v) ∧ ∃ s' wv', Sea w0 A L s' wv' w' ∧ RunI L U S s' ∧ s'.wk = [] := by
  go_enter Try.func68, Try.ntmps68
  go_wp2
  go_loopw [2] (fun _ wq => ∃ s wv, Sea w0 A L s wv wq ∧ RunI L U S s) (fun _ wq => msW w0 A L wq)
  case atStart => exact ⟨s, wv, T.out, HI.out⟩
  case round =>
    clear T HI
    obtain ⟨s', wv', hT', hI'⟩ := hrel
    have T := (show Hid (Sea w0 A L s' wv' wr) from hT')
    have HI := (show Hid (RunI L U S s') from hI')
    clear hT' hI'
    obtain ⟨n, hn⟩ : ∃ n, n = s'.wk.length := ⟨_, rfl⟩
    have hrow := T.out.wk
    obtain ⟨p, c, hv⟩ := row_slice hrow
    subst hv
    have x6 := T.out.base.c6
    have z6 := T.out.base.z6
    have hsb := (T.out.base.own _ (.inl rfl)).2
    have hlt := HI.out.ok.lt
    have hwb := HI.out.ok.wb
    rw [← hn] at x6 hrow
    have hms := T.out.msW
    by_cases hw : s'.wk = []
    · have h0 : n = 0 := by rw [hn, hw]; rfl
      subst h0
      have HF := (show Hid _ from (⟨s', _, T.out, HI.out, hw⟩ : ∃ s' wv', Sea w0 A L s' wv' wr ∧ RunI L U S s' ∧ s'.wk = []))
      clear hms hw hwb hn
      go_wp2
      go_end0
      exact ⟨⟨_, rfl⟩, HF.out⟩
    · obtain ⟨wk, i, hwi⟩ := last_of hw
      have hm : n = wk.length + 1 := by rw [hn, hwi]; simp
      obtain ⟨m, hmm⟩ : ∃ m, m = wk.length := ⟨_, rfl⟩
      obtain ⟨g, rfl, _, hg, hnc, hcell⟩ := row_open hrow (by omega)
      have y := hcell m (by omega)
      have hy : (s'.wk.map (fun i : Nat => Value.int .i64 i))[m]? = some (.int .i64 i) := by
        rw [hwi, hmm, List.map_append, List.getElem?_append_right (by simp)]
        simp
      rw [hy] at y
      have hw1 : IntKind.i64.wrap ((n : Int) - 1) = (m : Nat) := by rw [IntWalk.i64_in _ (by omega)]; omega
      have hmI : (m : Int) < n := by omega
      have hmc : (m : Int) ≤ c := by omega
      have hnI : (0 : Int) < n := by omega
      obtain ⟨hs1, hs2, hil⟩ := HI.out.step HN.out hwi
      have HS := (show Hid (RunI L U S (stp L U { s' with wk := wk } i)) from hs1)
      have HMs := (show Hid (meas (stp L U { s' with wk := wk } i) < msW w0 A L wr) from by rw [hms]; exact hs2)
      have T0 := (show Hid _ from hrow)
      have HE := (show Hid (n = s'.wk.length ∧ n = wk.length + 1 ∧ m = wk.length ∧ s'.wk = wk ++ [i]) from ⟨hn, hm, hmm, hwi⟩)
      clear hms hs1 hs2 hy hcell hwb hw hrow hn hm hmm hwi
      go_wp2
      go_quiet (fail)
      go_wp2
      go_region
      have T2 := (show Hid (Sea w0 A L { s' with wk := wk } (.slice (some ⟨g, 0, none⟩) m c) ((wr.drewN (nq + 1)).setCell ⟨A.sb, 6, none⟩ (.slice (some ⟨g, 0, none⟩) m c))) from by
        obtain ⟨e1, e2, e3, e4⟩ := HE.out
        have T1 := T.out.step (below_drewN (Below.refl _ wr) (nq + 1))
        have h1 := row_shrink T1.wk (m := wk.length) (by omega) (by omega)
        have h2 : (s'.wk.map (fun i : Nat => Value.int .i64 i)).take (wk.length * 1) = wk.map (fun i : Nat => Value.int .i64 i) := by
          rw [e4, List.map_append]
          simp
        rw [h2] at h1
        rw [e3]
        exact T1.setWk (w' := wr.drewN (nq + 1)) ⟨rfl, rfl, rfl, Nat.le_refl _, fun _ _ _ => rfl⟩ h1 (fun k hk => .inl hk))
      have HO2 := (show Hid (Okk L { s' with wk := wk }) from by
        obtain ⟨e1, e2, e3, e4⟩ := HE.out
        have h := HI.out.ok
        exact ⟨h.lk, h.lo, h.lm, by have := h.wb; rw [e4] at this; simp at this; show wk.length + s'.kn.count false ≤ _; omega, h.lt⟩)
      have HM := (show Hid (MsB L { s' with wk := wk } 0) from (show MsB L s' 0 from HI.out.msb HN.out HW.out))
      obtain ⟨n3, hn3⟩ : ∃ n, n = (U i).length := ⟨_, rfl⟩
      have hn3' : n3 ≤ 2147483648 := by
        obtain ⟨a, b, _, _, h1, h2, h3⟩ := G.out.seg i hil
        have := congrArg List.length h3
        have := G.out.small
        simp at *
        omega
      have HU := (show Hid (∀ u ∈ U i, u < L.length) from fun u hu => (HN.out.mem' hil hu).1)
      have HN3 := (show Hid (n3 = (U i).length) from hn3)
      clear hn3 x6 z6 y hw1 hmI hmc hnI T0 HE HI T
      generalize ((wr.drewN (nq + 1)).setCell ⟨A.sb, 6, none⟩ (.slice (some ⟨g, 0, none⟩) m c)) = w2 at *
      go_wp2_with (first
        | (go_at_call 86; refine (open_ok T2 HO2 HW i hil).mono ?_; rintro ev w3 ⟨⟨v3, rfl⟩, wv3, hT3⟩
           have T3 := (show Hid (Sea w0 A L (opn L { s' with wk := wk } i) wv3 w3) from hT3)
           clear hT3)
        | (go_at_call 87; refine (users_ok T3 G i hil).mono ?_; rintro ev w4 ⟨v, rfl, hR, B4⟩
           have T4 := (show Hid (Sea w0 A L (opn L { s' with wk := wk } i) wv3 w4) from T3.out.step B4)
           have HR := (show Hid (∀ s' wv' w2, Sea w0 A L s' wv' w2 → RdW w2 v ((U i).map (fun u : Nat => (u : Int)))) from hR)
           obtain ⟨p1, c1, hv1, _⟩ := hR _ _ _ T4.out
           rw [List.length_map, ← HN3.out] at hv1
           subst hv1
           clear hR))
      obtain ⟨sA, hsA⟩ : ∃ x, x = opn L { s' with wk := wk } i := ⟨_, rfl⟩
      have HSA := (show Hid (sA = opn L { s' with wk := wk } i) from hsA)
      have HO4 := (show Hid (Okk L sA) from by rw [hsA]; exact (HO2.out.opn HN.out.args i).1)
      have HM4 := (show Hid (MsB L sA 0) from by
        intro u hu
        rw [hsA, opn_ms]
        exact HM.out u hu)
      rw [← hsA] at T4
      clear hsA T2 T3 HO2 HM B4
      go_loopw [44] (fun j wq => ∃ q : Nat, j = .int .i64 q ∧ q ≤ n3 ∧ ∃ wv', Sea w0 A L (((U i).take q).foldl (use L U) sA) wv' wq ∧ Okk L (((U i).take q).foldl (use L U) sA) ∧ MsB L (((U i).take q).foldl (use L U) sA) q) (fun j _ => n3 - (intOf j).toNat)
      case atStart => exact ⟨0, rfl, by omega, wv3, T4.out, HO4.out, HM4.out⟩
      case round =>
        obtain ⟨q, rfl, hq, wv', hT', hO', hM'⟩ := hrel
        by_cases hlt2 : q < n3
        · obtain ⟨u, hu1, hu2⟩ := cast_nth (U := U i) (t := q) (by have := HN3.out; omega)
          have hul : u < L.length := HU.out u (List.mem_of_getElem? hu1)
          have HE := (show Hid (((U i).take (q + 1)).foldl (use L U) sA = use L U (((U i).take q).foldl (use L U) sA) u) from fold_snoc (f := use L U) (s := sA) hu1)
          obtain ⟨b, o, rfl, y⟩ := rdw_nth (HR.out _ _ _ hT') (t := q) (by rw [List.length_map]; have := HN3.out; omega)
          rw [hu2] at y
          generalize ((U i).take q).foldl (use L U) sA = sq at hT' hO' hM' HE
          have HT := (show Hid (Sea w0 A L sq wv' wr) from hT')
          have HO := (show Hid (Okk L sq) from hO')
          have HM := (show Hid (MsB L sq q) from hM')
          have hqI : (q : Int) < n3 := by omega
          have huI : (u : Int) < L.length := by omega
          have x3 := hT'.base.c3
          have hum : u < sq.ms.length := by rw [hO'.lm]; exact hul
          have y3 := (World.ownsRow.cellAt hT'.ms u (by omega)).trans (ms_at hum)
          have z3 := World.ownsRow.frozenAt hT'.ms u
          have hz := hM' u hul
          have hfar : A.sb ≠ A.mb := hT'.base.n3
          obtain ⟨z, hze⟩ : ∃ z, z = sq.ms.getD u 0 - 1 := ⟨_, rfl⟩
          have hw : IntKind.i64.wrap (sq.ms.getD u 0 - 1) = z := by rw [IntWalk.i64_in _ (by omega), hze]
          have HD := (show Hid (Sea w0 A L (dec sq u) wv' (wr.setCell ⟨A.mb, u, none⟩ (.int .i64 z))) from by rw [hze]; exact hT'.setMs u _)
          have x3' := HD.out.base.c3
          have y3' := (World.ownsRow.cellAt HD.out.ms u (by omega)).trans (ms_at (by show u < (sq.ms.set u _).length; simpa using hum))
          have hzz : (dec sq u).ms.getD u 0 = z := by
            show (sq.ms.set u (sq.ms.getD u 0 - 1)).getD u 0 = z
            rw [List.getD_eq_getElem?_getD, List.getElem?_set_self hum, hze]
            rfl
          rw [hzz] at y3'
          have HOD := (show Hid (Okk L (dec sq u)) from hO'.dec u)
          generalize sq.ms.getD u 0 = z0 at y3 hw hz
          clear hu1 hu2 hT' hO' hM' hze
          by_cases hz0 : z = 0
          · subst hz0
            have hmk : mkd (dec sq u) u = lrn (dec sq u) u := by unfold mkd; rw [if_pos hzz]
            have HMK := (show Hid _ from hmk)
            clear hzz hmk
            go_wp2_with (first
              | (go_at_call 67; refine (learn_ok HD HOD u hul).mono ?_; rintro ev w5 ⟨⟨v5, rfl⟩, wv5, hT5⟩
                 have T5 := (show Hid (Sea w0 A L (mkd (dec sq u) u) wv5 w5) from by rw [HMK.out]; exact hT5)
                 have HO5 := (show Hid (Okk L (mkd (dec sq u) u)) from (HOD.out.mkd hul).1)
                 clear hT5)
              | (go_at_call 86; refine (open_ok T5 HO5 HW u hul).mono ?_; rintro ev w6 ⟨⟨v6, rfl⟩, wv6, hT6⟩
                 have T6 := (show Hid (Sea w0 A L (opn L (mkd (dec sq u) u) u) wv6 w6) from hT6)
                 have HO6 := (show Hid (Okk L (opn L (mkd (dec sq u) u) u)) from (HO5.out.opn HN.out.args u).1)
                 clear hT6)
              | (go_at_call 88; refine (boxes_ok T6 HO6 HW G HN u hul).mono ?_; rintro ev w7 ⟨⟨v7, rfl⟩, wv7, hT7⟩
                 have T7 := (show Hid (Sea w0 A L (use L U sq u) wv7 w7) from hT7)
                 clear hT7))
            exact ⟨⟨q + 1, by simp, by omega, wv7, by rw [HE.out]; exact T7.out, by rw [HE.out]; exact (HO.out.use HN.out.args hul).1, by rw [HE.out]; exact HM.out.use u⟩, by simp [intOf]; omega⟩
          · have hmk : mkd (dec sq u) u = dec sq u := by unfold mkd; rw [if_neg (by rw [hzz]; exact hz0)]
            have HMK := (show Hid _ from hmk)
            have T5 := (show Hid (Sea w0 A L (mkd (dec sq u) u) wv' (wr.setCell ⟨A.mb, u, none⟩ (.int .i64 z))) from by rw [hmk]; exact HD.out)
            have HO5 := (show Hid (Okk L (mkd (dec sq u) u)) from (HOD.out.mkd hul).1)
            clear hzz hmk
            go_wp2_with (first
              | (go_at_call 86; refine (open_ok T5 HO5 HW u hul).mono ?_; rintro ev w6 ⟨⟨v6, rfl⟩, wv6, hT6⟩
                 have T6 := (show Hid (Sea w0 A L (opn L (mkd (dec sq u) u) u) wv6 w6) from hT6)
                 have HO6 := (show Hid (Okk L (opn L (mkd (dec sq u) u) u)) from (HO5.out.opn HN.out.args u).1)
                 clear hT6)
              | (go_at_call 88; refine (boxes_ok T6 HO6 HW G HN u hul).mono ?_; rintro ev w7 ⟨⟨v7, rfl⟩, wv7, hT7⟩
                 have T7 := (show Hid (Sea w0 A L (use L U sq u) wv7 w7) from hT7)
                 clear hT7))
            exact ⟨⟨q + 1, by simp, by omega, wv7, by rw [HE.out]; exact T7.out, by rw [HE.out]; exact (HO.out.use HN.out.args hul).1, by rw [HE.out]; exact HM.out.use u⟩, by simp [intOf]; omega⟩
        · obtain rfl : q = n3 := by omega
          have hfin : ((U i).take q).foldl (use L U) sA = stp L U { s' with wk := wk } i := by
            rw [HN3.out, List.take_length, HSA.out]
            rfl
          rw [hfin] at hT' hO' hM'
          have HT := (show Hid (Sea w0 A L (stp L U { s' with wk := wk } i) wv' wr) from hT')
          clear hT' hO' hM' hfin
          go_wp2
          exact ⟨⟨_, wv', HT.out, HS.out⟩, by rw [HT.out.msW]; exact HMs.out⟩
end Go.Proofs.Ytikbeagcflofhaa
namespace Go.Proofs.Ytikbeagcflofhaa
open Go.RowKit Go.Maps
set_option maxRecDepth 100000
attribute [local go_sem ↓] Go.wp_at_zero Go.wp_at_succ
def bgn (L : List Tm) (s : Sk) (i : Nat) : Sk := if kd L i ≠ 1 ∧ ar L i = [] then lrn s i else s
theorem bgn_le (L : List Tm) (s : Sk) (i : Nat) : Le s (bgn L s i) := by
  unfold bgn
  split
  · exact lrn_le s i
  · exact Le.refl s
theorem Okk.bgn {L : List Tm} {s : Sk} (h : Okk L s) {i : Nat} (hi : i < L.length) : Okk L (bgn L s i) := by
  unfold Proofs.Ytikbeagcflofhaa.bgn
  split
  · exact h.lrn hi
  · exact h
/-- How it starts. -/
def s0 (L : List Tm) : Sk := ⟨List.replicate L.length false, List.replicate L.length false, (List.range L.length).map (fun i => ((ar L i).length : Int)), []⟩
theorem bt_rep (n i : Nat) : bt (List.replicate n false) i = false := by
  unfold bt
  rw [List.getD_eq_getElem?_getD, List.getElem?_replicate]
  split <;> rfl
theorem s0_srch {L : List Tm} {S : Nat → Prop} : Srch L S (s0 L) [] [] := by
  refine ⟨by simp [s0], by simp [s0], by simp [s0], fun i hi => ?_, fun i => ?_, by simp [s0], fun i hi => ?_, fun u hu => ?_, fun u hu hne hc => ?_⟩
  · have : bt (List.replicate L.length false) i = true := hi
    rw [bt_rep] at this
    cases this
  · show bt (List.replicate L.length false) i = true ↔ i ∈ [] ∨ i ∈ []
    rw [bt_rep]
    simp
  · have : bt (List.replicate L.length false) i = true := hi
    rw [bt_rep] at this
    cases this
  · show ((List.range L.length).map (fun i => ((ar L i).length : Int))).getD u 0 = _
    rw [List.getD_eq_getElem?_getD, List.getElem?_map, List.getElem?_range hu]
    simp
  · simp at hc
    exact absurd (List.eq_nil_of_length_eq_zero hc.symm) hne
theorem s0_okk {L : List Tm} (h : L.length ≤ 1048576) : Okk L (s0 L) := ⟨by simp [s0], by simp [s0], by simp [s0], by simp [s0], h⟩
theorem Srch.bgn {L : List Tm} {S : Nat → Prop} {s : Sk} {D P : List Nat} (h : Srch L S s D P) {i : Nat} (hi : i < L.length) : Srch L S (bgn L s i) D P := by
  unfold Proofs.Ytikbeagcflofhaa.bgn
  split
  · rename_i hh
    exact h.lrn hi (.make i hi hh.1 (fun x hx => by rw [hh.2] at hx; cases hx))
  · exact h
theorem Srch.bgns {L : List Tm} {S : Nat → Prop} {D P : List Nat} : ∀ (q : Nat) (s : Sk), q ≤ L.length → Srch L S s D P → Srch L S ((List.range q).foldl (Proofs.Ytikbeagcflofhaa.bgn L) s) D P := by
  intro q
  induction q with
  | zero => intro s _ h; exact h
  | succ q ih =>
    intro s hq h
    rw [List.range_succ, List.foldl_append]
    exact (ih s (by omega) h).bgn (by omega)
theorem bgn_has {L : List Tm} {s : Sk} (hl : s.kn.length = L.length) : ∀ i, i < L.length → kd L i ≠ 1 → ar L i = [] → bt ((List.range L.length).foldl (bgn L) s).kn i = true := by
  intro i hi hk ha
  obtain ⟨t, h1, h2⟩ := fold_hit (bgn_le L) (List.range L.length) s i (List.mem_range.2 hi)
  refine h2.kn i ?_
  unfold bgn
  rw [if_pos ⟨hk, ha⟩]
  exact lrn_self t i (by rw [h1.lk, hl]; exact hi)
/-- When all that is given has been learnt. -/
theorem runI_start {L : List Tm} {U : Nat → List Nat} {some : List Nat} (hL : L.length ≤ 1048576) (hs : ∀ x ∈ some, x < L.length) : RunI L U (· ∈ some) (some.foldl lrn ((List.range L.length).foldl (bgn L) (s0 L))) := by
  have h1 := Srch.bgns (S := (· ∈ some)) L.length (s0 L) (Nat.le_refl _) s0_srch
  obtain ⟨h2, h3⟩ := Srch.lrns some _ h1 (fun x hx => ⟨hs x hx, .given x hx (hs x hx)⟩)
  have hO : ∀ q, q ≤ L.length → Okk L ((List.range q).foldl (bgn L) (s0 L)) := by
    intro q
    induction q with
    | zero => intro _; exact s0_okk hL
    | succ q ih =>
      intro hq
      rw [List.range_succ, List.foldl_append]
      exact (ih (by omega)).bgn (by omega)
  exact ⟨Okk.lrns _ _ (hO _ (Nat.le_refl _)) hs, ⟨[], [], h2, fun u => rfl, fun j hj => by cases hj⟩, fun i hi _ => h3 i hi, fun i hi hk ha => (fold_le lrn_le some _).kn i (bgn_has (by simp [s0]) i hi hk ha)⟩
set_option maxHeartbeats 8000000 in
theorem begin_ok {w0 : World} {A : Adr} {L : List Tm} {s : Sk} {wv : Value} {wr : World} (T : Hid (Sea w0 A L s wv wr)) (hO : Hid (Okk L s)) (HW : Hid (Wf L)) : Calls Try.prog 66 #[.pointer (some ⟨A.sb, 0, none⟩)] wr fun e w' => (∃ v, e = .returned v) ∧ ∃ wv', Sea w0 A L ((List.range L.length).foldl (bgn L) s) wv' w' ∧ Okk L ((List.range L.length).foldl (bgn L) s) := by
  have x0 := T.out.base.c0
  have hlt := hO.out.lt
  obtain ⟨n, hn⟩ : ∃ n, n = L.length := ⟨_, rfl⟩
  rw [← hn] at x0 hlt
  have HN := (show Hid (n = L.length) from hn)
  clear hn
  go_enter Try.func66, Try.ntmps66
  go_wp2
  go_loopw [9] (fun j wq => ∃ q : Nat, j = .int .i64 q ∧ q ≤ n ∧ ∃ wv', Sea w0 A L ((List.range q).foldl (bgn L) s) wv' wq ∧ Okk L ((List.range q).foldl (bgn L) s)) (fun j _ => n - (intOf j).toNat)
  case atStart => exact ⟨0, rfl, by omega, wv, T.out, hO.out⟩
  case round =>
    obtain ⟨q, rfl, hq, wv', hT', hO'⟩ := hrel
    by_cases hlt2 : q < n
    · have hql : q < L.length := by rw [← HN.out]; exact hlt2
      have HE : Hid ((List.range (q + 1)).foldl (bgn L) s = bgn L ((List.range q).foldl (bgn L) s) q) := by rw [List.range_succ, List.foldl_append]; exact rfl
      generalize (List.range q).foldl (bgn L) s = sq at hT' hO' HE
      have HT := (show Hid (Sea w0 A L sq wv' wr) from hT')
      have HO := (show Hid (Okk L sq) from hO')
      obtain ⟨k, m, p, c, xs, hL, hk, ha, hx, hr, n0, n1, n2, hv, hcap, hrd⟩ := hT'.node HW.out hql
      have hqI : (q : Int) < n := by omega
      clear hT' hO' hL hx hr hv hcap hrd
      by_cases h1 : k = 1
      · subst h1
        have hgo : bgn L sq q = sq := by unfold bgn; rw [if_neg (fun h => h.1 hk)]
        have HG := (show Hid _ from hgo)
        clear hgo
        go_wp2
        exact ⟨⟨q + 1, by simp, by omega, wv', by rw [HE.out, HG.out]; exact HT.out.step ((Below.refl _ _).alloc (Nat.le_refl _) _), by rw [HE.out, HG.out]; exact HO.out⟩, by simp [intOf]; omega⟩
      · have hd1 : (k == 1) = false := by simp [h1]
        have hd2 : decide (k = 1) = false := by simp [h1]
        by_cases hxe : xs.length = 0
        · have hgo : bgn L sq q = lrn sq q := by
            unfold bgn
            rw [if_pos ⟨by rw [hk]; exact h1, by rw [ha, List.eq_nil_of_length_eq_zero hxe]; rfl⟩]
          have HG := (show Hid _ from hgo)
          clear hgo
          rw [hxe] at n2
          go_wp2_with (first | (go_at_call 67; refine (learn_ok (show Hid (Sea w0 A L sq wv' (wr.alloc (.cells #[.int .i64 k, .int .i64 m, .slice p 0 c] 43))) from HT.out.step ((Below.refl _ _).alloc (Nat.le_refl _) _)) HO q hql).mono ?_; rintro ev w5 ⟨⟨v5, rfl⟩, wv5, hT5⟩))
          exact ⟨⟨q + 1, by simp, by omega, wv5, by rw [HE.out, HG.out]; exact hT5, by rw [HE.out, HG.out]; exact HO.out.lrn hql⟩, by simp [intOf]; omega⟩
        · have hgo : bgn L sq q = sq := by
            unfold bgn
            rw [if_neg (fun h => hxe (by have := h.2; rw [ha] at this; simpa using congrArg List.length this))]
          have HG := (show Hid _ from hgo)
          clear hgo
          generalize xs.length = l at n2 hxe
          have hd3 : decide (l = 0) = false := by simp [hxe]
          have hd4 : (l == 0) = false := by simp [hxe]
          have hd5 : ((l : Int) == 0) = false := by simp [hxe]
          go_wp2
          exact ⟨⟨q + 1, by simp, by omega, wv', by rw [HE.out, HG.out]; exact HT.out.step ((Below.refl _ _).alloc (Nat.le_refl _) _), by rw [HE.out, HG.out]; exact HO.out⟩, by simp [intOf]; omega⟩
    · obtain rfl : q = n := by omega
      rw [HN.out] at hT' hO'
      have HT := (show Hid _ from hT')
      have HO := (show Hid _ from hO')
      clear hT' hO'
      go_wp2
      go_end0
      exact ⟨⟨_, rfl⟩, wv', HT.out, HO.out⟩
end Go.Proofs.Ytikbeagcflofhaa
