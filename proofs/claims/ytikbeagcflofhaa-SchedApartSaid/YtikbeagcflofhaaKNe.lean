/-
  KNOW: open. Own work.
-/
import Derived.Test.YtikbeagcflofhaaKNd
namespace Go.Proofs.Ytikbeagcflofhaa
open Go.RowKit Go.Maps
set_option maxRecDepth 100000
attribute [local go_sem ↓] Go.wp_at_zero Go.wp_at_succ
theorem opn_skip {L : List Tm} {s : Sk} {i : Nat} (h : bt s.kn i = false ∨ bt s.op i = true) : opn L s i = s := by
  unfold opn
  rw [if_pos]
  rcases h with h | h
  · rw [h]; rfl
  · rw [h]; simp
theorem opn_none {L : List Tm} {s : Sk} {i : Nat} (hf : frm L s.kn i = none) : opn L s i = s := by
  unfold opn
  split
  · rfl
  · rw [hf]
theorem opn_some {L : List Tm} {s : Sk} {i f : Nat} (h : bt s.kn i = true) (h' : bt s.op i = false) (hf : frm L s.kn i = some f) : opn L s i = ((ar L i).drop f).foldl lrn { s with op := s.op.set i true } := by
  unfold opn
  rw [h, h', hf]
  rfl
theorem Okk.lrns {L : List Tm} : ∀ (l : List Nat) (s : Sk), Okk L s → (∀ x ∈ l, x < L.length) → Okk L (l.foldl Proofs.Ytikbeagcflofhaa.lrn s) := by
  intro l
  induction l with
  | nil => exact fun s h _ => h
  | cons a l ih => exact fun s h hl => ih _ (h.lrn (hl a List.mem_cons_self)) (fun x hx => hl x (List.mem_cons_of_mem _ hx))
theorem Okk.setOp {L : List Tm} {s : Sk} (h : Okk L s) (i : Nat) : Okk L { s with op := s.op.set i true } := ⟨h.lk, by simp [h.lo], h.lm, h.wb, h.lt⟩
/-- One more of the arguments. -/
theorem fold_more {A : List Nat} {f q a : Nat} {s : Sk} (h : A[f + q]? = some a) : ((A.drop f).take (q + 1)).foldl lrn s = lrn (((A.drop f).take q).foldl lrn s) a := by
  rw [List.take_add_one, List.getElem?_drop, h, List.foldl_append]
  rfl
/-- What the loop over the arguments holds. -/
def OpI (w0 : World) (A : Adr) (L : List Tm) (s : Sk) (i f q : Nat) (wq : World) : Prop := ∃ wv, Sea w0 A L (((((ar L i).drop f).take q)).foldl lrn { s with op := s.op.set i true }) wv wq ∧ Okk L ((((ar L i).drop f).take q).foldl lrn { s with op := s.op.set i true })
theorem OpI.start {w0 : World} {A : Adr} {L : List Tm} {s : Sk} {i f : Nat} {wv : Value} {wq : World} (h : Sea w0 A L { s with op := s.op.set i true } wv wq) (hO : Okk L s) : OpI w0 A L s i f 0 wq := ⟨wv, h, hO.setOp i⟩
theorem OpI.fin {w0 : World} {A : Adr} {L : List Tm} {s : Sk} {i f q : Nat} {wq : World} (h : OpI w0 A L s i f q wq) (hq : (ar L i).length ≤ f + q) (h1 : bt s.kn i = true) (h' : bt s.op i = false) (hf : frm L s.kn i = some f) : ∃ wv', Sea w0 A L (opn L s i) wv' wq := by
  obtain ⟨wv, hT, _⟩ := h
  rw [List.take_of_length_le (by simp; omega)] at hT
  rw [opn_some h1 h' hf]
  exact ⟨wv, hT⟩
theorem arg_at {xs : List Int} {m j : Nat} (h : ∀ x ∈ xs, 0 ≤ x ∧ x < (m : Int)) (hj : j < xs.length) : ∃ a : Nat, (xs.map Int.toNat)[j]? = some a ∧ xs.getD j 0 = (a : Int) ∧ a < m := by
  refine ⟨(xs[j]).toNat, by rw [List.getElem?_map, List.getElem?_eq_getElem hj]; rfl, ?_, ?_⟩
  · rw [List.getD_eq_getElem?_getD, List.getElem?_eq_getElem hj]
    have := h _ (List.getElem_mem hj)
    simp only [Option.getD_some]
    omega
  · have := h _ (List.getElem_mem hj)
    omega
theorem vs_cell {w0 : World} {A : Adr} {L : List Tm} {s : Sk} {wv : Value} {w : World} (T : Sea w0 A L s wv w) {i : Nat} (hi : i < L.length) {k m : Int} {xs : List Int} (hL : L[i]? = some (k, m, xs)) {b o c n : Nat} (hv : A.vs i = .slice (some ⟨b, o, none⟩) n c) {j : Nat} (hj : j < xs.length) : w.cell? ⟨b, o + j, none⟩ = some (.int .i64 (xs.getD j 0)) := by
  have h := (T.base.node i hi).rd
  have he : L[i] = (k, m, xs) := (List.getElem?_eq_some_iff.1 hL).2
  rw [he, hv] at h
  obtain ⟨p', c', e, hx | ⟨b', o', rfl, hb, hc⟩⟩ := h
  · simp only at hx
    subst hx
    exact absurd hj (Nat.not_lt_zero _)
  · cases e
    exact hc j hj
set_option maxHeartbeats 8000000 in
theorem open_ok {w0 : World} {A : Adr} {L : List Tm} {s : Sk} {wv : Value} {wr : World} (T : Hid (Sea w0 A L s wv wr)) (hO : Hid (Okk L s)) (HW : Hid (Wf L)) (i : Nat) (hi : i < L.length) : Calls Try.prog 86 #[.pointer (some ⟨A.sb, 0, none⟩), .int .i64 i] wr fun e w' => (∃ v, e = .returned v) ∧ ∃ wv', Sea w0 A L (opn L s i) wv' w' := by
  obtain ⟨k, m, p, c, xs, hL, hk, ha, hx, hr, n0, n1, n2, hv, hcap, hrd⟩ := T.out.node HW.out hi
  have x0 := T.out.base.c0
  have x1 := T.out.base.c1
  have x2 := T.out.base.c2
  have hiI : (i : Int) < L.length := by omega
  have hsb := (T.out.base.own _ (.inl rfl)).2
  have hkb := (T.out.base.own A.kb (.inr (.inl rfl))).2
  have hob := (T.out.base.own A.ob (.inr (.inr (.inl rfl)))).2
  have k1 := (World.ownsRow.cellAt T.out.kn i (by omega)).trans (kn_at (by rw [hO.out.lk]; exact hi))
  have k2 := (World.ownsRow.cellAt T.out.op i (by omega)).trans (kn_at (by rw [hO.out.lo]; exact hi))
  have k3 := World.ownsRow.frozenAt T.out.op i
  by_cases hb1 : bt s.kn i = true
  rotate_left
  · rw [Bool.not_eq_true] at hb1
    rw [hb1] at k1
    have hgo := opn_skip (L := L) (s := s) (i := i) (.inl hb1)
    go_enter Try.func86, Try.ntmps86
    go_wp2
    (try simp only [Exit.inBlock, Exit.then])
    refine bodyPost_ret (results_none rfl _ _ _) rfl ?_
    exact ⟨⟨_, rfl⟩, wv, by rw [hgo]; exact T.out⟩
  by_cases hb2 : bt s.op i = true
  · have hgo := opn_skip (L := L) (s := s) (i := i) (.inr hb2)
    rw [hb1] at k1
    rw [hb2] at k2
    go_enter Try.func86, Try.ntmps86
    go_wp2
    (try simp only [Exit.inBlock, Exit.then])
    refine bodyPost_ret (results_none rfl _ _ _) rfl ?_
    exact ⟨⟨_, rfl⟩, wv, by rw [hgo]; exact T.out⟩
  rw [Bool.not_eq_true] at hb2
  rw [hb1] at k1
  rw [hb2] at k2
  have T1 := (show Hid (Sea w0 A L { s with op := s.op.set i true } wv (wr.setCell ⟨A.ob, i, none⟩ (.bool true))) from T.out.setOp i)
  have hlen : xs.length ≤ 400 := (shape_k (t := (k, m, xs)) hr).2.2.2
  have HX := (show Hid (∀ x ∈ xs, 0 ≤ x ∧ x < (i : Int)) from hx)
  have HB := (show Hid (bt s.kn i = true ∧ bt s.op i = false) from ⟨hb1, hb2⟩)
  have HV := (show Hid (A.vs i = .slice p xs.length c) from hv)
  have HA := (show Hid (ar L i = xs.map Int.toNat) from ha)
  have hal : (ar L i).length = xs.length := by rw [ha]; simp
  have HK := (show Hid (kd L i = k) from hk)
  have HLi := (show Hid (L[i]? = some (k, m, xs)) from hL)
  clear hx hb1 hb2 hv ha hk hL
  -- CASES
  -- CASES
  -- CASES
  -- CASES
  -- CASES
  -- CASES
  by_cases h9 : k = 9
  · subst h9
    have hf := (show Hid (frm L s.kn i = some 0) from (by unfold frm; rw [HK.out]; rfl))
    rcases Nat.lt_or_ge 0 xs.length with hfx | hfx
    · obtain ⟨b, o, rfl, hb, _, hc0⟩ := rdw_some hrd (by omega)
      have hcf : ¬ c = 0 := by omega
      have hcfI : ((0 : Nat) : Int) ≤ c := by omega
      have hfxI : ((0 : Nat) : Int) ≤ xs.length := by omega
      go_enter Try.func86, Try.ntmps86
      go_wp2
      go_loopw [84] (fun j wq => ∃ q : Nat, j = .int .i64 q ∧ q ≤ xs.length - 0 ∧ OpI w0 A L s i 0 q wq) (fun j _ => xs.length - 0 - (intOf j).toNat)
      case atStart => exact ⟨0, rfl, by omega, OpI.start (T1.out.step ((Below.refl _ _).alloc (Nat.le_refl _) _)) hO.out⟩
      case round =>
        obtain ⟨q, rfl, hq, wv', hT', hO'⟩ := hrel
        have HT := (show Hid (Sea w0 A L ((((ar L i).drop 0).take q).foldl lrn { s with op := s.op.set i true }) wv' wr) from hT')
        have HO := (show Hid (Okk L ((((ar L i).drop 0).take q).foldl lrn { s with op := s.op.set i true })) from hO')
        clear hT' hO'
        by_cases hlt : q < xs.length - 0
        · obtain ⟨a, e1, e2, e3⟩ := arg_at HX.out (j := 0 + q) (by omega)
          have y := vs_cell HT.out hi HLi.out HV.out (j := 0 + q) (by omega)
          rw [e2, Nat.zero_add] at y
          have hqI : (q : Int) < (xs.length - 0 : Nat) := by omega
          rw [← HA.out] at e1
          have HE := (show Hid _ from fold_more (s := { s with op := s.op.set i true }) e1)
          clear e1 e2
          go_wp2_with (first | (go_at_call 67; refine (learn_ok HT HO a (by omega)).mono ?_; rintro ev w9 ⟨⟨v9, rfl⟩, wv9, hT9⟩))
          exact ⟨⟨q + 1, by simp, by omega, wv9, by rw [HE.out]; exact hT9, by rw [HE.out]; exact HO.out.lrn (by omega)⟩, by simp [intOf]; omega⟩
        · obtain rfl : q = xs.length - 0 := by omega
          go_wp2
          go_end0
          exact ⟨⟨_, rfl⟩, OpI.fin (f := 0) ⟨wv', HT.out, HO.out⟩ (by omega) HB.out.1 HB.out.2 hf.out⟩
    · have hcfI : ((0 : Nat) : Int) ≤ c := by omega
      have hfxI : ((0 : Nat) : Int) ≤ xs.length := by omega
      go_enter Try.func86, Try.ntmps86
      go_wp2
      go_loopw [84] (fun j wq => ∃ q : Nat, j = .int .i64 q ∧ q ≤ xs.length - 0 ∧ OpI w0 A L s i 0 q wq) (fun j _ => xs.length - 0 - (intOf j).toNat)
      case atStart => exact ⟨0, rfl, by omega, OpI.start (T1.out.step ((Below.refl _ _).alloc (Nat.le_refl _) _)) hO.out⟩
      case round =>
        obtain ⟨q, rfl, hq, wv', hT', hO'⟩ := hrel
        have HT := (show Hid (Sea w0 A L ((((ar L i).drop 0).take q).foldl lrn { s with op := s.op.set i true }) wv' wr) from hT')
        have HO := (show Hid (Okk L ((((ar L i).drop 0).take q).foldl lrn { s with op := s.op.set i true })) from hO')
        clear hT' hO'
        obtain rfl : q = xs.length - 0 := by omega
        go_wp2
        go_end0
        exact ⟨⟨_, rfl⟩, OpI.fin (f := 0) ⟨wv', HT.out, HO.out⟩ (by omega) HB.out.1 HB.out.2 hf.out⟩
  by_cases h8 : k = 8
  · subst h8
    have hf := (show Hid (frm L s.kn i = some 1) from (by unfold frm; rw [HK.out]; rfl))
    have hmin : 1 ≤ xs.length := by
      unfold rightOf leastOf mostOf at hr
      repeat' split at hr
      all_goals omega
    rcases Nat.lt_or_ge 1 xs.length with hfx | hfx
    · obtain ⟨b, o, rfl, hb, _, hc0⟩ := rdw_some hrd (by omega)
      have hcf : ¬ c = 1 := by omega
      have hcfI : ((1 : Nat) : Int) ≤ c := by omega
      have hfxI : ((1 : Nat) : Int) ≤ xs.length := by omega
      go_enter Try.func86, Try.ntmps86
      go_wp2
      go_loopw [84] (fun j wq => ∃ q : Nat, j = .int .i64 q ∧ q ≤ xs.length - 1 ∧ OpI w0 A L s i 1 q wq) (fun j _ => xs.length - 1 - (intOf j).toNat)
      case atStart => exact ⟨0, rfl, by omega, OpI.start (T1.out.step ((Below.refl _ _).alloc (Nat.le_refl _) _)) hO.out⟩
      case round =>
        obtain ⟨q, rfl, hq, wv', hT', hO'⟩ := hrel
        have HT := (show Hid (Sea w0 A L ((((ar L i).drop 1).take q).foldl lrn { s with op := s.op.set i true }) wv' wr) from hT')
        have HO := (show Hid (Okk L ((((ar L i).drop 1).take q).foldl lrn { s with op := s.op.set i true })) from hO')
        clear hT' hO'
        by_cases hlt : q < xs.length - 1
        · obtain ⟨a, e1, e2, e3⟩ := arg_at HX.out (j := 1 + q) (by omega)
          have y := vs_cell HT.out hi HLi.out HV.out (j := 1 + q) (by omega)
          rw [e2, ← Nat.add_assoc] at y
          have hqI : (q : Int) < (xs.length - 1 : Nat) := by omega
          rw [← HA.out] at e1
          have HE := (show Hid _ from fold_more (s := { s with op := s.op.set i true }) e1)
          clear e1 e2
          go_wp2_with (first | (go_at_call 67; refine (learn_ok HT HO a (by omega)).mono ?_; rintro ev w9 ⟨⟨v9, rfl⟩, wv9, hT9⟩))
          exact ⟨⟨q + 1, by simp, by omega, wv9, by rw [HE.out]; exact hT9, by rw [HE.out]; exact HO.out.lrn (by omega)⟩, by simp [intOf]; omega⟩
        · obtain rfl : q = xs.length - 1 := by omega
          go_wp2
          go_end0
          exact ⟨⟨_, rfl⟩, OpI.fin (f := 1) ⟨wv', HT.out, HO.out⟩ (by omega) HB.out.1 HB.out.2 hf.out⟩
    · obtain ⟨b, o, rfl, hb, _, hc0⟩ := rdw_some hrd (by omega)
      by_cases hcf : c = 1
      · subst hcf
        have hcfI : ((1 : Nat) : Int) ≤ (1 : Nat) := by omega
        have hfxI : ((1 : Nat) : Int) ≤ xs.length := by omega
        go_enter Try.func86, Try.ntmps86
        go_wp2
        go_loopw [84] (fun j wq => ∃ q : Nat, j = .int .i64 q ∧ q ≤ xs.length - 1 ∧ OpI w0 A L s i 1 q wq) (fun j _ => xs.length - 1 - (intOf j).toNat)
        case atStart => exact ⟨0, rfl, by omega, OpI.start (T1.out.step ((Below.refl _ _).alloc (Nat.le_refl _) _)) hO.out⟩
        case round =>
          obtain ⟨q, rfl, hq, wv', hT', hO'⟩ := hrel
          have HT := (show Hid (Sea w0 A L ((((ar L i).drop 1).take q).foldl lrn { s with op := s.op.set i true }) wv' wr) from hT')
          have HO := (show Hid (Okk L ((((ar L i).drop 1).take q).foldl lrn { s with op := s.op.set i true })) from hO')
          clear hT' hO'
          obtain rfl : q = xs.length - 1 := by omega
          go_wp2
          go_end0
          exact ⟨⟨_, rfl⟩, OpI.fin (f := 1) ⟨wv', HT.out, HO.out⟩ (by omega) HB.out.1 HB.out.2 hf.out⟩
      · have hcfI : ((1 : Nat) : Int) ≤ c := by omega
        have hfxI : ((1 : Nat) : Int) ≤ xs.length := by omega
        go_enter Try.func86, Try.ntmps86
        go_wp2
        go_loopw [84] (fun j wq => ∃ q : Nat, j = .int .i64 q ∧ q ≤ xs.length - 1 ∧ OpI w0 A L s i 1 q wq) (fun j _ => xs.length - 1 - (intOf j).toNat)
        case atStart => exact ⟨0, rfl, by omega, OpI.start (T1.out.step ((Below.refl _ _).alloc (Nat.le_refl _) _)) hO.out⟩
        case round =>
          obtain ⟨q, rfl, hq, wv', hT', hO'⟩ := hrel
          have HT := (show Hid (Sea w0 A L ((((ar L i).drop 1).take q).foldl lrn { s with op := s.op.set i true }) wv' wr) from hT')
          have HO := (show Hid (Okk L ((((ar L i).drop 1).take q).foldl lrn { s with op := s.op.set i true })) from hO')
          clear hT' hO'
          obtain rfl : q = xs.length - 1 := by omega
          go_wp2
          go_end0
          exact ⟨⟨_, rfl⟩, OpI.fin (f := 1) ⟨wv', HT.out, HO.out⟩ (by omega) HB.out.1 HB.out.2 hf.out⟩
  by_cases h6 : k = 6
  · subst h6
    have hmin : 1 ≤ xs.length := by
      unfold rightOf leastOf mostOf at hr
      repeat' split at hr
      all_goals omega
    obtain ⟨b0, o0, hp0, _, _, hc0'⟩ := rdw_some hrd (by omega)
    obtain ⟨e1, e2⟩ := ar_get (j := 0) HX.out (by omega)
    have y0 := hc0' 0 (by omega)
    rw [e1, Nat.add_zero] at y0
    subst hp0
    have hA0 := (show Hid (ar L i = xs.map Int.toNat) from HA.out)
    obtain ⟨a0, ha0⟩ : ∃ a0, a0 = (xs.map Int.toNat).getD 0 0 := ⟨_, rfl⟩
    rw [← ha0] at y0 e2
    have HA0 := (show Hid ((ar L i).getD 0 0 = a0) from by rw [HA.out, ha0]; rfl)
    clear e1 hc0' ha0 hA0
    have g0 := (World.ownsRow.cellAt T.out.kn a0 (by omega)).trans (kn_at (by rw [hO.out.lk]; omega))
    have a0I : (a0 : Int) < L.length := by omega
    have x0I : (0 : Int) < xs.length := by omega
    by_cases hka : bt s.kn a0 = true
    · have hf := (show Hid (frm L s.kn i = some 1) from (by unfold frm; rw [HK.out, HA0.out, hka]; rfl))
      rw [hka] at g0
      rcases Nat.lt_or_ge 1 xs.length with hfx | hfx
      · obtain ⟨b, o, hbo, hb, _, hc0⟩ := rdw_some hrd (by omega)
        cases hbo
        have hcf : ¬ c = 1 := by omega
        have hcfI : ((1 : Nat) : Int) ≤ c := by omega
        have hfxI : ((1 : Nat) : Int) ≤ xs.length := by omega
        go_enter Try.func86, Try.ntmps86
        go_wp2
        go_quiet (fail)
        go_wp2
        go_loopw [84] (fun j wq => ∃ q : Nat, j = .int .i64 q ∧ q ≤ xs.length - 1 ∧ OpI w0 A L s i 1 q wq) (fun j _ => xs.length - 1 - (intOf j).toNat)
        case atStart => exact ⟨0, rfl, by omega, OpI.start ((T.out.step (below_drewN ((Below.refl _ _).alloc (Nat.le_refl _) _) _)).setOp i) hO.out⟩
        case round =>
          obtain ⟨q, rfl, hq, wv', hT', hO'⟩ := hrel
          have HT := (show Hid (Sea w0 A L ((((ar L i).drop 1).take q).foldl lrn { s with op := s.op.set i true }) wv' wr) from hT')
          have HO := (show Hid (Okk L ((((ar L i).drop 1).take q).foldl lrn { s with op := s.op.set i true })) from hO')
          clear hT' hO'
          by_cases hlt : q < xs.length - 1
          · obtain ⟨a, e1, e2, e3⟩ := arg_at HX.out (j := 1 + q) (by omega)
            have y := vs_cell HT.out hi HLi.out HV.out (j := 1 + q) (by omega)
            rw [e2, ← Nat.add_assoc] at y
            have hqI : (q : Int) < (xs.length - 1 : Nat) := by omega
            rw [← HA.out] at e1
            have HE := (show Hid _ from fold_more (s := { s with op := s.op.set i true }) e1)
            clear e1 e2
            go_wp2_with (first | (go_at_call 67; refine (learn_ok HT HO a (by omega)).mono ?_; rintro ev w9 ⟨⟨v9, rfl⟩, wv9, hT9⟩))
            exact ⟨⟨q + 1, by simp, by omega, wv9, by rw [HE.out]; exact hT9, by rw [HE.out]; exact HO.out.lrn (by omega)⟩, by simp [intOf]; omega⟩
          · obtain rfl : q = xs.length - 1 := by omega
            go_wp2
            go_end0
            exact ⟨⟨_, rfl⟩, OpI.fin (f := 1) ⟨wv', HT.out, HO.out⟩ (by omega) HB.out.1 HB.out.2 hf.out⟩
      · obtain ⟨b, o, hbo, hb, _, hc0⟩ := rdw_some hrd (by omega)
        cases hbo
        by_cases hcf : c = 1
        · subst hcf
          have hcfI : ((1 : Nat) : Int) ≤ (1 : Nat) := by omega
          have hfxI : ((1 : Nat) : Int) ≤ xs.length := by omega
          go_enter Try.func86, Try.ntmps86
          go_wp2
          go_quiet (fail)
          go_wp2
          go_loopw [84] (fun j wq => ∃ q : Nat, j = .int .i64 q ∧ q ≤ xs.length - 1 ∧ OpI w0 A L s i 1 q wq) (fun j _ => xs.length - 1 - (intOf j).toNat)
          case atStart => exact ⟨0, rfl, by omega, OpI.start ((T.out.step (below_drewN ((Below.refl _ _).alloc (Nat.le_refl _) _) _)).setOp i) hO.out⟩
          case round =>
            obtain ⟨q, rfl, hq, wv', hT', hO'⟩ := hrel
            have HT := (show Hid (Sea w0 A L ((((ar L i).drop 1).take q).foldl lrn { s with op := s.op.set i true }) wv' wr) from hT')
            have HO := (show Hid (Okk L ((((ar L i).drop 1).take q).foldl lrn { s with op := s.op.set i true })) from hO')
            clear hT' hO'
            obtain rfl : q = xs.length - 1 := by omega
            go_wp2
            go_end0
            exact ⟨⟨_, rfl⟩, OpI.fin (f := 1) ⟨wv', HT.out, HO.out⟩ (by omega) HB.out.1 HB.out.2 hf.out⟩
        · have hcfI : ((1 : Nat) : Int) ≤ c := by omega
          have hfxI : ((1 : Nat) : Int) ≤ xs.length := by omega
          go_enter Try.func86, Try.ntmps86
          go_wp2
          go_quiet (fail)
          go_wp2
          go_loopw [84] (fun j wq => ∃ q : Nat, j = .int .i64 q ∧ q ≤ xs.length - 1 ∧ OpI w0 A L s i 1 q wq) (fun j _ => xs.length - 1 - (intOf j).toNat)
          case atStart => exact ⟨0, rfl, by omega, OpI.start ((T.out.step (below_drewN ((Below.refl _ _).alloc (Nat.le_refl _) _) _)).setOp i) hO.out⟩
          case round =>
            obtain ⟨q, rfl, hq, wv', hT', hO'⟩ := hrel
            have HT := (show Hid (Sea w0 A L ((((ar L i).drop 1).take q).foldl lrn { s with op := s.op.set i true }) wv' wr) from hT')
            have HO := (show Hid (Okk L ((((ar L i).drop 1).take q).foldl lrn { s with op := s.op.set i true })) from hO')
            clear hT' hO'
            obtain rfl : q = xs.length - 1 := by omega
            go_wp2
            go_end0
            exact ⟨⟨_, rfl⟩, OpI.fin (f := 1) ⟨wv', HT.out, HO.out⟩ (by omega) HB.out.1 HB.out.2 hf.out⟩
    · rw [Bool.not_eq_true] at hka
      have hf := (show Hid (frm L s.kn i = none) from (by unfold frm; rw [HK.out, HA0.out, hka]; rfl))
      rw [hka] at g0
      have hgo := opn_none (s := s) hf.out
      go_enter Try.func86, Try.ntmps86
      go_wp2
      go_quiet (fail)
      go_wp2
      (try simp only [Exit.inBlock, Exit.then])
      refine bodyPost_ret (results_none rfl _ _ _) rfl ?_
      exact ⟨⟨_, rfl⟩, wv, by rw [hgo]; exact T.out.step (below_drewN ((Below.refl _ _).alloc (Nat.le_refl _) _) _)⟩
  by_cases h7 : k = 7
  · subst h7
    have hmin : 2 ≤ xs.length := by
      unfold rightOf leastOf mostOf at hr
      repeat' split at hr
      all_goals omega
    obtain ⟨b0, o0, hp0, hb0', _, hc0'⟩ := rdw_some hrd (by omega)
    obtain ⟨e1, e2⟩ := ar_get (j := 0) HX.out (by omega)
    have y0 := hc0' 0 (by omega)
    rw [e1, Nat.add_zero] at y0
    subst hp0
    have hA0 := (show Hid (ar L i = xs.map Int.toNat) from HA.out)
    obtain ⟨a0, ha0⟩ : ∃ a0, a0 = (xs.map Int.toNat).getD 0 0 := ⟨_, rfl⟩
    rw [← ha0] at y0 e2
    have HA0 := (show Hid ((ar L i).getD 0 0 = a0) from by rw [HA.out, ha0]; rfl)
    obtain ⟨e3, e4⟩ := ar_get (j := 1) HX.out (by omega)
    have y1 := hc0' 1 (by omega)
    rw [e3] at y1
    obtain ⟨a1, ha1⟩ : ∃ a1, a1 = (xs.map Int.toNat).getD 1 0 := ⟨_, rfl⟩
    rw [← ha1] at y1 e4
    have HA1 := (show Hid ((ar L i).getD 1 0 = a1) from by rw [HA.out, ha1]; rfl)
    have g1 := (World.ownsRow.cellAt T.out.kn a1 (by omega)).trans (kn_at (by rw [hO.out.lk]; omega))
    have a1I : (a1 : Int) < L.length := by omega
    have x1I : (1 : Int) < xs.length := by omega
    have x0N : 0 < xs.length := by omega
    clear e1 e3 hc0' ha0 ha1 hA0
    have a0I : (a0 : Int) < L.length := by omega
    have x0I : (0 : Int) < xs.length := by omega
    by_cases hka : bt s.kn a1 = true
    · have hf := (show Hid (frm L s.kn i = some 2) from (by unfold frm; rw [HK.out, HA1.out, hka]; rfl))
      rw [hka] at g1
      rcases Nat.lt_or_ge 2 xs.length with hfx | hfx
      · obtain ⟨b, o, hbo, hb, _, hc0⟩ := rdw_some hrd (by omega)
        cases hbo
        have hcf : ¬ c = 2 := by omega
        have hcfI : ((2 : Nat) : Int) ≤ c := by omega
        have hfxI : ((2 : Nat) : Int) ≤ xs.length := by omega
        go_enter Try.func86, Try.ntmps86
        go_wp2
        go_quiet (fail)
        go_wp2
        go_loopw [84] (fun j wq => ∃ q : Nat, j = .int .i64 q ∧ q ≤ xs.length - 2 ∧ OpI w0 A L s i 2 q wq) (fun j _ => xs.length - 2 - (intOf j).toNat)
        case atStart => exact ⟨0, rfl, by omega, OpI.start ((T.out.step (below_drewN ((Below.refl _ _).alloc (Nat.le_refl _) _) _)).setOp i) hO.out⟩
        case round =>
          obtain ⟨q, rfl, hq, wv', hT', hO'⟩ := hrel
          have HT := (show Hid (Sea w0 A L ((((ar L i).drop 2).take q).foldl lrn { s with op := s.op.set i true }) wv' wr) from hT')
          have HO := (show Hid (Okk L ((((ar L i).drop 2).take q).foldl lrn { s with op := s.op.set i true })) from hO')
          clear hT' hO'
          by_cases hlt : q < xs.length - 2
          · obtain ⟨a, e1, e2, e3⟩ := arg_at HX.out (j := 2 + q) (by omega)
            have y := vs_cell HT.out hi HLi.out HV.out (j := 2 + q) (by omega)
            rw [e2, ← Nat.add_assoc] at y
            have hqI : (q : Int) < (xs.length - 2 : Nat) := by omega
            rw [← HA.out] at e1
            have HE := (show Hid _ from fold_more (s := { s with op := s.op.set i true }) e1)
            clear e1 e2
            go_wp2_with (first | (go_at_call 67; refine (learn_ok HT HO a (by omega)).mono ?_; rintro ev w9 ⟨⟨v9, rfl⟩, wv9, hT9⟩))
            exact ⟨⟨q + 1, by simp, by omega, wv9, by rw [HE.out]; exact hT9, by rw [HE.out]; exact HO.out.lrn (by omega)⟩, by simp [intOf]; omega⟩
          · obtain rfl : q = xs.length - 2 := by omega
            go_wp2
            go_end0
            exact ⟨⟨_, rfl⟩, OpI.fin (f := 2) ⟨wv', HT.out, HO.out⟩ (by omega) HB.out.1 HB.out.2 hf.out⟩
      · obtain ⟨b, o, hbo, hb, _, hc0⟩ := rdw_some hrd (by omega)
        cases hbo
        by_cases hcf : c = 2
        · subst hcf
          have hcfI : ((2 : Nat) : Int) ≤ (2 : Nat) := by omega
          have hfxI : ((2 : Nat) : Int) ≤ xs.length := by omega
          go_enter Try.func86, Try.ntmps86
          go_wp2
          go_quiet (fail)
          go_wp2
          go_loopw [84] (fun j wq => ∃ q : Nat, j = .int .i64 q ∧ q ≤ xs.length - 2 ∧ OpI w0 A L s i 2 q wq) (fun j _ => xs.length - 2 - (intOf j).toNat)
          case atStart => exact ⟨0, rfl, by omega, OpI.start ((T.out.step (below_drewN ((Below.refl _ _).alloc (Nat.le_refl _) _) _)).setOp i) hO.out⟩
          case round =>
            obtain ⟨q, rfl, hq, wv', hT', hO'⟩ := hrel
            have HT := (show Hid (Sea w0 A L ((((ar L i).drop 2).take q).foldl lrn { s with op := s.op.set i true }) wv' wr) from hT')
            have HO := (show Hid (Okk L ((((ar L i).drop 2).take q).foldl lrn { s with op := s.op.set i true })) from hO')
            clear hT' hO'
            obtain rfl : q = xs.length - 2 := by omega
            go_wp2
            go_end0
            exact ⟨⟨_, rfl⟩, OpI.fin (f := 2) ⟨wv', HT.out, HO.out⟩ (by omega) HB.out.1 HB.out.2 hf.out⟩
        · have hcfI : ((2 : Nat) : Int) ≤ c := by omega
          have hfxI : ((2 : Nat) : Int) ≤ xs.length := by omega
          go_enter Try.func86, Try.ntmps86
          go_wp2
          go_quiet (fail)
          go_wp2
          go_loopw [84] (fun j wq => ∃ q : Nat, j = .int .i64 q ∧ q ≤ xs.length - 2 ∧ OpI w0 A L s i 2 q wq) (fun j _ => xs.length - 2 - (intOf j).toNat)
          case atStart => exact ⟨0, rfl, by omega, OpI.start ((T.out.step (below_drewN ((Below.refl _ _).alloc (Nat.le_refl _) _) _)).setOp i) hO.out⟩
          case round =>
            obtain ⟨q, rfl, hq, wv', hT', hO'⟩ := hrel
            have HT := (show Hid (Sea w0 A L ((((ar L i).drop 2).take q).foldl lrn { s with op := s.op.set i true }) wv' wr) from hT')
            have HO := (show Hid (Okk L ((((ar L i).drop 2).take q).foldl lrn { s with op := s.op.set i true })) from hO')
            clear hT' hO'
            obtain rfl : q = xs.length - 2 := by omega
            go_wp2
            go_end0
            exact ⟨⟨_, rfl⟩, OpI.fin (f := 2) ⟨wv', HT.out, HO.out⟩ (by omega) HB.out.1 HB.out.2 hf.out⟩
    · rw [Bool.not_eq_true] at hka
      rw [hka] at g1
      by_cases how' : owns L s.kn a0 = true
      · have how := (show Hid (owns L s.kn a0 = true) from how')
        have hf := (show Hid (frm L s.kn i = some 2) from (by unfold frm; rw [HK.out, HA1.out, HA0.out, hka, how']; rfl))
        clear how'
        have z1 := (World.cell?_alloc_lt wr (.cells #[.int .i64 7, .int .i64 m, .slice (some ⟨b0, o0, none⟩) xs.length c] 43) ⟨A.sb, 1, none⟩ hsb).trans x1
        have z2 : (wr.alloc (.cells #[.int .i64 7, .int .i64 m, .slice (some ⟨b0, o0, none⟩) xs.length c] 43)).cell? ⟨wr.heap.size, 2, none⟩ = some (.slice (some ⟨b0, o0, none⟩) xs.length c) := by simp [go_sem]
        have z3 := (World.cell?_alloc_lt wr (.cells #[.int .i64 7, .int .i64 m, .slice (some ⟨b0, o0, none⟩) xs.length c] 43) ⟨b0, o0 + 1, none⟩ hb0').trans y1
        have z4 := (World.cell?_alloc_lt wr (.cells #[.int .i64 7, .int .i64 m, .slice (some ⟨b0, o0, none⟩) xs.length c] 43) ⟨b0, o0, none⟩ hb0').trans y0
        have z5 := (World.cell?_alloc_lt wr (.cells #[.int .i64 7, .int .i64 m, .slice (some ⟨b0, o0, none⟩) xs.length c] 43) ⟨A.kb, a1, none⟩ hkb).trans g1
        have l1 : A.sb < (wr.alloc (.cells #[.int .i64 7, .int .i64 m, .slice (some ⟨b0, o0, none⟩) xs.length c] 43)).drew.heap.size := Nat.lt_of_lt_of_le hsb (((Below.refl _ wr).alloc (Nat.le_refl _) (.cells #[.int .i64 7, .int .i64 m, .slice (some ⟨b0, o0, none⟩) xs.length c] 43)).drew).size
        have l2 : wr.heap.size < (wr.alloc (.cells #[.int .i64 7, .int .i64 m, .slice (some ⟨b0, o0, none⟩) xs.length c] 43)).drew.heap.size := by simp [World.drew]
        have l3 : b0 < (wr.alloc (.cells #[.int .i64 7, .int .i64 m, .slice (some ⟨b0, o0, none⟩) xs.length c] 43)).drew.heap.size := Nat.lt_of_lt_of_le hb0' (((Below.refl _ wr).alloc (Nat.le_refl _) (.cells #[.int .i64 7, .int .i64 m, .slice (some ⟨b0, o0, none⟩) xs.length c] 43)).drew).size
        have l5 : A.kb < (wr.alloc (.cells #[.int .i64 7, .int .i64 m, .slice (some ⟨b0, o0, none⟩) xs.length c] 43)).drew.heap.size := Nat.lt_of_lt_of_le hkb (((Below.refl _ wr).alloc (Nat.le_refl _) (.cells #[.int .i64 7, .int .i64 m, .slice (some ⟨b0, o0, none⟩) xs.length c] 43)).drew).size
        rcases Nat.lt_or_ge 2 xs.length with hfx | hfx
        · obtain ⟨b, o, hbo, hb, _, hc0⟩ := rdw_some hrd (by omega)
          cases hbo
          have hcf : ¬ c = 2 := by omega
          have hcfI : ((2 : Nat) : Int) ≤ c := by omega
          have hfxI : ((2 : Nat) : Int) ≤ xs.length := by omega
          go_enter Try.func86, Try.ntmps86
          go_wp2
          go_region_held3 (fun w' => w'.cell? ⟨A.sb, 1, none⟩ = some (.slice (some ⟨A.kb, 0, none⟩) L.length A.ck) ∧ w'.cell? ⟨wr.heap.size, 2, none⟩ = some (.slice (some ⟨b0, o0, none⟩) xs.length c) ∧ w'.cell? ⟨b0, o0 + 1, none⟩ = some (.int .i64 a1) ∧ w'.cell? ⟨b0, o0, none⟩ = some (.int .i64 a0) ∧ w'.cell? ⟨A.kb, a1, none⟩ = some (.bool false))
            (first | exact ⟨z1, z2, z3, z4, z5⟩ | exact ⟨v1, v2, v3, v4, v5⟩)
            (first | (go_at_call 92; refine (owns_ok (wr := (wr.alloc (.cells #[.int .i64 7, .int .i64 m, .slice (some ⟨b0, o0, none⟩) xs.length c] 43)).drew) (show Hid (Sea w0 A L s wv (wr.alloc (.cells #[.int .i64 7, .int .i64 m, .slice (some ⟨b0, o0, none⟩) xs.length c] 43)).drew) from T.out.step (((Below.refl _ wr).alloc (Nat.le_refl _) _).drew)) hO HW.out a0 (by omega)).mono ?_; rintro ev w3 ⟨rfl, B3⟩; rw [how.out]; have v1 := (B3.cell (p := ⟨A.sb, 1, none⟩) l1).trans z1; have v2 := (B3.cell (p := ⟨wr.heap.size, 2, none⟩) l2).trans z2; have v3 := (B3.cell (p := ⟨b0, o0 + 1, none⟩) l3).trans z3; have v4 := (B3.cell (p := ⟨b0, o0, none⟩) l3).trans z4; have v5 := (B3.cell (p := ⟨A.kb, a1, none⟩) l5).trans z5))
          simp only [Exit.then]
          go_at_K
          have BW := (((Below.refl _ wr).alloc (Nat.le_refl _) (.cells #[.int .i64 7, .int .i64 m, .slice (some ⟨b0, o0, none⟩) xs.length c] 43)).drew).trans (B3.mono (((Below.refl _ wr).alloc (Nat.le_refl _) (.cells #[.int .i64 7, .int .i64 m, .slice (some ⟨b0, o0, none⟩) xs.length c] 43)).drew).size)
          have q2 : w3.cell? ⟨A.ob, i, none⟩ = some (.bool false) := (BW.cell (p := ⟨A.ob, i, none⟩) hob).trans k2
          have q3 : w3.frozen? ⟨A.ob, i, none⟩ = false := (BW.frozen (p := ⟨A.ob, i, none⟩) hob).trans k3
          have q4 : w3.cell? ⟨A.sb, 2, none⟩ = some (.slice (some ⟨A.ob, 0, none⟩) L.length A.co) := (BW.cell (p := ⟨A.sb, 2, none⟩) hsb).trans x2
          go_wp2
          go_loopw [84] (fun j wq => ∃ q : Nat, j = .int .i64 q ∧ q ≤ xs.length - 2 ∧ OpI w0 A L s i 2 q wq) (fun j _ => xs.length - 2 - (intOf j).toNat)
          case atStart => exact ⟨0, rfl, by omega, OpI.start ((T.out.step BW).setOp i) hO.out⟩
          case round =>
            obtain ⟨q, rfl, hq, wv', hT', hO'⟩ := hrel
            have HT := (show Hid (Sea w0 A L ((((ar L i).drop 2).take q).foldl lrn { s with op := s.op.set i true }) wv' wr) from hT')
            have HO := (show Hid (Okk L ((((ar L i).drop 2).take q).foldl lrn { s with op := s.op.set i true })) from hO')
            clear hT' hO'
            by_cases hlt : q < xs.length - 2
            · obtain ⟨a, e1, e2, e3⟩ := arg_at HX.out (j := 2 + q) (by omega)
              have y := vs_cell HT.out hi HLi.out HV.out (j := 2 + q) (by omega)
              rw [e2, ← Nat.add_assoc] at y
              have hqI : (q : Int) < (xs.length - 2 : Nat) := by omega
              rw [← HA.out] at e1
              have HE := (show Hid _ from fold_more (s := { s with op := s.op.set i true }) e1)
              clear e1 e2
              go_wp2_with (first | (go_at_call 67; refine (learn_ok HT HO a (by omega)).mono ?_; rintro ev w9 ⟨⟨v9, rfl⟩, wv9, hT9⟩))
              exact ⟨⟨q + 1, by simp, by omega, wv9, by rw [HE.out]; exact hT9, by rw [HE.out]; exact HO.out.lrn (by omega)⟩, by simp [intOf]; omega⟩
            · obtain rfl : q = xs.length - 2 := by omega
              go_wp2
              go_end0
              exact ⟨⟨_, rfl⟩, OpI.fin (f := 2) ⟨wv', HT.out, HO.out⟩ (by omega) HB.out.1 HB.out.2 hf.out⟩
        · obtain ⟨b, o, hbo, hb, _, hc0⟩ := rdw_some hrd (by omega)
          cases hbo
          by_cases hcf : c = 2
          · subst hcf
            have hcfI : ((2 : Nat) : Int) ≤ (2 : Nat) := by omega
            have hfxI : ((2 : Nat) : Int) ≤ xs.length := by omega
            go_enter Try.func86, Try.ntmps86
            go_wp2
            go_region_held3 (fun w' => w'.cell? ⟨A.sb, 1, none⟩ = some (.slice (some ⟨A.kb, 0, none⟩) L.length A.ck) ∧ w'.cell? ⟨wr.heap.size, 2, none⟩ = some (.slice (some ⟨b0, o0, none⟩) xs.length 2) ∧ w'.cell? ⟨b0, o0 + 1, none⟩ = some (.int .i64 a1) ∧ w'.cell? ⟨b0, o0, none⟩ = some (.int .i64 a0) ∧ w'.cell? ⟨A.kb, a1, none⟩ = some (.bool false))
              (first | exact ⟨z1, z2, z3, z4, z5⟩ | exact ⟨v1, v2, v3, v4, v5⟩)
              (first | (go_at_call 92; refine (owns_ok (wr := (wr.alloc (.cells #[.int .i64 7, .int .i64 m, .slice (some ⟨b0, o0, none⟩) xs.length 2] 43)).drew) (show Hid (Sea w0 A L s wv (wr.alloc (.cells #[.int .i64 7, .int .i64 m, .slice (some ⟨b0, o0, none⟩) xs.length 2] 43)).drew) from T.out.step (((Below.refl _ wr).alloc (Nat.le_refl _) _).drew)) hO HW.out a0 (by omega)).mono ?_; rintro ev w3 ⟨rfl, B3⟩; rw [how.out]; have v1 := (B3.cell (p := ⟨A.sb, 1, none⟩) l1).trans z1; have v2 := (B3.cell (p := ⟨wr.heap.size, 2, none⟩) l2).trans z2; have v3 := (B3.cell (p := ⟨b0, o0 + 1, none⟩) l3).trans z3; have v4 := (B3.cell (p := ⟨b0, o0, none⟩) l3).trans z4; have v5 := (B3.cell (p := ⟨A.kb, a1, none⟩) l5).trans z5))
            simp only [Exit.then]
            go_at_K
            have BW := (((Below.refl _ wr).alloc (Nat.le_refl _) (.cells #[.int .i64 7, .int .i64 m, .slice (some ⟨b0, o0, none⟩) xs.length 2] 43)).drew).trans (B3.mono (((Below.refl _ wr).alloc (Nat.le_refl _) (.cells #[.int .i64 7, .int .i64 m, .slice (some ⟨b0, o0, none⟩) xs.length 2] 43)).drew).size)
            have q2 : w3.cell? ⟨A.ob, i, none⟩ = some (.bool false) := (BW.cell (p := ⟨A.ob, i, none⟩) hob).trans k2
            have q3 : w3.frozen? ⟨A.ob, i, none⟩ = false := (BW.frozen (p := ⟨A.ob, i, none⟩) hob).trans k3
            have q4 : w3.cell? ⟨A.sb, 2, none⟩ = some (.slice (some ⟨A.ob, 0, none⟩) L.length A.co) := (BW.cell (p := ⟨A.sb, 2, none⟩) hsb).trans x2
            go_wp2
            go_loopw [84] (fun j wq => ∃ q : Nat, j = .int .i64 q ∧ q ≤ xs.length - 2 ∧ OpI w0 A L s i 2 q wq) (fun j _ => xs.length - 2 - (intOf j).toNat)
            case atStart => exact ⟨0, rfl, by omega, OpI.start ((T.out.step BW).setOp i) hO.out⟩
            case round =>
              obtain ⟨q, rfl, hq, wv', hT', hO'⟩ := hrel
              have HT := (show Hid (Sea w0 A L ((((ar L i).drop 2).take q).foldl lrn { s with op := s.op.set i true }) wv' wr) from hT')
              have HO := (show Hid (Okk L ((((ar L i).drop 2).take q).foldl lrn { s with op := s.op.set i true })) from hO')
              clear hT' hO'
              obtain rfl : q = xs.length - 2 := by omega
              go_wp2
              go_end0
              exact ⟨⟨_, rfl⟩, OpI.fin (f := 2) ⟨wv', HT.out, HO.out⟩ (by omega) HB.out.1 HB.out.2 hf.out⟩
          · have hcfI : ((2 : Nat) : Int) ≤ c := by omega
            have hfxI : ((2 : Nat) : Int) ≤ xs.length := by omega
            go_enter Try.func86, Try.ntmps86
            go_wp2
            go_region_held3 (fun w' => w'.cell? ⟨A.sb, 1, none⟩ = some (.slice (some ⟨A.kb, 0, none⟩) L.length A.ck) ∧ w'.cell? ⟨wr.heap.size, 2, none⟩ = some (.slice (some ⟨b0, o0, none⟩) xs.length c) ∧ w'.cell? ⟨b0, o0 + 1, none⟩ = some (.int .i64 a1) ∧ w'.cell? ⟨b0, o0, none⟩ = some (.int .i64 a0) ∧ w'.cell? ⟨A.kb, a1, none⟩ = some (.bool false))
              (first | exact ⟨z1, z2, z3, z4, z5⟩ | exact ⟨v1, v2, v3, v4, v5⟩)
              (first | (go_at_call 92; refine (owns_ok (wr := (wr.alloc (.cells #[.int .i64 7, .int .i64 m, .slice (some ⟨b0, o0, none⟩) xs.length c] 43)).drew) (show Hid (Sea w0 A L s wv (wr.alloc (.cells #[.int .i64 7, .int .i64 m, .slice (some ⟨b0, o0, none⟩) xs.length c] 43)).drew) from T.out.step (((Below.refl _ wr).alloc (Nat.le_refl _) _).drew)) hO HW.out a0 (by omega)).mono ?_; rintro ev w3 ⟨rfl, B3⟩; rw [how.out]; have v1 := (B3.cell (p := ⟨A.sb, 1, none⟩) l1).trans z1; have v2 := (B3.cell (p := ⟨wr.heap.size, 2, none⟩) l2).trans z2; have v3 := (B3.cell (p := ⟨b0, o0 + 1, none⟩) l3).trans z3; have v4 := (B3.cell (p := ⟨b0, o0, none⟩) l3).trans z4; have v5 := (B3.cell (p := ⟨A.kb, a1, none⟩) l5).trans z5))
            simp only [Exit.then]
            go_at_K
            have BW := (((Below.refl _ wr).alloc (Nat.le_refl _) (.cells #[.int .i64 7, .int .i64 m, .slice (some ⟨b0, o0, none⟩) xs.length c] 43)).drew).trans (B3.mono (((Below.refl _ wr).alloc (Nat.le_refl _) (.cells #[.int .i64 7, .int .i64 m, .slice (some ⟨b0, o0, none⟩) xs.length c] 43)).drew).size)
            have q2 : w3.cell? ⟨A.ob, i, none⟩ = some (.bool false) := (BW.cell (p := ⟨A.ob, i, none⟩) hob).trans k2
            have q3 : w3.frozen? ⟨A.ob, i, none⟩ = false := (BW.frozen (p := ⟨A.ob, i, none⟩) hob).trans k3
            have q4 : w3.cell? ⟨A.sb, 2, none⟩ = some (.slice (some ⟨A.ob, 0, none⟩) L.length A.co) := (BW.cell (p := ⟨A.sb, 2, none⟩) hsb).trans x2
            go_wp2
            go_loopw [84] (fun j wq => ∃ q : Nat, j = .int .i64 q ∧ q ≤ xs.length - 2 ∧ OpI w0 A L s i 2 q wq) (fun j _ => xs.length - 2 - (intOf j).toNat)
            case atStart => exact ⟨0, rfl, by omega, OpI.start ((T.out.step BW).setOp i) hO.out⟩
            case round =>
              obtain ⟨q, rfl, hq, wv', hT', hO'⟩ := hrel
              have HT := (show Hid (Sea w0 A L ((((ar L i).drop 2).take q).foldl lrn { s with op := s.op.set i true }) wv' wr) from hT')
              have HO := (show Hid (Okk L ((((ar L i).drop 2).take q).foldl lrn { s with op := s.op.set i true })) from hO')
              clear hT' hO'
              obtain rfl : q = xs.length - 2 := by omega
              go_wp2
              go_end0
              exact ⟨⟨_, rfl⟩, OpI.fin (f := 2) ⟨wv', HT.out, HO.out⟩ (by omega) HB.out.1 HB.out.2 hf.out⟩
      · rw [Bool.not_eq_true] at how'
        have how := (show Hid (owns L s.kn a0 = false) from how')
        have hf := (show Hid (frm L s.kn i = none) from (by unfold frm; rw [HK.out, HA1.out, HA0.out, hka, how']; rfl))
        clear how'
        have z1 := (World.cell?_alloc_lt wr (.cells #[.int .i64 7, .int .i64 m, .slice (some ⟨b0, o0, none⟩) xs.length c] 43) ⟨A.sb, 1, none⟩ hsb).trans x1
        have z2 : (wr.alloc (.cells #[.int .i64 7, .int .i64 m, .slice (some ⟨b0, o0, none⟩) xs.length c] 43)).cell? ⟨wr.heap.size, 2, none⟩ = some (.slice (some ⟨b0, o0, none⟩) xs.length c) := by simp [go_sem]
        have z3 := (World.cell?_alloc_lt wr (.cells #[.int .i64 7, .int .i64 m, .slice (some ⟨b0, o0, none⟩) xs.length c] 43) ⟨b0, o0 + 1, none⟩ hb0').trans y1
        have z4 := (World.cell?_alloc_lt wr (.cells #[.int .i64 7, .int .i64 m, .slice (some ⟨b0, o0, none⟩) xs.length c] 43) ⟨b0, o0, none⟩ hb0').trans y0
        have z5 := (World.cell?_alloc_lt wr (.cells #[.int .i64 7, .int .i64 m, .slice (some ⟨b0, o0, none⟩) xs.length c] 43) ⟨A.kb, a1, none⟩ hkb).trans g1
        have l1 : A.sb < (wr.alloc (.cells #[.int .i64 7, .int .i64 m, .slice (some ⟨b0, o0, none⟩) xs.length c] 43)).drew.heap.size := Nat.lt_of_lt_of_le hsb (((Below.refl _ wr).alloc (Nat.le_refl _) (.cells #[.int .i64 7, .int .i64 m, .slice (some ⟨b0, o0, none⟩) xs.length c] 43)).drew).size
        have l2 : wr.heap.size < (wr.alloc (.cells #[.int .i64 7, .int .i64 m, .slice (some ⟨b0, o0, none⟩) xs.length c] 43)).drew.heap.size := by simp [World.drew]
        have l3 : b0 < (wr.alloc (.cells #[.int .i64 7, .int .i64 m, .slice (some ⟨b0, o0, none⟩) xs.length c] 43)).drew.heap.size := Nat.lt_of_lt_of_le hb0' (((Below.refl _ wr).alloc (Nat.le_refl _) (.cells #[.int .i64 7, .int .i64 m, .slice (some ⟨b0, o0, none⟩) xs.length c] 43)).drew).size
        have l5 : A.kb < (wr.alloc (.cells #[.int .i64 7, .int .i64 m, .slice (some ⟨b0, o0, none⟩) xs.length c] 43)).drew.heap.size := Nat.lt_of_lt_of_le hkb (((Below.refl _ wr).alloc (Nat.le_refl _) (.cells #[.int .i64 7, .int .i64 m, .slice (some ⟨b0, o0, none⟩) xs.length c] 43)).drew).size
        have hgo := opn_none (s := s) hf.out
        go_enter Try.func86, Try.ntmps86
        go_wp2
        go_region_held3 (fun w' => w'.cell? ⟨A.sb, 1, none⟩ = some (.slice (some ⟨A.kb, 0, none⟩) L.length A.ck) ∧ w'.cell? ⟨wr.heap.size, 2, none⟩ = some (.slice (some ⟨b0, o0, none⟩) xs.length c) ∧ w'.cell? ⟨b0, o0 + 1, none⟩ = some (.int .i64 a1) ∧ w'.cell? ⟨b0, o0, none⟩ = some (.int .i64 a0) ∧ w'.cell? ⟨A.kb, a1, none⟩ = some (.bool false))
          (first | exact ⟨z1, z2, z3, z4, z5⟩ | exact ⟨v1, v2, v3, v4, v5⟩)
          (first | (go_at_call 92; refine (owns_ok (wr := (wr.alloc (.cells #[.int .i64 7, .int .i64 m, .slice (some ⟨b0, o0, none⟩) xs.length c] 43)).drew) (show Hid (Sea w0 A L s wv (wr.alloc (.cells #[.int .i64 7, .int .i64 m, .slice (some ⟨b0, o0, none⟩) xs.length c] 43)).drew) from T.out.step (((Below.refl _ wr).alloc (Nat.le_refl _) _).drew)) hO HW.out a0 (by omega)).mono ?_; rintro ev w3 ⟨rfl, B3⟩; rw [how.out]; have v1 := (B3.cell (p := ⟨A.sb, 1, none⟩) l1).trans z1; have v2 := (B3.cell (p := ⟨wr.heap.size, 2, none⟩) l2).trans z2; have v3 := (B3.cell (p := ⟨b0, o0 + 1, none⟩) l3).trans z3; have v4 := (B3.cell (p := ⟨b0, o0, none⟩) l3).trans z4; have v5 := (B3.cell (p := ⟨A.kb, a1, none⟩) l5).trans z5))
        simp only [Exit.then]
        go_at_K
        have BW := (((Below.refl _ wr).alloc (Nat.le_refl _) (.cells #[.int .i64 7, .int .i64 m, .slice (some ⟨b0, o0, none⟩) xs.length c] 43)).drew).trans (B3.mono (((Below.refl _ wr).alloc (Nat.le_refl _) (.cells #[.int .i64 7, .int .i64 m, .slice (some ⟨b0, o0, none⟩) xs.length c] 43)).drew).size)
        have q2 : w3.cell? ⟨A.ob, i, none⟩ = some (.bool false) := (BW.cell (p := ⟨A.ob, i, none⟩) hob).trans k2
        have q3 : w3.frozen? ⟨A.ob, i, none⟩ = false := (BW.frozen (p := ⟨A.ob, i, none⟩) hob).trans k3
        have q4 : w3.cell? ⟨A.sb, 2, none⟩ = some (.slice (some ⟨A.ob, 0, none⟩) L.length A.co) := (BW.cell (p := ⟨A.sb, 2, none⟩) hsb).trans x2
        go_wp2
        (try simp only [Exit.inBlock, Exit.then])
        refine bodyPost_ret (results_none rfl _ _ _) rfl ?_
        exact ⟨⟨_, rfl⟩, wv, by rw [hgo]; exact T.out.step (BW)⟩
  have hf := (show Hid (frm L s.kn i = none) from (by unfold frm; rw [HK.out, if_neg h9, if_neg h8, if_neg h6, if_neg h7]; rfl))
  have hgo := opn_none (s := s) hf.out
  go_enter Try.func86, Try.ntmps86
  go_wp2
  (try simp only [Exit.inBlock, Exit.then])
  refine bodyPost_ret (results_none rfl _ _ _) rfl ?_
  exact ⟨⟨_, rfl⟩, wv, by rw [hgo]; exact T.out.step ((Below.refl _ _).alloc (Nat.le_refl _) _)⟩
end Go.Proofs.Ytikbeagcflofhaa
