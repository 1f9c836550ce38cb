/-
  LAYER 25: LogsWant, the walk. Own work.
-/
import Derived.Test.YtgpcmblfcelijaaLWe
namespace Go.Proofs.Ytgpcmblfcelijaa
open Go.RowKit Go.Maps
set_option maxRecDepth 100000
attribute [local go_sem ↓] Go.wp_at_zero Go.wp_at_succ
/-- What the law looks for, from the end on. -/
def Least (S : List Lg) (hv : List Int) (j : Nat) (f : Int) : Prop :=
  (f = -1 ∧ ∀ (k : Nat) (x : Lg), S[k]? = some x → j ≤ k → ¬ hitL x hv) ∨ ∃ (i : Nat) (g : Lg), S[i]? = some g ∧ j ≤ i ∧ hitL g hv ∧ f = (i : Int) ∧ ∀ (k : Nat) (x : Lg), S[k]? = some x → j ≤ k → k < i → ¬ hitL x hv
theorem Least.not {S : List Lg} {hv : List Int} {j : Nat} {f : Int} (h : Least S hv (j + 1) f) {g : Lg} (hg : S[j]? = some g) (hn : ¬ hitL g hv) : Least S hv j f := by
  have one : ∀ (k : Nat) (x : Lg), S[k]? = some x → j ≤ k → j + 1 ≤ k ∨ x = g := by
    intro k x hx hk
    rcases Nat.lt_or_ge j k with h1 | h1
    · exact .inl h1
    · obtain rfl : k = j := by omega
      rw [hg] at hx
      cases hx
      exact .inr rfl
  rcases h with ⟨h1, h2⟩ | ⟨i, x, hx, hi, hh, hf, hl⟩
  · refine .inl ⟨h1, fun k x hx hk => ?_⟩
    rcases one k x hx hk with h | rfl
    · exact h2 k x hx h
    · exact hn
  · refine .inr ⟨i, x, hx, by omega, hh, hf, fun k y hy hk hki => ?_⟩
    rcases one k y hy hk with h | rfl
    · exact hl k y hy h hki
    · exact hn
theorem Least.hit {S : List Lg} {hv : List Int} {j : Nat} {g : Lg} (hg : S[j]? = some g) (hh : hitL g hv) : Least S hv j (j : Int) := .inr ⟨j, g, hg, Nat.le_refl _, hh, rfl, fun k x _ h1 h2 => by omega⟩
theorem want_at {v u : Value} {S : List Lg} {hv : List Int} {ws : World} (h : Logs ws v S) (h4 : S.length ≤ 1000) (hR : Right S) (hu : RdW ws u hv) (h8 : hv.length = 8) {i : Nat} {g : Lg} (hg : S[i]? = some g) (hh : hitL g hv) (hn : ∀ (k : Nat) (x : Lg), S[k]? = some x → k < i → ¬ hitL x hv) {c t bd : Int} (e1 : g.c = c) (e2 : hadOf g hv = t) (e3 : g.xs.getD (t - g.b).toNat 0 = bd) : Calls Try.prog 22 #[v, u] ws fun e w' => e = .returned (.tuple #[.agg #[.int .i64 c, .int .i64 (t + 1), .int .i64 bd], .bool true]) ∧ Below ws.heap.size ws w' := by
  subst e1 e2 e3
  exact want_hit h h4 hR hu h8 hg hh hn
theorem second_hit {S : List Lg} {hv : List Int} (hR : Right S) (h8 : hv.length = 8) {i0 i1 : Nat} {g0 g1 : Lg} (hg0 : S[i0]? = some g0) (hl0 : ∀ (k : Nat) (x : Lg), S[k]? = some x → k < i0 → ¬ hitL x hv) (hg1 : S[i1]? = some g1) (hh1 : hitL g1 (hv.set g0.c.toNat (hadOf g0 hv + 1))) : g0.c ≤ g1.c ∧ (g1.c = g0.c → hadOf g1 (hv.set g0.c.toNat (hadOf g0 hv + 1)) = hadOf g0 hv + 1) := by
  have ok0 := right_ok' hR hg0
  have ok1 := right_ok' hR hg1
  have c0 := ok0.1
  have c8 := ok0.2.1
  have d0 := ok1.1
  rcases Nat.lt_trichotomy i1 i0 with h | h | h
  · exfalso
    have hlt := right_up hR hg1 hg0 h
    refine hl0 i1 g1 hg1 h ?_
    unfold hitL hadOf at hh1 ⊢
    rw [List.getD_eq_getElem?_getD, List.getElem?_set, if_neg (by omega), ← List.getD_eq_getElem?_getD] at hh1
    exact hh1
  · subst h
    rw [hg0] at hg1
    cases hg1
    refine ⟨Int.le_refl _, fun _ => ?_⟩
    have hs : (hv.set g0.c.toNat (hadOf g0 hv + 1)).getD g0.c.toNat 0 = hadOf g0 hv + 1 := by
      rw [List.getD_eq_getElem?_getD, List.getElem?_set, if_pos rfl, if_pos (by omega)]
      rfl
    exact hs
  · have hlt := right_up hR hg0 hg1 h
    exact ⟨by omega, fun h => by omega⟩
theorem Least.first {S : List Lg} {hv : List Int} {f : Int} (h : Least S hv 0 f) {i : Nat} {g : Lg} (hg : S[i]? = some g) (hh : hitL g hv) (hl : ∀ (k : Nat) (x : Lg), S[k]? = some x → k < i → ¬ hitL x hv) : f = (i : Int) := by
  rcases h with ⟨_, h2⟩ | ⟨j, x, hx, _, hx2, rfl, hl2⟩
  · exact absurd hh (h2 i g hg (Nat.zero_le _))
  · rcases Nat.lt_trichotomy i j with h1 | h1 | h1
    · exact absurd hh (hl2 i g hg (Nat.zero_le _) h1)
    · rw [h1]
    · exact absurd hx2 (hl j x hx h1)
theorem Least.none {S : List Lg} {hv : List Int} {f : Int} (h : Least S hv 0 f) (hn : ∀ (k : Nat) (x : Lg), S[k]? = some x → ¬ hitL x hv) : f = -1 := by
  rcases h with ⟨h1, _⟩ | ⟨j, x, hx, _, hx2, _⟩
  · exact h1
  · exact absurd hx2 (hn j x hx)
set_option maxHeartbeats 16000000 in
theorem lwant_low (p : Option Addr) (n cc : Nat) (S : List Lg) (hn : S.length = n) (pv : Option Addr) (nv cv : Nat) (hv : List Int) (hnv : hv.length = nv) (_ : Hid (∀ z ∈ hv, In64 z)) (ws : World) (HS : Hid (Logs ws (.slice p n cc) S)) (HV : Hid (RdW ws (.slice pv nv cv) hv)) (HNC : Hid (NilCap (.slice pv nv cv))) : Calls Try.prog 6 #[.slice p n cc, .slice pv nv cv] ws fun e w' => e = .returned (.bool true) ∧ Below ws.heap.size ws w' := by
  by_cases h8 : nv = 8
  rotate_left
  · have hd : ((nv : Int) != 8) = true := by simp; omega
    go_enter Try.func6, Try.ntmps6
    go_wp2_with (first
      | (go_at_call 8; refine (heavy_ok HS.out).mono ?_; rintro ev ws ⟨rfl, r1, rfl, hr⟩; have R1 := (show Hid _ from hr); clear hr))
    all_goals (
      go_ret
      exact ⟨rfl, Below.refl _ _⟩)
  subst h8
  by_cases hR : Right S
  rotate_left
  · have HR := (show Hid (¬ Right S) from hR)
    clear hR
    go_enter Try.func6, Try.ntmps6
    go_wp2_with (first
      | (go_at_call 8; refine (heavy_ok HS.out).mono ?_; rintro ev ws ⟨rfl, r1, rfl, hr⟩; have R1 := (show Hid _ from hr); clear hr)
      | (go_at_call 11; refine (check_not HS.out (by have := R1.out (by first | assumption | simpa using ‹¬ r1 = true›); omega) HR.out).mono ?_; rintro ev w1 ⟨rfl, B1⟩))
    all_goals first
      | (go_ret; exact ⟨rfl, Below.refl _ _⟩)
      | (go_ret; exact ⟨rfl, B1⟩)
  have HR := (show Hid (Right S) from hR)
  clear hR
  rcases first_hit S hv with ⟨i0, g0, hg0, hh0, hl0⟩ | hnone
  · have hi0 : i0 < S.length := (List.getElem?_eq_some_iff.1 hg0).1
    obtain ⟨b, o, k, m, q, c4, xs, rfl, hb, hsj, hst0⟩ := logs_at HS.out hi0
    rw [hg0] at hsj
    cases hsj
    obtain ⟨k0, k8, m0, m1, x32, xall⟩ := right_ok' HR.out hg0
    simp only at k0 k8 m0 m1 x32 xall
    obtain ⟨k, rfl⟩ : ∃ q : Nat, k = q := ⟨k.toNat, by omega⟩
    obtain ⟨m, rfl⟩ : ∃ q : Nat, m = q := ⟨m.toNat, by omega⟩
    obtain ⟨hh, hhe⟩ : ∃ t, hadOf ⟨k, m, .slice q xs.length c4, xs⟩ hv = t := ⟨_, rfl⟩
    have hgd : hv.getD k 0 = hh := by rw [← hhe]; simp [hadOf]
    have hm1 : (m : Int) ≤ hh := by have := hh0.1; rw [hhe] at this; exact this
    have hm2 : hh < (m : Int) + xs.length := by have := hh0.2; rw [hhe] at this; exact this
    obtain ⟨d, hd⟩ : ∃ d : Nat, hh - (m : Int) = d := ⟨(hh - m).toNat, by omega⟩
    have hdl : d < xs.length := by omega
    have hdI : (d : Int) < xs.length := by omega
    have hd0 : (0 : Int) ≤ d := by omega
    have hk8 : (k : Int) < 8 := k8
    have hw : IntKind.i64.wrap (hh - (m : Int)) = (d : Int) := (IntWalk.i64_in _ (by omega)).trans hd
    have hw1 : IntKind.i64.wrap (hh + 1) = hh + 1 := IntWalk.i64_in _ (by omega)
    have hw2 : IntKind.i64.wrap (hh + 1 + 1) = hh + 1 + 1 := IntWalk.i64_in _ (by omega)
    obtain ⟨bd, hbd⟩ : ∃ t, xs.getD d 0 = t := ⟨_, rfl⟩
    have hbe : xs.getD (hh - (m : Int)).toNat 0 = bd := by rw [hd, Int.toNat_natCast]; exact hbd
    have HG := (show Hid _ from hg0)
    have HH := (show Hid _ from hh0)
    have HL := (show Hid _ from hl0)
    have HE := (show Hid _ from hhe)
    have HGD := (show Hid _ from hgd)
    have HBE := (show Hid _ from hbe)
    have HBD := (show Hid _ from hbd)
    have HST := (show Hid _ from hst0)
    clear hg0 hh0 hl0 hhe hbe hbd hd hgd hst0 xall
    go_enter Try.func6, Try.ntmps6
    go_wp2_with (first
      | (go_at_call 8; refine (heavy_ok HS.out).mono ?_; rintro ev ws ⟨rfl, r1, rfl, hr⟩; have R1 := (show Hid _ from hr); clear hr)
      | (go_at_call 11; have hS50 : S.length ≤ 50 := R1.out (by first | assumption | simpa using ‹¬ r1 = true›); refine (check_yes HS.out (by omega) HR.out).mono ?_; rintro ev w1 ⟨rfl, B1⟩)
      | (go_at_call 22; refine (want_at (HS.out.below B1) (by omega) HR.out (RdW.below HV.out B1) hnv HG.out HH.out HL.out rfl HE.out HBE.out).mono ?_; rintro ev w2 ⟨rfl, B2⟩))
    · go_ret
      exact ⟨rfl, Below.refl _ _⟩
    have B02 := B1.trans (B2.mono B1.size)
    have B03 := B02.alloc B02.size (.cells #[.int .i64 k, .int .i64 (hh + 1), .int .i64 bd] 24)
    have e0 : (w2.alloc (.cells #[.int .i64 k, .int .i64 (hh + 1), .int .i64 bd] 24)).cell? ⟨w2.heap.size, 0, none⟩ = some (.int .i64 k) := by simp [go_sem]
    have e1 : (w2.alloc (.cells #[.int .i64 k, .int .i64 (hh + 1), .int .i64 bd] 24)).cell? ⟨w2.heap.size, 1, none⟩ = some (.int .i64 (hh + 1)) := by simp [go_sem]
    have e2 : (w2.alloc (.cells #[.int .i64 k, .int .i64 (hh + 1), .int .i64 bd] 24)).cell? ⟨w2.heap.size, 2, none⟩ = some (.int .i64 bd) := by simp [go_sem]
    have hh5 : w2.heap.size < (w2.alloc (.cells #[.int .i64 k, .int .i64 (hh + 1), .int .i64 bd] 24)).heap.size := by simp
    have h5w : ws.heap.size ≤ w2.heap.size := B02.size
    clear B1 B2
    generalize w2.alloc (.cells #[.int .i64 k, .int .i64 (hh + 1), .int .i64 bd] 24) = w3 at *
    generalize w2.heap.size = h5 at *
    go_loopw [7, 8] (fun f i wq => ∃ (j : Nat) (fv : Int), i = .int .i64 ((j : Int) - 1) ∧ j ≤ n ∧ f = .int .i64 fv ∧ Least S hv j fv ∧ Below w3.heap.size w3 wq) (fun _ i _ => (intOf i + 1).toNat)
    case atStart => exact ⟨n, -1, rfl, by omega, rfl, .inl ⟨rfl, fun k x hx hk => by have := (List.getElem?_eq_some_iff.1 hx).1; omega⟩, Below.refl _ _⟩
    case round =>
      obtain ⟨j, fv, rfl, hj, rfl, hls, hB⟩ := hrel
      have HLS := (show Hid _ from hls)
      clear hls
      have B5 : Below ws.heap.size ws wr := B03.trans (hB.mono B03.size)
      cases j with
      | succ j =>
        have e1 : ((j + 1 : Nat) : Int) - 1 = (j : Int) := by omega
        rw [e1]
        obtain ⟨bj, oj, kj, mj, qj, cj, ys, hpj, hbj, hsj, hst0⟩ := logs_at HS.out (j := j) (by omega)
        cases hpj
        have hst := hst0.below hbj B5
        obtain ⟨k0, k8, m0, m1, x32, xall⟩ := right_ok' HR.out hsj
        simp only at k0 k8 m0 m1 x32 xall
        have y0 := hst.c
        have y1 := hst.b
        have y2 := hst.v
        simp only at y0 y1 y2
        have HSJ := (show Hid _ from hsj)
        clear hst hst0 hsj xall
        obtain ⟨kj, rfl⟩ : ∃ q : Nat, kj = q := ⟨kj.toNat, by omega⟩
        obtain ⟨bv, ov, hpv, hbv, hcv⟩ := rdw_at (RdW.below HV.out B5) (t := kj) (by omega)
        subst hpv
        have hk8 : (kj : Int) < 8 := k8
        have hjn : (j : Int) < n := by omega
        have hhad : hadOf ⟨kj, mj, .slice qj ys.length cj, ys⟩ hv = hv.getD kj 0 := by simp [hadOf]
        generalize hv.getD kj 0 = hj2 at hcv hhad
        have HHJ := (show Hid _ from hhad)
        clear hhad
        by_cases h2 : mj ≤ hj2
        rotate_left
        · have hd2 : decide (mj ≤ hj2) = false := decide_eq_false h2
          go_wp2
          go_quiet (fail)
          try simp only [Exit.then]
          go_wp2
          exact ⟨⟨j, fv, rfl, by omega, rfl, Least.not HLS.out HSJ.out (fun h => by have h9 := h.1; rw [HHJ.out] at h9; simp only at h9; omega), below_drewN hB _⟩, by simp [intOf]⟩
        have hd2 : decide (mj ≤ hj2) = true := decide_eq_true h2
        by_cases h3 : hj2 < mj + ys.length
        rotate_left
        · have hd3 : decide (hj2 < mj + ys.length) = false := decide_eq_false h3
          go_wp2
          go_quiet (fail)
          try simp only [Exit.then]
          go_wp2
          exact ⟨⟨j, fv, rfl, by omega, rfl, Least.not HLS.out HSJ.out (fun h => by have h9 := h.2; rw [HHJ.out] at h9; simp only at h9; omega), below_drewN hB _⟩, by simp [intOf]⟩
        · have hd3 : decide (hj2 < mj + ys.length) = true := decide_eq_true h3
          go_wp2
          go_quiet (fail)
          try simp only [Exit.then]
          go_wp2
          exact ⟨⟨j, j, rfl, by omega, rfl, Least.hit HSJ.out ⟨by rw [HHJ.out]; exact h2, by rw [HHJ.out]; exact h3⟩, below_drewN hB _⟩, by simp [intOf]⟩
      | zero =>
        have e9 : ((0 : Nat) : Int) - 1 = -1 := rfl
        rw [e9]
        obtain rfl : fv = (i0 : Int) := Least.first HLS.out HG.out HH.out HL.out
        have s0 := (hB.cell (p := ⟨h5, 0, none⟩) hh5).trans e0
        have s1 := (hB.cell (p := ⟨h5, 1, none⟩) hh5).trans e1
        have s2 := (hB.cell (p := ⟨h5, 2, none⟩) hh5).trans e2
        have hst := HST.out.below hb B5
        have x0 := hst.c
        have x1 := hst.b
        have x2 := hst.v
        simp only at x0 x1 x2
        have hin0 : (i0 : Int) < n := by omega
        obtain ⟨bv, ov, hpv, hbv, hcv⟩ := rdw_at (RdW.below HV.out B5) (t := k) (by omega)
        subst hpv
        rw [HGD.out] at hcv
        obtain ⟨bx, ox, hpx, hbx, hcx⟩ := rdw_at (RdW.below HST.out.args B5) (t := d) hdl
        subst hpx
        rw [HBD.out] at hcx
        clear hst
        go_wp2
        go_quiet (fail)
        try simp only [Exit.then]
        have B6 : Below ws.heap.size ws (wr.drewN nq) := below_drewN B5 nq
        have s0' : (wr.drewN nq).cell? ⟨h5, 0, none⟩ = some (.int .i64 k) := s0
        have s1' : (wr.drewN nq).cell? ⟨h5, 1, none⟩ = some (.int .i64 (hh + 1)) := s1
        have s2' : (wr.drewN nq).cell? ⟨h5, 2, none⟩ = some (.int .i64 bd) := s2
        have hh54 : h5 < (wr.drewN nq).heap.size := Nat.lt_of_lt_of_le hh5 hB.size
        have hgk : hv[k]'(by omega) = hh := by
          have := HGD.out
          rw [List.getD_eq_getElem?_getD, List.getElem?_eq_getElem (by omega)] at this
          exact this
        clear s0 s1 s2 x0 x1 x2 hcv hcx
        have s0 := s0'
        have s1 := s1'
        have s2 := s2'
        clear s0' s1' s2'
        generalize wr.drewN nq = w4 at *
        have hset : hv.set ((⟨k, m, .slice (some ⟨bx, ox, none⟩) xs.length c4, xs⟩ : Lg).c.toNat) (hadOf ⟨k, m, .slice (some ⟨bx, ox, none⟩) xs.length c4, xs⟩ hv + 1) = hv.set k (hh + 1) := by rw [HE.out]; simp
        have hsec := fun i1 g1 (h1 : S[i1]? = some g1) => second_hit HR.out hnv HG.out HL.out h1
        rw [hset] at hsec
        have HSEC := (show Hid _ from hsec)
        clear hsec hset
        rcases first_hit S (hv.set k (hh + 1)) with ⟨i1, g1, hg1, hh1, hl1⟩ | hn2
        · obtain ⟨hge, hsq⟩ := HSEC.out i1 g1 hg1 hh1
          rw [HE.out] at hsq
          simp only at hge hsq
          have HG1 := (show Hid _ from hg1)
          have HH1 := (show Hid _ from hh1)
          have HL1 := (show Hid _ from hl1)
          obtain ⟨c1, hc1⟩ : ∃ t, g1.c = t := ⟨_, rfl⟩
          obtain ⟨t1, ht1⟩ : ∃ t, hadOf g1 (hv.set k (hh + 1)) = t := ⟨_, rfl⟩
          obtain ⟨bd1, hb1⟩ : ∃ t, g1.xs.getD (t1 - g1.b).toNat 0 = t := ⟨_, rfl⟩
          rw [hc1] at hge hsq
          rw [ht1] at hsq
          have HC1 := (show Hid _ from hc1)
          have HT1 := (show Hid _ from ht1)
          have HB1 := (show Hid _ from hb1)
          clear hg1 hh1 hl1 hc1 ht1 hb1
          by_cases hck : c1 = k
          · subst hck
            obtain rfl := hsq rfl
            clear hsq
            go_wp2_with (first
              | (go_at_call 10; refine (twin_ok (RdW.below HV.out B6) (by omega) (fun c h => by cases h)).mono ?_; rintro ev w5 ⟨p5, c5, rfl, hown5, B7⟩; rw [hnv] at hown5; simp only [hnv]
                 obtain ⟨gR, rfl, hgb, hgl, _, hcR⟩ := row_open hown5 (by omega)
                 have r0 := hcR k (by omega)
                 rw [List.getElem?_map, List.getElem?_eq_getElem (by omega), hgk] at r0
                 simp only [Option.map_some] at r0
                 have r1 := World.ownsRow.frozenAt hown5 k
                 have st := (World.ownsRow.stored hown5 k (.int .i64 (hh + 1))).1
                 rw [← List.map_set] at st
                 have B8 : Below ws.heap.size ws (w5.setCell ⟨gR, k, none⟩ (.int .i64 (hh + 1))) := (B6.trans (B7.mono B6.size)).setCell (p := ⟨gR, k, none⟩) (by have := B6.size; simp only; omega) _
                 have hne5 : gR ≠ h5 := by omega
                 have t0 := (B7.cell (p := ⟨h5, 0, none⟩) hh54).trans s0
                 have u0 := (World.cell?_setCell_far w5 ⟨gR, k, none⟩ ⟨h5, 0, none⟩ (.int .i64 (hh + 1)) hne5).trans ((B7.cell (p := ⟨h5, 0, none⟩) hh54).trans s0)
                 have u1 := (World.cell?_setCell_far w5 ⟨gR, k, none⟩ ⟨h5, 1, none⟩ (.int .i64 (hh + 1)) hne5).trans ((B7.cell (p := ⟨h5, 1, none⟩) hh54).trans s1)
                 have hh55 : h5 < (w5.setCell ⟨gR, k, none⟩ (.int .i64 (hh + 1))).heap.size := Nat.lt_of_lt_of_le hh54 (Nat.le_trans B7.size (put_grown w5 ⟨gR, k, none⟩ (.int .i64 (hh + 1))).size)
                 have ST := (show Hid _ from st)
                 clear st s0 s1 s2 hcR hown5 B7)
              | (go_at_call 22; have hl8 : (hv.set k (hh + 1)).length = 8 := by rw [List.length_set]; exact hnv
                 have rd8 := (irow_of (xs := hv.set k (hh + 1)) ST.out).reads.rdw
                 refine (want_at (HS.out.below B8) (by omega) HR.out rd8 hl8 HG1.out HH1.out HL1.out HC1.out HT1.out HB1.out).mono ?_; rintro ev w7 ⟨rfl, Bw⟩
                 have v0 := (Bw.cell (p := ⟨h5, 0, none⟩) hh55).trans u0
                 have v1 := (Bw.cell (p := ⟨h5, 1, none⟩) hh55).trans u1
                 have hh57 := Nat.lt_of_lt_of_le hh55 Bw.size
                 have Bq := B8.trans (Bw.mono B8.size)
                 clear u0 u1 Bw)
              | (go_at_call 27; refine (wakes25_ok _).mono ?_; rintro ev w9 ⟨rfl, B10⟩))
            all_goals (
              go_ret
              exact ⟨rfl, (Bq.alloc Bq.size _).trans (B10.mono (Bq.alloc Bq.size _).size)⟩)
          · have hcn : (c1 != (k : Int)) = true := bne_iff_ne.2 hck
            have hdk : decide ((k : Int) ≤ c1) = true := decide_eq_true hge
            clear hsq
            go_wp2_with (first
              | (go_at_call 10; refine (twin_ok (RdW.below HV.out B6) (by omega) (fun c h => by cases h)).mono ?_; rintro ev w5 ⟨p5, c5, rfl, hown5, B7⟩; rw [hnv] at hown5; simp only [hnv]
                 obtain ⟨gR, rfl, hgb, hgl, _, hcR⟩ := row_open hown5 (by omega)
                 have r0 := hcR k (by omega)
                 rw [List.getElem?_map, List.getElem?_eq_getElem (by omega), hgk] at r0
                 simp only [Option.map_some] at r0
                 have r1 := World.ownsRow.frozenAt hown5 k
                 have st := (World.ownsRow.stored hown5 k (.int .i64 (hh + 1))).1
                 rw [← List.map_set] at st
                 have B8 : Below ws.heap.size ws (w5.setCell ⟨gR, k, none⟩ (.int .i64 (hh + 1))) := (B6.trans (B7.mono B6.size)).setCell (p := ⟨gR, k, none⟩) (by have := B6.size; simp only; omega) _
                 have hne5 : gR ≠ h5 := by omega
                 have t0 := (B7.cell (p := ⟨h5, 0, none⟩) hh54).trans s0
                 have u0 := (World.cell?_setCell_far w5 ⟨gR, k, none⟩ ⟨h5, 0, none⟩ (.int .i64 (hh + 1)) hne5).trans ((B7.cell (p := ⟨h5, 0, none⟩) hh54).trans s0)
                 have u1 := (World.cell?_setCell_far w5 ⟨gR, k, none⟩ ⟨h5, 1, none⟩ (.int .i64 (hh + 1)) hne5).trans ((B7.cell (p := ⟨h5, 1, none⟩) hh54).trans s1)
                 have hh55 : h5 < (w5.setCell ⟨gR, k, none⟩ (.int .i64 (hh + 1))).heap.size := Nat.lt_of_lt_of_le hh54 (Nat.le_trans B7.size (put_grown w5 ⟨gR, k, none⟩ (.int .i64 (hh + 1))).size)
                 have ST := (show Hid _ from st)
                 clear st s0 s1 s2 hcR hown5 B7)
              | (go_at_call 22; have hl8 : (hv.set k (hh + 1)).length = 8 := by rw [List.length_set]; exact hnv
                 have rd8 := (irow_of (xs := hv.set k (hh + 1)) ST.out).reads.rdw
                 refine (want_at (HS.out.below B8) (by omega) HR.out rd8 hl8 HG1.out HH1.out HL1.out HC1.out HT1.out HB1.out).mono ?_; rintro ev w7 ⟨rfl, Bw⟩
                 have v0 := (Bw.cell (p := ⟨h5, 0, none⟩) hh55).trans u0
                 have v1 := (Bw.cell (p := ⟨h5, 1, none⟩) hh55).trans u1
                 have hh57 := Nat.lt_of_lt_of_le hh55 Bw.size
                 have Bq := B8.trans (Bw.mono B8.size)
                 clear u0 u1 Bw)
              | (go_at_call 27; refine (wakes25_ok _).mono ?_; rintro ev w9 ⟨rfl, B10⟩))
            all_goals (
              go_ret
              exact ⟨rfl, (Bq.alloc Bq.size _).trans (B10.mono (Bq.alloc Bq.size _).size)⟩)
        · have HN2 := (show Hid _ from hn2)
          clear hn2
          go_wp2_with (first
            | (go_at_call 10; refine (twin_ok (RdW.below HV.out B6) (by omega) (fun c h => by cases h)).mono ?_; rintro ev w5 ⟨p5, c5, rfl, hown5, B7⟩; rw [hnv] at hown5; simp only [hnv]
               obtain ⟨gR, rfl, hgb, hgl, _, hcR⟩ := row_open hown5 (by omega)
               have r0 := hcR k (by omega)
               rw [List.getElem?_map, List.getElem?_eq_getElem (by omega), hgk] at r0
               simp only [Option.map_some] at r0
               have r1 := World.ownsRow.frozenAt hown5 k
               have st := (World.ownsRow.stored hown5 k (.int .i64 (hh + 1))).1
               rw [← List.map_set] at st
               have B8 : Below ws.heap.size ws (w5.setCell ⟨gR, k, none⟩ (.int .i64 (hh + 1))) := (B6.trans (B7.mono B6.size)).setCell (p := ⟨gR, k, none⟩) (by have := B6.size; simp only; omega) _
               have hne5 : gR ≠ h5 := by omega
               have t0 := (B7.cell (p := ⟨h5, 0, none⟩) hh54).trans s0
               have u0 := (World.cell?_setCell_far w5 ⟨gR, k, none⟩ ⟨h5, 0, none⟩ (.int .i64 (hh + 1)) hne5).trans ((B7.cell (p := ⟨h5, 0, none⟩) hh54).trans s0)
               have u1 := (World.cell?_setCell_far w5 ⟨gR, k, none⟩ ⟨h5, 1, none⟩ (.int .i64 (hh + 1)) hne5).trans ((B7.cell (p := ⟨h5, 1, none⟩) hh54).trans s1)
               have hh55 : h5 < (w5.setCell ⟨gR, k, none⟩ (.int .i64 (hh + 1))).heap.size := Nat.lt_of_lt_of_le hh54 (Nat.le_trans B7.size (put_grown w5 ⟨gR, k, none⟩ (.int .i64 (hh + 1))).size)
               have ST := (show Hid _ from st)
               clear st s0 s1 s2 hcR hown5 B7)
            | (go_at_call 22; have hl8 : (hv.set k (hh + 1)).length = 8 := by rw [List.length_set]; exact hnv
               have rd8 := (irow_of (xs := hv.set k (hh + 1)) ST.out).reads.rdw
               refine (want_none (HS.out.below B8) (by omega) HR.out rd8 hl8 HN2.out).mono ?_; rintro ev w7 ⟨rfl, Bw⟩
               have v0 := (Bw.cell (p := ⟨h5, 0, none⟩) hh55).trans u0
               have v1 := (Bw.cell (p := ⟨h5, 1, none⟩) hh55).trans u1
               have hh57 := Nat.lt_of_lt_of_le hh55 Bw.size
               have Bq := B8.trans (Bw.mono B8.size)
               clear u0 u1 Bw)
            | (go_at_call 27; refine (wakes25_ok _).mono ?_; rintro ev w9 ⟨rfl, B10⟩))
          all_goals (
            go_ret
            exact ⟨rfl, (Bq.alloc Bq.size _).trans (B10.mono (Bq.alloc Bq.size _).size)⟩)
  · have HNN := (show Hid _ from hnone)
    clear hnone
    go_enter Try.func6, Try.ntmps6
    go_wp2_with (first
      | (go_at_call 8; refine (heavy_ok HS.out).mono ?_; rintro ev ws ⟨rfl, r1, rfl, hr⟩; have R1 := (show Hid _ from hr); clear hr)
      | (go_at_call 11; have hS50 : S.length ≤ 50 := R1.out (by first | assumption | simpa using ‹¬ r1 = true›); refine (check_yes HS.out (by omega) HR.out).mono ?_; rintro ev w1 ⟨rfl, B1⟩)
      | (go_at_call 22; refine (want_none (HS.out.below B1) (by omega) HR.out (RdW.below HV.out B1) hnv HNN.out).mono ?_; rintro ev w2 ⟨rfl, B2⟩))
    · go_ret
      exact ⟨rfl, Below.refl _ _⟩
    have B02 := B1.trans (B2.mono B1.size)
    have B03 := B02.alloc B02.size (.cells #[.int .i64 0, .int .i64 0, .int .i64 0] 24)
    have e0 : (w2.alloc (.cells #[.int .i64 0, .int .i64 0, .int .i64 0] 24)).cell? ⟨w2.heap.size, 0, none⟩ = some (.int .i64 0) := by simp [go_sem]
    have e1 : (w2.alloc (.cells #[.int .i64 0, .int .i64 0, .int .i64 0] 24)).cell? ⟨w2.heap.size, 1, none⟩ = some (.int .i64 0) := by simp [go_sem]
    have e2 : (w2.alloc (.cells #[.int .i64 0, .int .i64 0, .int .i64 0] 24)).cell? ⟨w2.heap.size, 2, none⟩ = some (.int .i64 0) := by simp [go_sem]
    have hh5 : w2.heap.size < (w2.alloc (.cells #[.int .i64 0, .int .i64 0, .int .i64 0] 24)).heap.size := by simp
    have h5w : ws.heap.size ≤ w2.heap.size := B02.size
    clear B1 B2
    generalize w2.alloc (.cells #[.int .i64 0, .int .i64 0, .int .i64 0] 24) = w3 at *
    generalize w2.heap.size = h5 at *
    go_loopw [7, 8] (fun f i wq => ∃ (j : Nat) (fv : Int), i = .int .i64 ((j : Int) - 1) ∧ j ≤ n ∧ f = .int .i64 fv ∧ Least S hv j fv ∧ Below w3.heap.size w3 wq) (fun _ i _ => (intOf i + 1).toNat)
    case atStart => exact ⟨n, -1, rfl, by omega, rfl, .inl ⟨rfl, fun k x hx hk => by have := (List.getElem?_eq_some_iff.1 hx).1; omega⟩, Below.refl _ _⟩
    case round =>
      obtain ⟨j, fv, rfl, hj, rfl, hls, hB⟩ := hrel
      have HLS := (show Hid _ from hls)
      clear hls
      have B5 : Below ws.heap.size ws wr := B03.trans (hB.mono B03.size)
      cases j with
      | succ j =>
        have e1 : ((j + 1 : Nat) : Int) - 1 = (j : Int) := by omega
        rw [e1]
        obtain ⟨bj, oj, kj, mj, qj, cj, ys, hpj, hbj, hsj, hst0⟩ := logs_at HS.out (j := j) (by omega)
        subst hpj
        have hst := hst0.below hbj B5
        obtain ⟨k0, k8, m0, m1, x32, xall⟩ := right_ok' HR.out hsj
        simp only at k0 k8 m0 m1 x32 xall
        have y0 := hst.c
        have y1 := hst.b
        have y2 := hst.v
        simp only at y0 y1 y2
        have HSJ := (show Hid _ from hsj)
        clear hst hst0 hsj xall
        obtain ⟨kj, rfl⟩ : ∃ q : Nat, kj = q := ⟨kj.toNat, by omega⟩
        obtain ⟨bv, ov, hpv, hbv, hcv⟩ := rdw_at (RdW.below HV.out B5) (t := kj) (by omega)
        subst hpv
        have hk8 : (kj : Int) < 8 := k8
        have hjn : (j : Int) < n := by omega
        have hhad : hadOf ⟨kj, mj, .slice qj ys.length cj, ys⟩ hv = hv.getD kj 0 := by simp [hadOf]
        generalize hv.getD kj 0 = hj2 at hcv hhad
        have HHJ := (show Hid _ from hhad)
        clear hhad
        by_cases h2 : mj ≤ hj2
        rotate_left
        · have hd2 : decide (mj ≤ hj2) = false := decide_eq_false h2
          go_wp2
          go_quiet (fail)
          try simp only [Exit.then]
          go_wp2
          exact ⟨⟨j, fv, rfl, by omega, rfl, Least.not HLS.out HSJ.out (fun h => by have h9 := h.1; rw [HHJ.out] at h9; simp only at h9; omega), below_drewN hB _⟩, by simp [intOf]⟩
        have hd2 : decide (mj ≤ hj2) = true := decide_eq_true h2
        by_cases h3 : hj2 < mj + ys.length
        rotate_left
        · have hd3 : decide (hj2 < mj + ys.length) = false := decide_eq_false h3
          go_wp2
          go_quiet (fail)
          try simp only [Exit.then]
          go_wp2
          exact ⟨⟨j, fv, rfl, by omega, rfl, Least.not HLS.out HSJ.out (fun h => by have h9 := h.2; rw [HHJ.out] at h9; simp only at h9; omega), below_drewN hB _⟩, by simp [intOf]⟩
        · have hd3 : decide (hj2 < mj + ys.length) = true := decide_eq_true h3
          go_wp2
          go_quiet (fail)
          try simp only [Exit.then]
          go_wp2
          exact ⟨⟨j, j, rfl, by omega, rfl, Least.hit HSJ.out ⟨by rw [HHJ.out]; exact h2, by rw [HHJ.out]; exact h3⟩, below_drewN hB _⟩, by simp [intOf]⟩
      | zero =>
        have e9 : ((0 : Nat) : Int) - 1 = -1 := rfl
        rw [e9]
        obtain rfl : fv = -1 := Least.none HLS.out HNN.out
        have s0 := (hB.cell (p := ⟨h5, 0, none⟩) hh5).trans e0
        have s1 := (hB.cell (p := ⟨h5, 1, none⟩) hh5).trans e1
        have s2 := (hB.cell (p := ⟨h5, 2, none⟩) hh5).trans e2
        go_wp2_with (first
          | (go_at_call 24; refine (msg0_ok _).mono ?_; rintro ev w4 ⟨rfl, B4⟩)
          | (go_at_call 27; refine (wakes25_ok _).mono ?_; rintro ev w9 ⟨rfl, B10⟩))
        go_ret
        exact ⟨rfl, B5.trans ((B4.trans (B10.mono B4.size)).mono B5.size)⟩
end Go.Proofs.Ytgpcmblfcelijaa
