/-
  The page's Expand: what it answers. Own work.
-/
import Derived.Test.YtjdcaipgfolgoaaDoorXo
import Derived.Test.YtjdcaipgfolgoaaDoorXq
import Derived.Test.YtjdcaipgfolgoaaDoorXr
namespace Go.Proofs.YtjdcaipgfolgoaaDoor
open Go.Sh
open Go.ChangeShapes Go.WideShapes Go.ChangeAt Go.RowKit
set_option maxRecDepth 100000

/-- A row of one's own that is known, from now on through a window. -/
theorem BlkR.openN {ν ν' : Nat → Int} {t' e m a' : Nat} {k : IntKind} {h h' : Nat → AI} {g : Wd} (he : e < mapTag) (ht' : 0 < t') (hK' : pinK (tg t') = k) (hA' : ν' (pinA (tg t')) = (a' : Int)) (hL' : ν' (pinL (tg t')) = (m : Int)) (hg : ∀ j, j < m → (h j).val ν = g j) (hB' : ∀ j, j < m → ν' (pinB (tg t') j) = g j) (hw : a' ≤ m) : BlkR ν ν' (mv 0 a') ⟨rowC k h m, e, true⟩ ⟨rowC k h' 0, wg t', true⟩ := by
  intro ρ ρ' w pl hbr
  obtain ⟨C, ty, fz, q1, q2, q3⟩ := hbr.cells (Nat.ne_of_lt he)
  obtain ⟨rfl, q4⟩ := q3 rfl
  exact own_mk (a := 0) (a' := a') (wd' := 0) (o := pl.co) (m := m) (g := g) ht' hK' hA' hL' q1 q4 rfl (fun j hj => by
    obtain ⟨v, u1, u2⟩ := q2 j (.i k (h j)) (by simp [rowC, hj])
    cases u2
    rw [u1, hg j hj]) (fun j hj _ => hB' j hj) (fun j hj => absurd hj (Nat.not_lt_zero j)) hw
theorem SlotR.openN {ν ν' : Nat → Int} {D : List Nat} {σ : Nat → Nat} {f : Nat → Pl → Pl} {b b0 a' m : Nat} {k' l' : AI} (hb : b ∈ D) (hσ : σ b = b0) (hf : ∀ pl, f b pl = mv 0 a' pl) (hk' : k'.val ν' = (a' : Int)) (hl' : l'.val ν' = (m : Int)) (hw : a' ≤ m) (hm : m < 4611686018427387904) : SlotR ν ν' D σ f (.sl b0 0 (nA m) (.own 1)) (.slw b 1 k' 0 l' (.own 1)) := by
  subst hσ
  intro ρ ρ' v hA h
  cases h
  rename_i pl n cc h4 h1 h2 h3
  have h9 := hA b hb pl h1
  rw [hf pl] at h9
  have hm2 : ((m : Nat) : Int) = (n : Int) := h2
  have hm2 : n = m := by omega
  subst hm2
  have h3 : pl.co + 0 + cc * 1 ≤ pl.tot := h3
  exact .slw b 1 k' 0 l' (.own 1) (mv 0 a' pl) (pl.co + 0) a' n cc h9 hk' (by show pl.co - 0 + a' = pl.co + 0 + a' * 1; omega) (by omega) hl' (show pl.co + 0 + 0 + cc * 1 ≤ pl.tot by omega) h4 hm
section
variable {nk ni n k : Nat} {zk zi : Wd}
theorem fPx_hold {q : Bool} {u : Hd} (hq : q = decide (k ≠ 0)) (hu : u.Fits ni) (hni : ni < 800000000) (hk : k < 1000) (hlt : 32 * k < n) : (fPx q u).Hold (nuE nk zk ni zi n k) := by
  have hk2 := lq_le k
  have eA : ((atE ni k 8 : Nat) : Int) = ((lq k + ni : Nat) : Int) := rfl
  refine ⟨fun p hp => (by cases hp), fun p hp => ?_, fun p hp => ?_⟩
  · rcases List.mem_append.1 hp with hp | hp
    · simp only [List.mem_cons, List.not_mem_nil, or_false] at hp
      subst hp
      cases q
      · have : k = 0 := by simpa using hq.symm
        subst this
        show decide (0 < nuE nk zk ni zi n 0 301) = true
        rw [nuE_n]
        exact decide_eq_true (by omega)
      · show decide (nuE nk zk ni zi n k (pinA (tg 6)) < nuE nk zk ni zi n k 301) = true
        rw [nuE_A (by decide), nuE_n]
        exact decide_eq_true (show ((32 * k : Nat) : Int) < (n : Int) by omega)
    rcases List.mem_append.1 hp with hp | hp
    · cases q
      · exact nomatch (show p ∈ ([] : List Cm) from hp)
      · have hp : p ∈ ([(.eql, pAe 6, .s (pinL (tg 6)), true), (.lss, .s (pinL (tg 6)), .c 1099511627776, true)] : List Cm) := hp
        simp only [List.mem_cons, List.not_mem_nil, or_false] at hp
        rcases hp with rfl | rfl
        · show (nuE nk zk ni zi n k (pinA (tg 6)) == nuE nk zk ni zi n k (pinL (tg 6))) = true
          rw [nuE_A (by decide), nuE_L (by decide)]
          exact beq_self_eq_true _
        · show decide (nuE nk zk ni zi n k (pinL (tg 6)) < 1099511627776) = true
          rw [nuE_L (by decide)]
          exact decide_eq_true (show ((32 * k : Nat) : Int) < 1099511627776 by omega)
    · cases u
      · exact nomatch (show p ∈ ([] : List Cm) from hp)
      · exact nomatch (show p ∈ ([] : List Cm) from hp)
      · have h0 : 0 < ni := hu
        simp only [List.mem_cons, List.not_mem_nil, or_false] at hp
        rcases hp with rfl | rfl | rfl | rfl
        · show decide (nuE nk zk ni zi n k (pinL (tg 4)) > 0) = true
          rw [nuE_L (by decide)]
          exact decide_eq_true (show ((ni : Nat) : Int) > 0 by omega)
        · show decide (nuE nk zk ni zi n k (pinL (tg 4)) < 1099511627776) = true
          rw [nuE_L (by decide)]
          exact decide_eq_true (show ((ni : Nat) : Int) < 1099511627776 by omega)
        · show (nuE nk zk ni zi n k (pinA (tg 8)) == nuE nk zk ni zi n k (pinL (tg 8))) = true
          rw [nuE_A (by decide), nuE_L (by decide)]
          exact beq_self_eq_true _
        · show decide (nuE nk zk ni zi n k (pinL (tg 8)) < 1099511627776) = true
          rw [nuE_L (by decide)]
          exact decide_eq_true (show ((lq k + ni : Nat) : Int) < 1099511627776 by omega)
  · cases u
    · exact nomatch (show p ∈ ([] : List (Nat × List AI × Nat × Nat)) from hp)
    · exact nomatch (show p ∈ ([] : List (Nat × List AI × Nat × Nat)) from hp)
    · exact (fXr_hold (nk := nk) (zk := zk) (zi := zi) (q := q) (u := .c) hq hu hni hk hlt).cat p hp
theorem pxT_text {q : Bool} {u : Hd} (hq : q = decide (k ≠ 0)) (hu : u.Fits ni) (hni : ni < 800000000) : IsText (nuE nk zk ni zi n k) (pxTb q u) (pxT q u) (lq k + ni + 1) (xtW k (exT (keyW nk zk) ni zi k) ni zi) := by
  have hk2 := lq_le k
  have last : ∀ j, j = lq k + ni → xtW k (exT (keyW nk zk) ni zi k) ni zi j = IntKind.u8.wrap ((k + 1 : Nat) : Int) := fun j hj => by
    unfold xtW
    rw [if_neg (by omega), if_neg (by omega)]
  have known : ni = 0 → ∀ b : Nat, IsText (nuE nk zk ni zi n k) [(b, ⟨rowC .u8 (exTf q) (if q then 33 else 1), eU, true⟩)] (.sl b 0 (nA (if q then 33 else 1)) (.own 1)) (lq k + ni + 1) (xtW k (exT (keyW nk zk) ni zi k) ni zi) := fun h0 b => by
    subst h0
    have hl : (if q then 33 else 1) = lq k + 0 + 1 := by
      have := lq_q hq
      cases q
      · show 1 = _
        have : 0 = lq k := this
        omega
      · show 33 = _
        have : 32 = lq k := this
        omega
    rw [hl]
    refine isText_row (off := 0) (n := lq k + 0 + 1) (f := exTf q) (e := eU) (own := true) List.mem_cons_self (by decide) (by omega) (by omega) fun j hj => ?_
    rw [Nat.zero_add]
    have hlq := lq_q hq
    unfold exTf
    cases q
    · have hlq : 0 = lq k := hlq
      rw [if_neg (by decide), byEx_val, last j (by omega)]
    · have hlq : 32 = lq k := hlq
      rw [if_pos rfl]
      by_cases c : j < 32
      · rw [if_pos (by simpa using c)]
        show nuE nk zk 0 zi n k (200 + j) = _
        rw [nuE_T c]
        exact (if_pos (by omega)).symm
      · rw [if_neg (by simpa using c), byEx_val, last j (by omega)]
  cases u
  · exact known hu _
  · exact known hu _
  · have hu : 0 < ni := hu
    refine isText_winG (t := 8) (a := lq k + ni) (wd := 1) (h := fun _ => byEx) List.mem_cons_self (by decide) (tg_Ke (by decide)) rfl (nuE_A (by decide)) (nuE_L (by decide)) ?_ (fun j hj => ?_) (fun j hj => ?_) (by omega)
    · show IntKind.i64.wrap (nuE nk zk ni zi n k (pinA (tg 8)) + ((1 : Nat) : Int)) = _
      rw [nuE_A (by decide)]
      have e : ((atE ni k 8 : Nat) : Int) = ((lq k + ni : Nat) : Int) := rfl
      rw [e, i64_small (by omega) (by omega)]
      omega
    · rw [nuE_B (by decide) (by omega)]
      rfl
    · rw [byEx_val, last _ (by omega)]
theorem xtW_bytes {K : Wd} (hb : Bytes zi ni) : Bytes (xtW k (exT K ni zi k) ni zi) (lq k + ni + 1) := fun j hj => by
  unfold xtW
  by_cases c : j < lq k
  · rw [if_pos c]
    cases k with
    | zero => exact absurd c (Nat.not_lt_zero j)
    | succ k =>
      rw [exT_succ]
      exact sum_bytes _ _ (j + 1) j (Nat.lt_succ_self j)
  · rw [if_neg c]
    by_cases c2 : j < lq k + ni
    · rw [if_pos c2]
      exact hb _ (by omega)
    · rw [if_neg c2]
      exact wrap_u8 _
theorem pxMr_ok {q : Bool} {s u : Hd} (hq : q = decide (k ≠ 0)) (hs : s.Fits nk) (hu : u.Fits ni) (hbk : Bytes zk nk) (hbi : Bytes zi ni) (hnk : nk < 1000000000) (hni : ni < 800000000) : ∀ r ∈ pxMr q s u, r.Ok (nuE nk zk ni zi n k) Tryd.prog gl256 := by
  have hk2 := lq_le k
  intro r hr
  simp only [pxMr, List.mem_cons, List.not_mem_nil, or_false] at hr
  subst hr
  refine rowPM_T ((hd_text (blk := 64) (t := 2) (z := zk) hs (tgT (by decide) (by decide)) (tg_Ke (by decide)) (nuE_L (by decide)) fun j hj => nuE_B (by decide) (by omega)).mono fun p hp => List.mem_append_left _ hp) ((pxT_text hq hu hni).mono fun p hp => List.mem_append_right _ hp) hbk (xtW_bytes hbi) hnk (by omega) fun j hj => ?_
  rw [nm_val, nuE_S hj]
  rfl
end
end Go.Proofs.YtjdcaipgfolgoaaDoor
