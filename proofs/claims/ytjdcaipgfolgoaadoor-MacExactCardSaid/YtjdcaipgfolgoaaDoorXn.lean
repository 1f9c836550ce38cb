/-
  MacRows: its rounds. Own work.
-/
import Derived.Test.YtjdcaipgfolgoaaDoorXm
namespace Go.Proofs.YtjdcaipgfolgoaaDoor
open Go.Sh
open Go.ChangeShapes Go.WideShapes Go.ChangeAt Go.RowKit
set_option maxRecDepth 100000

theorem br_mk_winF {ν : Nat → Int} {ρ : Emb} {w : World} {e T : Nat} {cs : List AV} {pl : Pl} {C : Array Value} {ty : TypeId} {fz : Nat × Nat} (hn : e ≠ mapTag) (h1 : ¬ e ≤ winTag) (h2 : e - mapTag = T) (hC : w.heap[pl.cb]? = some (.cells C ty fz)) (hc : ∀ (j : Nat) c, cs[j]? = some c → ∃ v, C[pl.co + j]? = some v ∧ VR ν ρ c v) (hw : Windowed ν w T cs.length pl) : BR ν ρ w ⟨cs, e, false⟩ pl :=
  ⟨fun _ => ⟨C, ty, fz, hC, hc, fun h => by cases h⟩, fun e9 => absurd e9 hn, fun _ => win_pinB h1 h2 hw⟩
/-- A row that is but read, from now on through a window. -/
theorem BlkR.unpin {ν ν' : Nat → Int} {T t' a' m wd' : Nat} {k : IntKind} {o : Bool} {h' : Nat → AI} {g : Wd} (hT : mapTag < T ∧ T ≤ winTag) (ht' : 0 < t') (hK : pinK T = k) (hK' : pinK (tg t') = k) (hL : ν (pinL T) = (m : Int)) (hA' : ν' (pinA (tg t')) = (a' : Int)) (hL' : ν' (pinL (tg t')) = (m : Int)) (hB : ∀ j, j < m → ν (pinB T j) = g j) (hB' : ∀ j, j < m → (j < a' ∨ a' + wd' ≤ j) → ν' (pinB (tg t') j) = g j) (hf' : ∀ j, j < wd' → (h' j).val ν' = g (a' + j)) (hw : a' + wd' ≤ m) :
    BlkR ν ν' (mv 0 a') ⟨[], T, o⟩ ⟨rowC k h' wd', wg t', false⟩ := by
  intro ρ ρ' w pl hbr
  have hp : Sh.Pinned ν w T pl := (if_pos hT.2 : (if T ≤ winTag then Sh.Pinned ν w T pl else Windowed ν w (T - mapTag) 0 pl) = _).mp (hbr.pin hT.1)
  obtain ⟨C, ty, fz, r1, r2⟩ := hp
  have all : ∀ j, j < m → C[pl.co + j]? = some (.int k (g j)) := fun j hj => by
    have h9 := r2 j (by rw [hL]; omega)
    rw [h9, hK, hB j hj]
  have lrow' : (rowC k h' wd').length = wd' := by simp [rowC]
  refine br_mk_winF (e := wg t') (T := tg t') (wg_no t') (wg_big ht') (wg_sub t') r1 (fun j c hc => ?_) ?_
  · obtain ⟨hj, rfl⟩ := row_get hc
    refine ⟨.int k (g (a' + j)), ?_, ?_⟩
    · show C[pl.co - 0 + a' + j]? = _
      rw [show pl.co - 0 + a' + j = pl.co + (a' + j) by omega]
      exact all _ (by omega)
    · rw [← hf' j hj]
      exact .i _ _
  · rw [lrow']
    refine ⟨C, ty, fz, pl.co, a', r1, hA', by show pl.co - 0 + a' = pl.co + a'; omega, fun j hj hjw => ?_⟩
    have hj : j < m := by rw [hL'] at hj; omega
    rw [all j hj, hK', hB' j hj hjw]
theorem SlotR.unpin {ν ν' : Nat → Int} {D : List Nat} {σ : Nat → Nat} {f : Nat → Pl → Pl} {b b0 a' m wd' : Nat} {k' l l' : AI} {cap : Cap} (hb : b ∈ D) (hσ : σ b = b0) (hf : ∀ pl, f b pl = mv 0 a' pl) (hk' : k'.val ν' = (a' : Int)) (hl : l.val ν = (m : Int)) (hl' : l'.val ν' = (m : Int)) (hw : a' + wd' ≤ m) (hm : m < 4611686018427387904) : SlotR ν ν' D σ f (.sl b0 0 l cap) (.slw b 1 k' wd' l' .any) := by
  subst hσ
  intro ρ ρ' v hA h
  cases h
  rename_i pl n cc h4 h1 h2 h3
  have e3 : n = m := by rw [hl] at h2; omega
  subst e3
  have h9 := hA b hb pl h1
  rw [hf pl] at h9
  have := VR.slw (ν := ν') (ρ := ρ') b 1 k' wd' l' .any (mv 0 a' pl) (pl.co + 0) a' n cc h9 hk' (by show pl.co - 0 + a' = pl.co + 0 + a' * 1; omega) hw hl' trivial h4 hm
  exact this
/-- A row that is but read, through another window. -/
theorem BlkR.winF {ν ν' : Nat → Int} {t t' a a' m wd wd' : Nat} {k : IntKind} {h h' : Nat → AI} {g : Wd} (ht : 0 < t) (ht' : 0 < t') (hK : pinK (tg t) = k) (hK' : pinK (tg t') = k) (hA : ν (pinA (tg t)) = (a : Int)) (hL : ν (pinL (tg t)) = (m : Int)) (hA' : ν' (pinA (tg t')) = (a' : Int)) (hL' : ν' (pinL (tg t')) = (m : Int))
    (hB : ∀ j, j < m → (j < a ∨ a + wd ≤ j) → ν (pinB (tg t) j) = g j) (hf : ∀ j, j < wd → (h j).val ν = g (a + j)) (hB' : ∀ j, j < m → (j < a' ∨ a' + wd' ≤ j) → ν' (pinB (tg t') j) = g j) (hf' : ∀ j, j < wd' → (h' j).val ν' = g (a' + j)) (hw : a' + wd' ≤ m) :
    BlkR ν ν' (mv a a') ⟨rowC k h wd, wg t, false⟩ ⟨rowC k h' wd', wg t', false⟩ := by
  intro ρ ρ' w pl hbr
  obtain ⟨C, ty, fz, q1, q2, _⟩ := hbr.cells (wg_no t)
  have hp := br_win (wg_map t) (wg_big ht) (wg_sub t) hbr
  obtain ⟨C2, ty2, fz2, o, a2, r1, r2, r3, r4⟩ := hp
  rw [q1] at r1
  cases r1
  have ea : a2 = a := by rw [hA] at r2; omega
  subst ea
  have lrow : (rowC k h wd).length = wd := by simp [rowC]
  have lrow' : (rowC k h' wd').length = wd' := by simp [rowC]
  rw [lrow] at r4
  have all : ∀ j, j < m → C[o + j]? = some (.int k (g j)) := fun j hj => by
    by_cases hjw : j < a2 ∨ a2 + wd ≤ j
    · rw [r4 j (by rw [hL]; omega) hjw, hK, hB j hj hjw]
    · obtain ⟨v, u1, u2⟩ := q2 (j - a2) (.i k (h (j - a2))) (by simp [rowC, show j - a2 < wd by omega])
      cases u2
      rw [show pl.co + (j - a2) = o + j by omega] at u1
      rw [u1, hf _ (by omega), show a2 + (j - a2) = j by omega]
  refine br_mk_winF (e := wg t') (T := tg t') (wg_no t') (wg_big ht') (wg_sub t') q1 (fun j c hc => ?_) ?_
  · obtain ⟨hj, rfl⟩ := row_get hc
    refine ⟨.int k (g (a' + j)), ?_, ?_⟩
    · show C[pl.co - a2 + a' + j]? = _
      rw [show pl.co - a2 + a' + j = o + (a' + j) by omega]
      exact all _ (by omega)
    · rw [← hf' j hj]
      exact .i _ _
  · rw [lrow']
    refine ⟨C, ty, fz, o, a', q1, hA', by show pl.co - a2 + a' = o + a'; omega, fun j hj hjw => ?_⟩
    have hj : j < m := by rw [hL'] at hj; omega
    rw [all j hj, hK', hB' j hj hjw]
def lnMr (nk ni n k t : Nat) : Nat := if t = 2 then nk else if t = 4 then ni else if t = 8 then lq k + ni else n
def atMr (ni k t : Nat) : Nat := if t = 8 then lq k + ni else if t = 16 then 32 * k else 0
def nuMr (nk : Nat) (zk : Wd) (ni : Nat) (zi : Wd) (n k : Nat) : Nat → Int := nuR (loE (keyW nk zk) ni zi n k) (lnMr nk ni n k) (atMr ni k) (zE (keyW nk zk) zk ni zi k)
def wR (n k : Nat) : Nat := if 32 * k + 32 ≤ n then 32 else n - 32 * k
section
variable {nk ni n k : Nat} {zk zi : Wd}
theorem nuMr_n : nuMr nk zk ni zi n k 301 = n := (nuR_lo (by decide)).trans rfl
theorem nuMr_i : nuMr nk zk ni zi n k 302 = ((k + 1 : Nat) : Int) := (nuR_lo (by decide)).trans rfl
theorem nuMr_T {j : Nat} (h : j < 32) : nuMr nk zk ni zi n k (200 + j) = exT (keyW nk zk) ni zi k j := by
  unfold nuMr
  rw [nuR_lo (by omega)]
  unfold loE
  rw [if_neg (by omega), if_pos (by omega), Nat.add_sub_cancel_left]
theorem nuMr_S {j : Nat} (h : j < 32) : nuMr nk zk ni zi n k (400 + j) = exT (keyW nk zk) ni zi (k + 1) j := by
  unfold nuMr
  rw [nuR_lo (by omega)]
  unfold loE
  rw [if_neg (by omega), if_neg (by omega), if_neg (by omega), if_neg (by omega), if_pos (by omega), Nat.add_sub_cancel_left]
theorem nuMr_L {t : Nat} (ht : 0 < t) : nuMr nk zk ni zi n k (pinL (tg t)) = (lnMr nk ni n k t : Int) := nuR_L ht
theorem nuMr_A {t : Nat} (ht : 0 < t) : nuMr nk zk ni zi n k (pinA (tg t)) = (atMr ni k t : Int) := nuR_A ht
theorem nuMr_B {t j : Nat} (ht : 0 < t) (hj : j < 1099511627774) : nuMr nk zk ni zi n k (pinB (tg t) j) = zE (keyW nk zk) zk ni zi k t j := nuR_B ht hj
theorem nuMr_L2 : nuMr nk zk ni zi n k (pinL (tg 2)) = (nk : Int) := nuR_L (by decide)
theorem nuMr_L4 : nuMr nk zk ni zi n k (pinL (tg 4)) = (ni : Int) := nuR_L (by decide)
theorem nuMr_L8 : nuMr nk zk ni zi n k (pinL (tg 8)) = ((lq k + ni : Nat) : Int) := nuR_L (by decide)
theorem nuMr_L12 : nuMr nk zk ni zi n k (pinL (tg 12)) = (n : Int) := nuR_L (by decide)
theorem nuMr_L16 : nuMr nk zk ni zi n k (pinL (tg 16)) = (n : Int) := nuR_L (by decide)
theorem nuMr_A8 : nuMr nk zk ni zi n k (pinA (tg 8)) = ((lq k + ni : Nat) : Int) := nuR_A (by decide)
theorem nuMr_A16 : nuMr nk zk ni zi n k (pinA (tg 16)) = ((32 * k : Nat) : Int) := nuR_A (by decide)
theorem nuMr_B2 {j : Nat} (hj : j < 1099511627774) : nuMr nk zk ni zi n k (pinB (tg 2) j) = zk j := nuR_B (by decide) hj
theorem nuMr_B4 {j : Nat} (hj : j < 1099511627774) : nuMr nk zk ni zi n k (pinB (tg 4) j) = zi j := nuR_B (by decide) hj
theorem nuMr_B8 {j : Nat} (hj : j < 1099511627774) : nuMr nk zk ni zi n k (pinB (tg 8) j) = xtW k (exT (keyW nk zk) ni zi k) ni zi j := nuR_B (by decide) hj
theorem nuMr_B12 {j : Nat} (hj : j < 1099511627774) : nuMr nk zk ni zi n k (pinB (tg 12) j) = exW (keyW nk zk) ni zi j := nuR_B (by decide) hj
theorem nuMr_B16 {j : Nat} (hj : j < 1099511627774) : nuMr nk zk ni zi n k (pinB (tg 16) j) = exW (keyW nk zk) ni zi j := nuR_B (by decide) hj
theorem wR_le (n k : Nat) : wR n k ≤ 32 := by unfold wR; split <;> omega
theorem wR_fit (h : 32 * k < n) : 32 * k + wR n k ≤ n := by unfold wR; split <;> omega
theorem atR_val {j : Nat} (h : k ≤ 1000) (hj : j ≤ 100) : (atR j).val (nuMr nk zk ni zi n k) = ((32 * k + j : Nat) : Int) := by
  show IntKind.i64.wrap (nuMr nk zk ni zi n k (pinA (tg 16)) + ((j : Nat) : Int)) = _
  rw [nuMr_A16, i64_small (by omega) (by omega)]
  omega
theorem fRw_hold {q : Bool} {u : Hd} (hq : q = decide (k ≠ 0)) (hu : u.Fits ni) (hni : ni ≤ 1000) (hk : k ≤ 1000) (hlt : 32 * k < n) : (fRw q u (wR n k)).Hold (nuMr nk zk ni zi n k) := by
  have hk2 := lq_le k
  have hw := wR_le n k
  have hfit := wR_fit hlt
  refine ⟨fun p hp => (by cases hp), fun p hp => ?_, fun p hp => ?_⟩
  · rcases List.mem_append.1 hp with hp | hp
    · simp only [List.mem_cons, List.not_mem_nil, or_false] at hp
      subst hp
      show decide (nuMr nk zk ni zi n k (pinA (tg 16)) < nuMr nk zk ni zi n k 301) = true
      rw [nuMr_A16, nuMr_n]
      exact decide_eq_true (by omega)
    rcases List.mem_append.1 hp with hp | hp
    · obtain ⟨i, hi, hp⟩ := List.mem_flatMap.1 hp
      have hi := List.mem_range.1 hi
      simp only [stR, List.mem_cons, List.not_mem_nil, or_false] at hp
      rcases hp with rfl | rfl
      · show decide ((atR i).val (nuMr nk zk ni zi n k) < nuMr nk zk ni zi n k 301) = true
        rw [atR_val hk (by omega), nuMr_n]
        exact decide_eq_true (by omega)
      · show (nuMr nk zk ni zi n k (400 + i) != nuMr nk zk ni zi n k (400 + i)) = false
        simp
    rcases List.mem_append.1 hp with hp | hp
    · by_cases c : wR n k < 32
      · rw [if_pos (by simpa using c)] at hp
        simp only [List.mem_cons, List.not_mem_nil, or_false] at hp
        subst hp
        show decide ((atR (wR n k)).val (nuMr nk zk ni zi n k) < nuMr nk zk ni zi n k 301) = false
        rw [atR_val hk (by omega), nuMr_n]
        refine decide_eq_false ?_
        unfold wR at c ⊢
        split at c <;> rename_i c2
        · omega
        · rw [if_neg c2]
          omega
      · rw [if_neg (by simpa using c)] at hp
        cases hp
    · cases u
      · exact nomatch (show p ∈ ([] : List Cm) from hp)
      · exact nomatch (show p ∈ ([] : List Cm) from hp)
      · have h0 : 0 < ni := hu
        simp only [List.mem_cons, List.not_mem_nil, or_false] at hp
        rcases hp with rfl | rfl | rfl | rfl
        · show decide (nuMr nk zk ni zi n k (pinL (tg 4)) > 0) = true
          rw [nuMr_L4]
          exact decide_eq_true (by omega)
        · show decide (nuMr nk zk ni zi n k (pinL (tg 4)) < 1099511627776) = true
          rw [nuMr_L4]
          exact decide_eq_true (by omega)
        · show (nuMr nk zk ni zi n k (pinA (tg 8)) == nuMr nk zk ni zi n k (pinL (tg 8))) = true
          rw [nuMr_A8, nuMr_L8]
          exact beq_self_eq_true _
        · show decide (nuMr nk zk ni zi n k (pinL (tg 8)) < 1099511627776) = true
          rw [nuMr_L8]
          exact decide_eq_true (by omega)
  · cases u
    · exact nomatch (show p ∈ ([] : List (Nat × List AI × Nat × Nat)) from hp)
    · exact nomatch (show p ∈ ([] : List (Nat × List AI × Nat × Nat)) from hp)
    · have hp : p ∈ [(0, (List.range (if q then 32 else 0)).map (nmA 200), tg 4, tg 8)] := hp
      simp only [List.mem_cons, List.not_mem_nil, or_false] at hp
      subst hp
      refine ⟨by show 0 ≤ nuMr nk zk ni zi n k (pinL (tg 8)); rw [nuMr_L8]; omega, ?_⟩
      show lst _ (tg 8) = lst0 _ 0 ++ ((List.range (if q then 32 else 0)).map (nmA 200)).map (AI.val _) ++ lst0 _ (tg 4)
      rw [lst0_zero, lst0_row _ (tgT (by decide) (by decide)).1, List.nil_append, List.map_map, lq_q hq]
      refine List.ext_getElem? fun j => ?_
      rw [lst_get nuMr_L8, List.getElem?_append, lst_get nuMr_L4]
      simp only [List.length_map, List.length_range]
      by_cases hj : j < lq k
      · rw [if_pos (by omega), if_pos hj, nuMr_B8 (by omega)]
        simp only [List.getElem?_map, List.getElem?_range, hj, Option.map_some, Function.comp_apply]
        refine congrArg some ?_
        show xtW k (exT (keyW nk zk) ni zi k) ni zi j = nuMr nk zk ni zi n k (200 + j)
        rw [nuMr_T (by omega)]
        exact if_pos hj
      · rw [if_neg hj]
        by_cases hn2 : j < lq k + ni
        · rw [if_pos hn2, if_pos (by omega), nuMr_B8 (by omega), nuMr_B4 (by omega)]
          refine congrArg some ?_
          unfold xtW
          rw [if_neg hj, if_pos hn2]
        · rw [if_neg hn2, if_neg (by omega)]
theorem byEx_valW : byEx.val (nuMr nk zk ni zi n k) = IntKind.u8.wrap ((k + 1 : Nat) : Int) := by
  show IntKind.u8.wrap (nuMr nk zk ni zi n k 302) = _
  rw [nuMr_i]
theorem txRw_text {q : Bool} {u : Hd} (hq : q = decide (k ≠ 0)) (hu : u.Fits ni) (hni : ni ≤ 1000) : IsText (nuMr nk zk ni zi n k) (txRb q u) (txRw q u) (lq k + ni + 1) (xtW k (exT (keyW nk zk) ni zi k) ni zi) := by
  have hk2 := lq_le k
  have last : ∀ j, j = lq k + ni → xtW k (exT (keyW nk zk) ni zi k) ni zi j = IntKind.u8.wrap ((k + 1 : Nat) : Int) := fun j hj => by
    unfold xtW
    rw [if_neg (by omega), if_neg (by omega)]
  have known : ni = 0 → ∀ b : Nat, IsText (nuMr nk zk ni zi n k) [(b, ⟨rowC .u8 (exTf q) (if q then 33 else 1), eU, true⟩)] (.sl b 0 (nA (if q then 33 else 1)) (.own 1)) (lq k + ni + 1) (xtW k (exT (keyW nk zk) ni zi k) ni zi) := fun h0 b => by
    subst h0
    have hl : (if q then 33 else 1) = lq k + 0 + 1 := by
      have := lq_q hq
      cases q
      · show 1 = _
        have : 0 = lq k := this
        omega
      · show 33 = _
        have : 32 = lq k := this
        omega
    rw [hl]
    refine isText_row (off := 0) (n := lq k + 0 + 1) (f := exTf q) (e := eU) (own := true) List.mem_cons_self (by decide) (by omega) (by omega) fun j hj => ?_
    rw [Nat.zero_add]
    have hlq := lq_q hq
    unfold exTf
    cases q
    · have hlq : 0 = lq k := hlq
      rw [if_neg (by decide), byEx_valW, last j (by omega)]
    · have hlq : 32 = lq k := hlq
      rw [if_pos rfl]
      by_cases c : j < 32
      · rw [if_pos (by simpa using c)]
        show nuMr nk zk 0 zi n k (200 + j) = _
        rw [nuMr_T c]
        exact (if_pos (by omega)).symm
      · rw [if_neg (by simpa using c), byEx_valW, last j (by omega)]
  cases u
  · exact known hu _
  · exact known hu _
  · have hu : 0 < ni := hu
    refine isText_winG (t := 8) (a := lq k + ni) (wd := 1) (h := fun _ => byEx) List.mem_cons_self (by decide) (tg_Ke (by decide)) rfl nuMr_A8 nuMr_L8 ?_ (fun j hj => ?_) (fun j hj => ?_) (by omega)
    · show IntKind.i64.wrap (nuMr nk zk ni zi n k (pinA (tg 8)) + ((1 : Nat) : Int)) = _
      rw [nuMr_A8, i64_small (by omega) (by omega)]
      omega
    · exact nuMr_B8 (by omega)
    · rw [byEx_valW, last _ (by omega)]
theorem rwMr_ok {q : Bool} {s u : Hd} (hq : q = decide (k ≠ 0)) (hs : s.Fits nk) (hu : u.Fits ni) (hnk : nk ≤ 1000) (hni : ni ≤ 1000) : ∀ r ∈ rwMr q s u, r.Ok (nuMr nk zk ni zi n k) Tryd.prog gl256 := by
  have hk2 := lq_le k
  intro r hr
  simp only [rwMr, List.mem_cons, List.not_mem_nil, or_false] at hr
  subst hr
  refine rowMac_T ((hd_text (blk := 64) (t := 2) (z := zk) hs (tgT (by decide) (by decide)) (tg_Ke (by decide)) nuMr_L2 fun j hj => nuMr_B2 (by omega)).mono fun p hp => List.mem_append_left _ hp) ((txRw_text hq hu hni).mono fun p hp => List.mem_append_right _ hp) (by omega) (by omega) fun j hj => ?_
  rw [nm_val, nuMr_S hj]
  rfl
end
end Go.Proofs.YtjdcaipgfolgoaaDoor
