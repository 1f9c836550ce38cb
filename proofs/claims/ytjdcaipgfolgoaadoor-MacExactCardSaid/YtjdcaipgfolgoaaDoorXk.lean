/-
  mac.Expand: what it answers. Own work.
-/
import Derived.Test.YtjdcaipgfolgoaaDoorXj
namespace Go.Proofs.YtjdcaipgfolgoaaDoor
open Go.Sh
open Go.ChangeShapes Go.WideShapes Go.ChangeAt Go.RowKit
set_option maxRecDepth 100000

theorem nA_val {ν : Nat → Int} {n : Nat} : (nA n).val ν = ((n : Nat) : Int) := rfl
theorem IsText.mono {ν : Nat → Int} {a b : Gl} {x : AV} {n : Nat} {z : Wd} (h : IsText ν a x n z) (hs : ∀ p ∈ a, p ∈ b) : IsText ν b x n z := fun ρ w u hn hu => h ρ w u (fun p hp => hn p (hs p hp)) hu
def loE (K : Wd) (ni : Nat) (zi : Wd) (n k : Nat) : Nat → Int := fun j => if j < 200 then 0 else if j < 232 then exT K ni zi k (j - 200) else if j = 301 then (n : Int) else if j = 302 then ((k + 1 : Nat) : Int) else if 400 ≤ j then exT K ni zi (k + 1) (j - 400) else 0
def lnE (nk ni k t : Nat) : Nat := if t = 2 then nk else if t = 4 then ni else if t = 8 then lq k + ni else 32 * k
def atE (ni k t : Nat) : Nat := if t = 6 then 32 * k else if t = 8 then lq k + ni else 0
def zE (K zk : Wd) (ni : Nat) (zi : Wd) (k t : Nat) : Wd := if t = 2 then zk else if t = 4 then zi else if t = 8 then xtW k (exT K ni zi k) ni zi else exW K ni zi
def nuE (nk : Nat) (zk : Wd) (ni : Nat) (zi : Wd) (n k : Nat) : Nat → Int := nuR (loE (keyW nk zk) ni zi n k) (lnE nk ni k) (atE ni k) (zE (keyW nk zk) zk ni zi k)
section
variable {nk ni n k : Nat} {zk zi : Wd}
theorem nuE_n : nuE nk zk ni zi n k 301 = n := (nuR_lo (by decide)).trans rfl
theorem nuE_i : nuE nk zk ni zi n k 302 = ((k + 1 : Nat) : Int) := (nuR_lo (by decide)).trans rfl
theorem nuE_T {j : Nat} (h : j < 32) : nuE nk zk ni zi n k (200 + j) = exT (keyW nk zk) ni zi k j := by
  unfold nuE
  rw [nuR_lo (by omega)]
  unfold loE
  rw [if_neg (by omega), if_pos (by omega), Nat.add_sub_cancel_left]
theorem nuE_S {j : Nat} (h : j < 32) : nuE nk zk ni zi n k (400 + j) = exT (keyW nk zk) ni zi (k + 1) j := by
  unfold nuE
  rw [nuR_lo (by omega)]
  unfold loE
  rw [if_neg (by omega), if_neg (by omega), if_neg (by omega), if_neg (by omega), if_pos (by omega), Nat.add_sub_cancel_left]
theorem nuE_L {t : Nat} (ht : 0 < t) : nuE nk zk ni zi n k (pinL (tg t)) = (lnE nk ni k t : Int) := nuR_L ht
theorem nuE_A {t : Nat} (ht : 0 < t) : nuE nk zk ni zi n k (pinA (tg t)) = (atE ni k t : Int) := nuR_A ht
theorem nuE_B {t j : Nat} (ht : 0 < t) (hj : j < 1099511627774) : nuE nk zk ni zi n k (pinB (tg t) j) = zE (keyW nk zk) zk ni zi k t j := nuR_B ht hj
theorem lq_le (k : Nat) : lq k ≤ 32 := by unfold lq; split <;> omega
theorem lq_q {q : Bool} (hq : q = decide (k ≠ 0)) : (if q then 32 else 0) = lq k := by
  subst hq
  unfold lq
  by_cases h : k = 0
  · subst h; rfl
  · rw [if_neg h, if_pos (by simpa using h)]
theorem tgT {t : Nat} (h0 : 0 < t) (h1 : t < 1000) : mapTag < tg t ∧ tg t ≤ winTag := by
  unfold tg winTag mapTag
  omega
theorem lxE_val {q : Bool} (hq : q = decide (k ≠ 0)) (hni : ni < 800000000) : (lxE q).val (nuE nk zk ni zi n k) = ((lq k + ni + 1 : Nat) : Int) := by
  have hk := lq_le k
  have e : ((if q then 32 else 0 : Nat) : Int) = ((lq k : Nat) : Int) := congrArg _ (lq_q hq)
  show IntKind.i64.wrap (IntKind.i64.wrap (((if q then 32 else 0 : Nat) : Int) + nuE nk zk ni zi n k (pinL (tg 4))) + ((1 : Nat) : Int)) = _
  rw [nuE_L (by decide), e]
  have e4 : ((lnE nk ni k 4 : Nat) : Int) = (ni : Int) := rfl
  rw [e4, i64_small (a := ((lq k : Nat) : Int) + (ni : Int)) (by omega) (by omega), i64_small (by omega) (by omega)]
  omega
theorem fXr_hold {q : Bool} {u : Hd} (hq : q = decide (k ≠ 0)) (hu : u.Fits ni) (hni : ni < 800000000) (hk : k < 1000) (hlt : 32 * k < n) : (fXr q u).Hold (nuE nk zk ni zi n k) := by
  have hk2 := lq_le k
  have base : ∀ p ∈ ([(.lss, pAe 6, .s 301, true), (.eql, pAe 6, .s (pinL (tg 6)), true), (.lss, .s (pinL (tg 6)), .c 1099511627776, true)] : List Cm), compare p.1 (p.2.1.val (nuE nk zk ni zi n k)) (p.2.2.1.val (nuE nk zk ni zi n k)) = p.2.2.2 := fun p hp => by
    simp only [List.mem_cons, List.not_mem_nil, or_false] at hp
    rcases hp with rfl | rfl | rfl
    · show decide (nuE nk zk ni zi n k (pinA (tg 6)) < nuE nk zk ni zi n k 301) = true
      rw [nuE_A (by decide), nuE_n]
      exact decide_eq_true (show ((32 * k : Nat) : Int) < (n : Int) by omega)
    · show (nuE nk zk ni zi n k (pinA (tg 6)) == nuE nk zk ni zi n k (pinL (tg 6))) = true
      rw [nuE_A (by decide), nuE_L (by decide)]
      exact beq_self_eq_true _
    · show decide (nuE nk zk ni zi n k (pinL (tg 6)) < 1099511627776) = true
      rw [nuE_L (by decide)]
      exact decide_eq_true (show ((32 * k : Nat) : Int) < 1099511627776 by omega)
  cases u
  · exact ⟨fun p hp => (by cases hp), fun p hp => base p (by simpa [fXr] using hp), fun p hp => by cases hp⟩
  · exact ⟨fun p hp => (by cases hp), fun p hp => base p (by simpa [fXr] using hp), fun p hp => by cases hp⟩
  · have hu : 0 < ni := hu
    refine ⟨fun p hp => (by cases hp), fun p hp => ?_, fun p hp => ?_⟩
    · rcases List.mem_append.1 (show p ∈ [(.lss, pAe 6, .s 301, true), (.eql, pAe 6, .s (pinL (tg 6)), true), (.lss, .s (pinL (tg 6)), .c 1099511627776, true)] ++ _ from hp) with hp | hp
      · exact base p hp
      · simp only [List.mem_cons, List.not_mem_nil, or_false] at hp
        rcases hp with rfl | rfl | rfl | rfl | rfl | rfl
        · show decide ((lxE q).val (nuE nk zk ni zi n k) ≥ 0) = true
          rw [lxE_val hq hni]
          exact decide_eq_true (by omega)
        · show decide ((lxE q).val (nuE nk zk ni zi n k) < 1099511627776) = true
          rw [lxE_val hq hni]
          exact decide_eq_true (by omega)
        · show decide (nuE nk zk ni zi n k (pinL (tg 4)) > 0) = true
          rw [nuE_L (by decide)]
          exact decide_eq_true (show ((ni : Nat) : Int) > 0 by omega)
        · show decide (nuE nk zk ni zi n k (pinL (tg 4)) < 1099511627776) = true
          rw [nuE_L (by decide)]
          exact decide_eq_true (show ((ni : Nat) : Int) < 1099511627776 by omega)
        · show (nuE nk zk ni zi n k (pinA (tg 8)) == nuE nk zk ni zi n k (pinL (tg 8))) = true
          rw [nuE_A (by decide), nuE_L (by decide)]
          exact beq_self_eq_true _
        · show decide (nuE nk zk ni zi n k (pinL (tg 8)) < 1099511627776) = true
          rw [nuE_L (by decide)]
          exact decide_eq_true (show ((lq k + ni : Nat) : Int) < 1099511627776 by omega)
    · have hp : p ∈ [(0, (List.range (if q then 32 else 0)).map (nmA 200), tg 4, tg 8)] := hp
      simp only [List.mem_cons, List.not_mem_nil, or_false] at hp
      subst hp
      refine ⟨by show 0 ≤ nuE nk zk ni zi n k (pinL (tg 8)); rw [nuE_L (by decide)]; omega, ?_⟩
      show lst _ (tg 8) = lst0 _ 0 ++ ((List.range (if q then 32 else 0)).map (nmA 200)).map (AI.val _) ++ lst0 _ (tg 4)
      rw [lst0_zero, lst0_row _ (tgT (by decide) (by decide)).1, List.nil_append, List.map_map, lq_q hq]
      refine List.ext_getElem? fun j => ?_
      rw [lst_get (nuE_L (t := 8) (by decide)), List.getElem?_append, lst_get (nuE_L (t := 4) (by decide))]
      show (if j < lq k + ni then _ else none) = _
      simp only [List.length_map, List.length_range]
      by_cases hj : j < lq k
      · rw [if_pos (by omega), if_pos hj, nuE_B (by decide) (by omega)]
        simp only [List.getElem?_map, List.getElem?_range, hj, Option.map_some, Function.comp_apply]
        refine congrArg some ?_
        show xtW k (exT (keyW nk zk) ni zi k) ni zi j = nuE nk zk ni zi n k (200 + j)
        rw [nuE_T (by omega)]
        exact if_pos hj
      · rw [if_neg hj]
        show _ = if j - lq k < ni then _ else none
        by_cases hn2 : j < lq k + ni
        · rw [if_pos hn2, if_pos (by omega), nuE_B (by decide) (by omega), nuE_B (by decide) (by omega)]
          refine congrArg some ?_
          show xtW k (exT (keyW nk zk) ni zi k) ni zi j = zi (j - lq k)
          unfold xtW
          rw [if_neg hj, if_pos hn2]
        · rw [if_neg hn2, if_neg (by omega)]
theorem byEx_val : byEx.val (nuE nk zk ni zi n k) = IntKind.u8.wrap ((k + 1 : Nat) : Int) := by
  show IntKind.u8.wrap (nuE nk zk ni zi n k 302) = _
  rw [nuE_i]
theorem exTx_text {q : Bool} {u : Hd} (hq : q = decide (k ≠ 0)) (hu : u.Fits ni) (hni : ni < 800000000) : IsText (nuE nk zk ni zi n k) (exTb q u) (exTx q u) (lq k + ni + 1) (xtW k (exT (keyW nk zk) ni zi k) ni zi) := by
  have hk2 := lq_le k
  have last : ∀ j, j = lq k + ni → xtW k (exT (keyW nk zk) ni zi k) ni zi j = IntKind.u8.wrap ((k + 1 : Nat) : Int) := fun j hj => by
    unfold xtW
    rw [if_neg (by omega), if_neg (by omega)]
  have known : ni = 0 → ∀ b : Nat, IsText (nuE nk zk ni zi n k) [(b, ⟨rowC .u8 (exTf q) (if q then 33 else 1), eU, true⟩)] (.sl b 0 (nA (if q then 33 else 1)) (.ex (if q then 33 else 1))) (lq k + ni + 1) (xtW k (exT (keyW nk zk) ni zi k) ni zi) := fun h0 b => by
    subst h0
    have hl : (if q then 33 else 1) = lq k + 0 + 1 := by
      have := lq_q hq
      cases q
      · show 1 = _
        have : 0 = lq k := this
        omega
      · show 33 = _
        have : 32 = lq k := this
        omega
    rw [hl]
    refine isText_row (off := 0) (n := lq k + 0 + 1) (f := exTf q) (e := eU) (own := true) List.mem_cons_self (by decide) (by omega) (by omega) fun j hj => ?_
    rw [Nat.zero_add]
    have hlq := lq_q hq
    unfold exTf
    cases q
    · have hlq : 0 = lq k := hlq
      rw [if_neg (by decide), byEx_val, last j (by omega)]
    · have hlq : 32 = lq k := hlq
      rw [if_pos rfl]
      by_cases c : j < 32
      · rw [if_pos (by simpa using c)]
        show nuE nk zk 0 zi n k (200 + j) = _
        rw [nuE_T c]
        exact (if_pos (by omega)).symm
      · rw [if_neg (by simpa using c), byEx_val, last j (by omega)]
  cases u
  · exact known hu _
  · exact known hu _
  · have hu : 0 < ni := hu
    refine isText_winG (t := 8) (a := lq k + ni) (wd := 1) (h := fun _ => byEx) List.mem_cons_self (by decide) (tg_Ke (by decide)) rfl (nuE_A (by decide)) (nuE_L (by decide)) ?_ (fun j hj => ?_) (fun j hj => ?_) (by omega)
    · show IntKind.i64.wrap (nuE nk zk ni zi n k (pinA (tg 8)) + ((1 : Nat) : Int)) = _
      rw [nuE_A (by decide)]
      have e : ((atE ni k 8 : Nat) : Int) = ((lq k + ni : Nat) : Int) := rfl
      rw [e, i64_small (by omega) (by omega)]
      omega
    · rw [nuE_B (by decide) (by omega)]
      rfl
    · rw [byEx_val, last _ (by omega)]
theorem exMr_ok {q : Bool} {s u : Hd} (hq : q = decide (k ≠ 0)) (hs : s.Fits nk) (hu : u.Fits ni) (hnk : nk < 1000000000) (hni : ni < 800000000) : ∀ r ∈ exMr q s u, r.Ok (nuE nk zk ni zi n k) Tryd.prog gl256 := by
  have hk2 := lq_le k
  intro r hr
  simp only [exMr, List.mem_cons, List.not_mem_nil, or_false] at hr
  subst hr
  refine rowMac_T ((hd_text (blk := 64) (t := 2) (z := zk) hs (tgT (by decide) (by decide)) (tg_Ke (by decide)) (nuE_L (by decide)) fun j hj => nuE_B (by decide) (by omega)).mono fun p hp => List.mem_append_left _ hp) ((exTx_text hq hu hni).mono fun p hp => List.mem_append_right _ hp) hnk (by omega) fun j hj => ?_
  rw [nm_val, nuE_S hj]
  rfl
end
theorem runEx {w0 : World} {ic : IC} {i o : Now} {exx : Ex} {d : Nat} {ν : Nat → Int} {F : Facts} {TM : List RowM} (hF : F.Hold ν) (hT : ∀ r ∈ TM, r.Ok ν Tryd.prog gl256) (h : goesX F tree [] gl256 [] TM [] 60 d ic i exx o = true) : Tri Tryd.prog 57 ic (HoldsX 57 w0 ν gl256 [] [] [] i) fun ex' a w' => ex' = exx ∧ HoldsX 57 w0 ν gl256 [] [] [] o a w' :=
  Tri.runX hF mixed tab_ok gl256_ok (fun r hr => by cases hr) (fun r hr => by cases hr) hT (fun r hr => by cases hr) h
theorem noE (ν : Nat → Int) : ∀ r ∈ ([] : List RowM), r.Ok ν Tryd.prog gl256 := fun r hr => by cases hr
section
variable {w0 : World} {nk ni n k : Nat} {zk zi : Wd} {s u : Hd}
theorem hd_slotR {ν ν' : Nat → Int} {D : List Nat} {σ : Nat → Nat} {f : Nat → Pl → Pl} {blk T : Nat} (s : Hd) (hb : blk ∈ D) (hσ : σ blk = blk) (hf : ∀ pl, f blk pl = pl) (hL : ν' (pinL T) = ν (pinL T)) : SlotR ν ν' D σ f (s.av blk T) (s.av blk T) := by
  cases s
  · exact SlotR.nsl
  · exact SlotR.sle
  · exact SlotR.sl hb hσ hf hL
theorem hd_blkR {ν ν' : Nat → Int} {g : Pl → Pl} {blk T : Nat} (s : Hd) (hg : ∀ pl, g pl = pl) (hT : mapTag < T ∧ T ≤ winTag) (hL : ν' (pinL T) = ν (pinL T)) (hB : ∀ j : Nat, (j : Int) < ν (pinL T) → ν' (pinB T j) = ν (pinB T j)) : ∀ p ∈ s.gl blk T, p.1 = blk ∧ BlkR ν ν' g p.2 p.2 := by
  intro p hp
  cases s
  · cases hp
  · cases hp
  · simp only [Hd.gl, List.mem_cons, List.not_mem_nil, or_false] at hp
    subst hp
    refine ⟨rfl, ?_⟩
    have := BlkR.pin (ν := ν) (ν' := ν') (T := T) (o := false) hT hL hB
    intro ρ ρ' w pl h
    rw [hg pl]
    exact this ρ ρ' w pl h
theorem keepE {k k' : Nat} (t : Nat) (ht : t = 2 ∨ t = 4) (hnk : nk < 1000000000) (hni : ni < 800000000) : nuE nk zk ni zi n k' (pinL (tg t)) = nuE nk zk ni zi n k (pinL (tg t)) ∧ ∀ j : Nat, (j : Int) < nuE nk zk ni zi n k (pinL (tg t)) → nuE nk zk ni zi n k' (pinB (tg t) j) = nuE nk zk ni zi n k (pinB (tg t) j) := by
  have h0 : 0 < t := by omega
  refine ⟨?_, fun j hj => ?_⟩
  · rw [nuE_L h0, nuE_L h0]
    rcases ht with rfl | rfl <;> rfl
  · rw [nuE_L h0] at hj
    have hj : j < 1000000000 := by
      rcases ht with rfl | rfl
      · have hj : (j : Int) < ((nk : Nat) : Int) := hj
        omega
      · have hj : (j : Int) < ((ni : Nat) : Int) := hj
        omega
    rw [nuE_B h0 (by omega), nuE_B h0 (by omega)]
    rcases ht with rfl | rfl <;> rfl
/-- A round is over. -/
theorem ex_next {q : Bool} {a : Act} {w : World} (hnk : nk < 1000000000) (hni : ni < 800000000) (hk : k < 1000) (h : HoldsX 57 w0 (nuE nk zk ni zi n k) gl256 [] [] [] (exM1 q s u) a w) : HoldsX 57 w0 (nuE nk zk ni zi n (k + 1)) gl256 [] [] [] (exN true s u [(10, sI 302)]) a w := by
  let σ : Nat → Nat := fun b => if b = 66 then nxE q u - 1 else if b = 67 then nxE q u - 2 else b
  let f : Nat → Pl → Pl := fun b pl => if b = 66 then mv (32 * k) (32 * (k + 1)) pl else pl
  have e66 : σ 66 = nxE q u - 1 := if_pos rfl
  have e67 : σ 67 = nxE q u - 2 := (if_neg (by decide)).trans (if_pos rfl)
  have f66 : ∀ pl, f 66 pl = mv (32 * k) (32 * (k + 1)) pl := fun pl => if_pos rfl
  have f67 : ∀ pl, f 67 pl = pl := fun pl => if_neg (by decide)
  have e64 : σ 64 = 64 := (if_neg (by decide)).trans (if_neg (by decide))
  have e65 : σ 65 = 65 := (if_neg (by decide)).trans (if_neg (by decide))
  have f64 : ∀ pl, f 64 pl = pl := fun pl => if_neg (by decide)
  have f65 : ∀ pl, f 65 pl = pl := fun pl => if_neg (by decide)
  have big : 71 ≤ nxE q u := by cases q <;> cases u <;> decide
  have gt := ex_get1 q s u
  have hlen : (lenE (pAe 6) 32).val (nuE nk zk ni zi n k) = ((32 * (k + 1) : Nat) : Int) := by
    show IntKind.i64.wrap (nuE nk zk ni zi n k (pinA (tg 6)) + ((32 : Nat) : Int)) = _
    rw [nuE_A (by decide)]
    have e : ((atE ni k 6 : Nat) : Int) = ((32 * k : Nat) : Int) := rfl
    rw [e, i64_small (by omega) (by omega)]
    omega
  refine HoldsX.re [64, 65, 66, 67] σ f gl256_ok h (by decide) (fun b pl => ?_) (fun b hb => ?_) (fun b hb b' hb' e => ?_) (fun p hp => ?_) (fun p hp => ?_)
  · show (if b = 66 then mv (32 * k) (32 * (k + 1)) pl else pl).cb = pl.cb
    split <;> rfl
  · simp only [List.mem_cons, List.not_mem_nil, or_false] at hb
    rcases hb with rfl | rfl | rfl | rfl <;> exact ⟨by decide, by decide⟩
  · simp only [List.mem_cons, List.not_mem_nil, or_false] at hb hb'
    rcases hb with rfl | rfl | rfl | rfl <;> rcases hb' with rfl | rfl | rfl | rfl <;> first | rfl | (exfalso; simp only [e64, e65, e66, e67] at e; omega)
  · simp only [exN, List.cons_append, List.nil_append, List.mem_cons, List.not_mem_nil, or_false] at hp
    rcases hp with rfl | rfl | rfl | rfl | rfl | rfl
    · refine ⟨.i .i64 (.e .add .i64 (.s 302) (nA 1)), by simp [exM1], SlotR.conc (u := .int .i64 ((k + 1 + 1 : Nat) : Int)) ?_ (sI_conc nuE_i)⟩
      refine (add1_conc nuE_i).trans ?_
      rw [i64_small (by omega) (by omega)]
      congr 2
    · exact ⟨kA' s, by simp [exM1], hd_slotR s (by simp) e64 f64 (keepE 2 (.inl rfl) hnk hni).1⟩
    · exact ⟨iA' u, by simp [exM1], hd_slotR u (by simp) e65 f65 (keepE 4 (.inr rfl) hnk hni).1⟩
    · exact ⟨sI 301, by simp [exM1], SlotR.conc (u := .int .i64 n) (sI_conc nuE_n) (sI_conc nuE_n)⟩
    · exact ⟨.slw (nxE q u - 1) 1 (pAe 6) 32 (lenE (pAe 6) 32) (.own 1), by simp [exM1], SlotR.win (b := 66) (σ := σ) (a := 32 * k) (a' := 32 * (k + 1)) (m := 32 * (k + 1)) (by simp) e66 f66 (nuE_A (by decide)) (nuE_A (by decide)) hlen (nuE_A (by decide)) (by omega)⟩
    · exact ⟨slO (nxE q u - 2), by simp [exM1], SlotR.sl (b := 67) (σ := σ) (o := 0) (l := nA 32) (l' := nA 32) (c := .ex 32) (by simp) e67 f67 (nA_val.trans nA_val.symm)⟩
  · simp only [exN, kiH, lastB, if_true, List.append_assoc, List.mem_append, List.mem_cons, List.not_mem_nil, or_false] at hp
    rcases hp with hp | hp | rfl | rfl
    · obtain ⟨q1, q2⟩ := hd_blkR (ν := nuE nk zk ni zi n k) (ν' := nuE nk zk ni zi n (k + 1)) (g := f 64) s f64 (tgT (by decide) (by decide)) (keepE 2 (.inl rfl) hnk hni).1 (keepE 2 (.inl rfl) hnk hni).2 p hp
      refine ⟨by rw [q1]; simp, p.2, ?_, id, by rw [q1]; exact q2⟩
      have := gt p (by simp [exM1, kiH, hp])
      rw [q1, e64]
      rw [q1] at this
      exact this
    · obtain ⟨q1, q2⟩ := hd_blkR (ν := nuE nk zk ni zi n k) (ν' := nuE nk zk ni zi n (k + 1)) (g := f 65) u f65 (tgT (by decide) (by decide)) (keepE 4 (.inr rfl) hnk hni).1 (keepE 4 (.inr rfl) hnk hni).2 p hp
      refine ⟨by rw [q1]; simp, p.2, ?_, id, by rw [q1]; exact q2⟩
      have := gt p (by simp [exM1, kiH, hp])
      rw [q1, e65]
      rw [q1] at this
      exact this
    · refine ⟨by simp, ⟨rowC .u8 (nmA 400) 32, wg 6, true⟩, by rw [e66]; exact gt (nxE q u - 1, ⟨rowC .u8 (nmA 400) 32, wg 6, true⟩) (by simp [exM1]), fun _ => rfl, ?_⟩
      rw [show f 66 = mv (32 * k) (32 * (k + 1)) from funext f66]
      refine BlkR.grow (t := 6) (t' := 6) (m := 32 * k) (wd := 32) (a' := 32 * (k + 1)) (wd' := 0) (k := .u8) (g := exW (keyW nk zk) ni zi) (by decide) (by decide) (tg_Ke (by decide)) (tg_Ke (by decide)) (nuE_A (by decide)) (nuE_L (by decide)) (nuE_A (by decide)) ((nuE_L (by decide)).trans ?_) (fun j hj => ?_) (fun j hj => ?_) (fun j hj _ => ?_) (fun j hj => by omega) (by omega)
      · show ((32 * (k + 1) : Nat) : Int) = _
        omega
      · rw [nuE_B (by decide) (by omega)]
        rfl
      · rw [nm_val, nuE_S hj]
        show _ = exT (keyW nk zk) ni zi ((32 * k + j) / 32 + 1) ((32 * k + j) % 32)
        rw [show (32 * k + j) / 32 = k by omega, show (32 * k + j) % 32 = j by omega]
      · rw [nuE_B (by decide) (by omega)]
        rfl
    · refine ⟨by simp, ⟨rowC .u8 (nmA 400) 32, eO, true⟩, by rw [e67]; exact gt (nxE q u - 2, ⟨rowC .u8 (nmA 400) 32, eO, true⟩) (by simp [exM1]), fun _ => rfl, ?_⟩
      rw [show f 67 = fun pl => pl from funext f67]
      refine BlkR.row (by decide) fun j hj => ?_
      rw [nm_val, nm_val, nuE_S hj, nuE_T hj]
end
end Go.Proofs.YtjdcaipgfolgoaaDoor
