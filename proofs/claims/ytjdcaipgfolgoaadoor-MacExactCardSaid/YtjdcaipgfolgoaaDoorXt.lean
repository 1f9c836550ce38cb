/-
  The page's Expand: from round to round; its contract. Own work.
-/
import Derived.Test.YtjdcaipgfolgoaaDoorXs
namespace Go.Proofs.YtjdcaipgfolgoaaDoor
open Go.Sh
open Go.ChangeShapes Go.WideShapes Go.ChangeAt Go.RowKit
set_option maxRecDepth 100000

section
variable {w0 : World} {nk ni n k : Nat} {zk zi : Wd} {s u : Hd}
theorem px_open {a : Act} {w : World} (h : HoldsX 35 w0 (nuE nk zk ni zi n 0) gl256 [] [] [] (px1 s u [(7, .nsl), (8, .nsl), (9, iN 1)]) a w) : HoldsX 35 w0 (nuE nk zk ni zi n 0) gl256 [] [] [] (pxN false s u) a w := by
  have gt := px_get1 s u [(7, .nsl), (8, .nsl), (9, iN 1)]
  refine HoldsX.re [64, 65] (fun b => b) (fun _ pl => pl) gl256_ok h (by decide) (fun b pl => rfl) (fun b hb => ?_) (fun b hb b' hb' e => e) (fun p hp => ?_) (fun p hp => ?_)
  · simp only [List.mem_cons, List.not_mem_nil, or_false] at hb
    rcases hb with rfl | rfl <;> exact ⟨by decide, by decide⟩
  · simp only [pxOv, pxLa, if_false, Bool.false_eq_true, List.mem_cons, List.not_mem_nil, or_false] at hp
    rcases hp with rfl | rfl | rfl | rfl | rfl | rfl
    · exact ⟨kA' s, by simp, hd_slotR s (by simp) rfl (fun _ => rfl) rfl⟩
    · exact ⟨iA' u, by simp, hd_slotR u (by simp) rfl (fun _ => rfl) rfl⟩
    · exact ⟨sI 301, by simp, SlotR.conc (u := .int .i64 n) (sI_conc nuE_n) (sI_conc nuE_n)⟩
    · exact ⟨.nsl, by simp, SlotR.nsl⟩
    · exact ⟨.nsl, by simp, SlotR.nsl⟩
    · exact ⟨iN 1, by simp, SlotR.conc (u := .int .i64 ((0 + 1 : Nat) : Int)) rfl (sI_conc nuE_i)⟩
  · simp only [kiH, pxOb, if_false, Bool.false_eq_true, List.append_nil, List.mem_append] at hp
    rcases hp with hp | hp
    · obtain ⟨q1, q2⟩ := refl_blk (ν := nuE nk zk ni zi n 0) (tgT (by decide) (by decide)) p hp
      exact ⟨by rw [q1]; simp, p.2, gt p (by simp [px1, kiH, hp]), id, q2⟩
    · obtain ⟨q1, q2⟩ := refl_blk (ν := nuE nk zk ni zi n 0) (tgT (by decide) (by decide)) p hp
      exact ⟨by rw [q1]; simp, p.2, gt p (by simp [px1, kiH, hp]), id, q2⟩
/-- A round is over. -/
theorem px_next {q : Bool} {a : Act} {w : World} (hq : q = decide (k ≠ 0)) (hnk : nk < 1000000000) (hni : ni < 800000000) (hk : k < 1000) (h : HoldsX 35 w0 (nuE nk zk ni zi n k) gl256 [] [] [] (pxM q s u) a w) : HoldsX 35 w0 (nuE nk zk ni zi n (k + 1)) gl256 [] [] [] (pxN true s u) a w := by
  let σ : Nat → Nat := fun b => if b = 66 then nxP q u - 1 else if b = 67 then nxP q u - 2 else b
  let f : Nat → Pl → Pl := fun b pl => if b = 66 then mv (32 * k) (32 * (k + 1)) pl else pl
  have e66 : σ 66 = nxP q u - 1 := if_pos rfl
  have e67 : σ 67 = nxP q u - 2 := (if_neg (by decide)).trans (if_pos rfl)
  have f66 : ∀ pl, f 66 pl = mv (32 * k) (32 * (k + 1)) pl := fun pl => if_pos rfl
  have f67 : ∀ pl, f 67 pl = pl := fun pl => if_neg (by decide)
  have e64 : σ 64 = 64 := (if_neg (by decide)).trans (if_neg (by decide))
  have e65 : σ 65 = 65 := (if_neg (by decide)).trans (if_neg (by decide))
  have f64 : ∀ pl, f 64 pl = pl := fun pl => if_neg (by decide)
  have f65 : ∀ pl, f 65 pl = pl := fun pl => if_neg (by decide)
  have big : 73 ≤ nxP q u := by cases q <;> cases u <;> decide
  have gt := px_getM q s u
  have hlen : (lenE (pAe 6) 32).val (nuE nk zk ni zi n k) = ((32 * (k + 1) : Nat) : Int) := by
    show IntKind.i64.wrap (nuE nk zk ni zi n k (pinA (tg 6)) + ((32 : Nat) : Int)) = _
    rw [nuE_A (by decide)]
    have e : ((atE ni k 6 : Nat) : Int) = ((32 * k : Nat) : Int) := rfl
    rw [e, i64_small (by omega) (by omega)]
    omega
  refine HoldsX.re [64, 65, 66, 67] σ f gl256_ok h (by decide) (fun b pl => ?_) (fun b hb => ?_) (fun b hb b' hb' e => ?_) (fun p hp => ?_) (fun p hp => ?_)
  · show (if b = 66 then mv (32 * k) (32 * (k + 1)) pl else pl).cb = pl.cb
    split <;> rfl
  · simp only [List.mem_cons, List.not_mem_nil, or_false] at hb
    rcases hb with rfl | rfl | rfl | rfl <;> exact ⟨by decide, by decide⟩
  · simp only [List.mem_cons, List.not_mem_nil, or_false] at hb hb'
    rcases hb with rfl | rfl | rfl | rfl <;> rcases hb' with rfl | rfl | rfl | rfl <;> first | rfl | (exfalso; simp only [e64, e65, e66, e67] at e; omega)
  · simp only [pxOv, pxLa, if_true, List.mem_cons, List.not_mem_nil, or_false] at hp
    rcases hp with rfl | rfl | rfl | rfl | rfl | rfl
    · exact ⟨kA' s, by simp, hd_slotR s (by simp) e64 f64 (keepE 2 (.inl rfl) hnk hni).1⟩
    · exact ⟨iA' u, by simp, hd_slotR u (by simp) e65 f65 (keepE 4 (.inr rfl) hnk hni).1⟩
    · exact ⟨sI 301, by simp, SlotR.conc (u := .int .i64 n) (sI_conc nuE_n) (sI_conc nuE_n)⟩
    · refine ⟨_, List.mem_cons_of_mem _ (List.mem_cons_of_mem _ (List.mem_cons_of_mem _ List.mem_cons_self)), ?_⟩
      cases q
      · have hk0 : k = 0 := by simpa using hq.symm
        subst hk0
        exact SlotR.openN (b := 66) (σ := σ) (a' := 32) (m := 32) (by simp) e66 f66 (nuE_A (by decide)) (nuE_A (by decide)) (Nat.le_refl _) (by decide)
      · exact SlotR.win (b := 66) (σ := σ) (a := 32 * k) (a' := 32 * (k + 1)) (m := 32 * (k + 1)) (by simp) e66 f66 (nuE_A (by decide)) (nuE_A (by decide)) hlen (nuE_A (by decide)) (by omega)
    · exact ⟨pxLa true (nxP q u - 2), by simp, SlotR.sl (b := 67) (σ := σ) (o := 0) (l := nA 32) (l' := nA 32) (c := .own 1) (by simp) e67 f67 (nA_val.trans nA_val.symm)⟩
    · refine ⟨.i .i64 (.e .add .i64 (.s 302) (nA 1)), by simp, SlotR.conc (u := .int .i64 ((k + 1 + 1 : Nat) : Int)) ?_ (sI_conc nuE_i)⟩
      refine (add1_conc nuE_i).trans ?_
      rw [i64_small (by omega) (by omega)]
      congr 2
  · simp only [pxOb, kiH, if_true, List.append_assoc, List.mem_append, List.mem_cons, List.not_mem_nil, or_false] at hp
    rcases hp with hp | hp | rfl | rfl
    · obtain ⟨q1, q2⟩ := hd_blkR (ν := nuE nk zk ni zi n k) (ν' := nuE nk zk ni zi n (k + 1)) (g := f 64) s f64 (tgT (by decide) (by decide)) (keepE 2 (.inl rfl) hnk hni).1 (keepE 2 (.inl rfl) hnk hni).2 p hp
      refine ⟨by rw [q1]; simp, p.2, ?_, id, by rw [q1]; exact q2⟩
      have := gt p (by simp [pxM, kiH, hp])
      rw [q1, e64]
      rw [q1] at this
      exact this
    · obtain ⟨q1, q2⟩ := hd_blkR (ν := nuE nk zk ni zi n k) (ν' := nuE nk zk ni zi n (k + 1)) (g := f 65) u f65 (tgT (by decide) (by decide)) (keepE 4 (.inr rfl) hnk hni).1 (keepE 4 (.inr rfl) hnk hni).2 p hp
      refine ⟨by rw [q1]; simp, p.2, ?_, id, by rw [q1]; exact q2⟩
      have := gt p (by simp [pxM, kiH, hp])
      rw [q1, e65]
      rw [q1] at this
      exact this
    · refine ⟨by simp, ⟨rowC .u8 (nmA 400) 32, if q then wg 6 else eU, true⟩, by show (heapL _ _).get (σ 66) = _; rw [e66]; exact gt (nxP q u - 1, ⟨rowC .u8 (nmA 400) 32, if q then wg 6 else eU, true⟩) (by simp [pxM]), fun _ => rfl, ?_⟩
      show BlkR _ _ (f 66) _ _
      rw [show f 66 = mv (32 * k) (32 * (k + 1)) from funext f66]
      have cell : ∀ j, j < 32 → (nmA 400 j).val (nuE nk zk ni zi n k) = exW (keyW nk zk) ni zi (32 * k + j) := fun j hj => by
        rw [nm_val, nuE_S hj]
        exact exW_at hj
      cases q
      · have hk0 : k = 0 := by simpa using hq.symm
        subst hk0
        exact BlkR.openN (t' := 6) (m := 32) (a' := 32) (k := .u8) (g := exW (keyW nk zk) ni zi) (by decide) (by decide) (tg_Ke (by decide)) (nuE_A (by decide)) (nuE_L (by decide)) (fun j hj => by rw [cell j hj, Nat.mul_zero, Nat.zero_add]) (fun j hj => nuE_B (by decide) (by omega)) (Nat.le_refl _)
      · refine BlkR.grow (t := 6) (t' := 6) (m := 32 * k) (wd := 32) (a' := 32 * (k + 1)) (wd' := 0) (k := .u8) (g := exW (keyW nk zk) ni zi) (by decide) (by decide) (tg_Ke (by decide)) (tg_Ke (by decide)) (nuE_A (by decide)) (nuE_L (by decide)) (nuE_A (by decide)) ((nuE_L (by decide)).trans ?_) (fun j hj => nuE_B (by decide) (by omega)) cell (fun j hj _ => nuE_B (by decide) (by omega)) (fun j hj => by omega) (by omega)
        show ((32 * (k + 1) : Nat) : Int) = _
        omega
    · refine ⟨by simp, ⟨rowC .u8 (nmA 400) 32, eU, true⟩, by show (heapL _ _).get (σ 67) = _; rw [e67]; exact gt (nxP q u - 2, ⟨rowC .u8 (nmA 400) 32, eU, true⟩) (by simp [pxM]), fun _ => rfl, ?_⟩
      show BlkR _ _ (f 67) _ _
      rw [show f 67 = fun pl => pl from funext f67]
      refine BlkR.row (by decide) fun j hj => ?_
      rw [nm_val, nm_val, nuE_S hj, nuE_T hj]
theorem px_shut {a : Act} {w : World} (hk : k < 1000) (h : HoldsX 35 w0 (nuE nk zk ni zi n k) gl256 [] [] [] (pxN true s u) a w) : HoldsX 35 w0 (nuE nk zk ni zi n k) gl256 [] [] [] pxQ a w := by
  have gt := px_getN s u
  refine HoldsX.re [66] (fun b => b) (fun _ pl => mv (32 * k) 0 pl) gl256_ok h (by decide) (fun b pl => rfl) (fun b hb => ?_) (fun b hb b' hb' e => e) (fun p hp => ?_) (fun p hp => ?_)
  · simp only [List.mem_cons, List.not_mem_nil, or_false] at hb
    subst hb
    exact ⟨by decide, by decide⟩
  · simp only [List.mem_cons, List.not_mem_nil, or_false] at hp
    rcases hp with rfl | rfl
    · exact ⟨sI 301, by simp, SlotR.conc (u := .int .i64 n) (sI_conc nuE_n) (sI_conc nuE_n)⟩
    · exact ⟨.slw 66 1 (pAe 6) 0 (pAe 6) (.own 1), by simp [pxOv], SlotR.win (b := 66) (a := 32 * k) (a' := 0) (m := 32 * k) (by simp) rfl (fun _ => rfl) (nuE_A (by decide)) (nuE_A (by decide)) (nuE_A (by decide)) (nuE_L (by decide)) (by omega)⟩
  · simp only [List.mem_cons, List.not_mem_nil, or_false] at hp
    subst hp
    refine ⟨by simp, ⟨rowC .u8 (nmA 400) 0, wg 6, true⟩, gt (66, ⟨rowC .u8 (nmA 400) 0, wg 6, true⟩) (by simp [pxN, pxOb]), fun _ => rfl, ?_⟩
    exact BlkR.win (t := 6) (t' := 10) (a := 32 * k) (a' := 0) (m := 32 * k) (wd := 0) (wd' := 0) (k := .u8) (g := exW (keyW nk zk) ni zi) (by decide) (by decide) (tg_Ke (by decide)) (tg_Ke (by decide)) (nuE_A (by decide)) (nuE_L (by decide)) (nuE_A (by decide)) (nuE_L (by decide)) (fun j hj _ => nuE_B (by decide) (by omega)) (fun j hj => by omega) (fun j hj _ => nuE_B (by decide) (by omega)) (fun j hj => by omega) (by omega)
theorem px_loop (hs : s.Fits nk) (hu : u.Fits ni) (hbk : Bytes zk nk) (hbi : Bytes zi ni) (hnk : nk < 1000000000) (hni : ni < 800000000) {R : Nat} (hR : R < 1000) (h0 : 0 < R) (h1 : n ≤ 32 * R) (h2 : 32 * R < n + 32) : Tri Tryd.prog 35 (.loop pxR) (fun a w => HoldsX 35 w0 (nuE nk zk ni zi n 0) gl256 [] [] [] (pxN false s u) a w)
    fun exx a w => exx = .exit 0 ∧ HoldsX 35 w0 (nuE nk zk ni zi n R) gl256 [] [] [] pxQ a w := by
  have key := Tri.loop (P := Tryd.prog) (N := 35) (x := pxR) (J := fun r a w => r ≤ R ∧ HoldsX 35 w0 (nuE nk zk ni zi n (R - r)) gl256 [] [] [] (pxN (decide (R - r ≠ 0)) s u) a w) (Post := fun exx a w => exx = .exit 0 ∧ HoldsX 35 w0 (nuE nk zk ni zi n R) gl256 [] [] [] pxQ a w) R ?_ ?_
  · exact key.weak (fun a w h => ⟨Nat.le_refl _, by rw [Nat.sub_self]; exact h⟩) (fun _ _ _ h => h)
  · intro r cc hc a w ⟨hr, hp⟩
    have e2 : R - r = R - (r + 1) + 1 := by omega
    have hlt : 32 * (R - (r + 1)) < n := by omega
    have hk : R - (r + 1) < 1000 := by omega
    rw [e2]
    generalize R - (r + 1) = k at *
    refine ((runN (fPx_hold rfl hu hni hk hlt) (pxMr_ok rfl hs hu hbk hbi hnk hni) (px_round (decide (k ≠ 0)) s u)).weak (fun _ _ h => h) (fun exx a w h => .inl ⟨h.1, by omega, ?_⟩)) cc hc a w hp
    rw [show decide (k + 1 ≠ 0) = true from decide_eq_true (by omega)]
    exact px_next rfl hnk hni hk h.2
  · intro cc hc a w ⟨_, hp⟩
    rw [Nat.sub_zero, show decide (R ≠ 0) = true from decide_eq_true (by omega)] at hp
    have hF : Facts.Hold ⟨[], [(.lss, pAe 6, .s 301, false)], []⟩ (nuE nk zk ni zi n R) := by
      refine ⟨fun p hp => (by cases hp), fun p hp => ?_, fun p hp => by cases hp⟩
      simp only [List.mem_cons, List.not_mem_nil, or_false] at hp
      subst hp
      show decide (nuE nk zk ni zi n R (pinA (tg 6)) < nuE nk zk ni zi n R 301) = false
      rw [nuE_A (by decide), nuE_n]
      exact decide_eq_false (show ¬ ((32 * R : Nat) : Int) < (n : Int) by omega)
    exact ((runN hF (noE _) (px_out s u)).weak (fun _ _ h => h) (fun exx a w h => ⟨by rw [h.1]; simp, h.1, px_shut hR h.2⟩)) cc hc a w hp
end
theorem PExpand_ok {w : World} {vk vi : Value} {nk ni n : Nat} {zk zi : Wd} (hw : Laid gl256 w) (hvk : TextAt w vk nk zk) (hvi : TextAt w vi ni zi) (hbk : Bytes zk nk) (hbi : Bytes zi ni) (hnk : nk < 1000000000) (hni : ni < 800000000) (h0 : 0 < n) (hn : n ≤ 8160) :
    Calls Tryd.prog 25 #[vk, vi, .int .i64 (n : Int)] w fun e w' => ∃ u, e = .returned u ∧ Padded w w' u n (exW (keyW nk zk) ni zi) ∧ Below w.heap.size w w' := by
  obtain ⟨s, pk, hck⟩ := text_came hvk
  obtain ⟨u, pi, hci⟩ := text_came hvi
  have hs := hck.fits
  have hu := hci.fits
  let gp : Nat → Option Pl := fun b => if b = 64 then pk else if b = 65 then pi else none
  let ν0 := nuE nk zk ni zi n 0
  obtain ⟨va1, ga1⟩ := hck.here (ν := ν0) (gp := gp) (blk := 64) (T := tg 2) (by decide) rfl (tgT (by decide) (by decide)) (tg_Ke (by decide)) (nuE_L (by decide)) fun j hj => nuE_B (by decide) (by omega)
  obtain ⟨vb1, gb1⟩ := hci.here (ν := ν0) (gp := gp) (blk := 65) (T := tg 4) (by decide) rfl (tgT (by decide) (by decide)) (tg_Ke (by decide)) (nuE_L (by decide)) fun j hj => nuE_B (by decide) (by omega)
  have start := holdsX_start (N := 35) (ν := ν0) (L := []) (fx := []) (kp := []) (vs := #[vk, vi, .int .i64 (n : Int)]) (e0 := (ex0 s u).e) (H0 := kiH s u) (n0 := 66) gl256_ok (w := w) hw gp (by show 3 ≤ 35; decide) (by decide) (fun b hb => by show (if b = 64 then pk else if b = 65 then pi else none) = none; rw [if_neg (by omega), if_neg (by omega)]) (fun p hp => by cases hp)
    (fun p hp => by
      simp only [ex0, List.mem_cons, List.not_mem_nil, or_false] at hp
      rcases hp with rfl | rfl | rfl
      · exact ⟨_, rfl, va1⟩
      · exact ⟨_, rfl, vb1⟩
      · exact ⟨_, rfl, vr_i nuE_n⟩)
    (fun p hp => by
      rcases List.mem_append.1 hp with hp | hp
      · obtain ⟨q1, q2, pl, q3, q4⟩ := ga1 p hp
        exact ⟨by rw [q1]; decide, pl, by rw [q1]; exact q3, q4, fun h => by rw [q2] at h; cases h⟩
      · obtain ⟨q1, q2, pl, q3, q4⟩ := gb1 p hp
        exact ⟨by rw [q1]; decide, pl, by rw [q1]; exact q3, q4, fun h => by rw [q2] at h; cases h⟩)
    (fun p hp => by cases hp)
  refine ((callsX (L := []) (gl := gl256) (Q := fun v w' => Padded w w' v n (exW (keyW nk zk) ni zi) ∧ Below w.heap.size w w') tab_ok (by kernel_rfl) px_shape start ?_ : (∃ fn, Tryd.prog.funcs[25]? = some fn ∧ fn.body.isSome = true ∧ (fn.name == "runtime.NumGoroutine") = false) ∧ Calls Tryd.prog 25 #[vk, vi, .int .i64 (n : Int)] w fun e w' => ∃ v, e = .returned v ∧ Padded w w' v n (exW (keyW nk zk) ni zi) ∧ Below w.heap.size w w')).2.mono fun e w' ⟨v, he, hP, hB⟩ => ⟨v, he, hP, hB⟩
  have hd := px_head s u
  simp only [pxHead, Bool.and_eq_true] at hd
  obtain ⟨d1, d2, d3⟩ := hd
  obtain ⟨R, h1, h2⟩ : ∃ R, n ≤ 32 * R ∧ 32 * R < n + 32 := ⟨(n + 31) / 32, by omega, by omega⟩
  have hFz : fXz.Hold (nuE nk zk ni zi n R) := by
    refine ⟨fun p hp => (by cases hp), fun p hp => ?_, fun p hp => by cases hp⟩
    simp only [fXz, List.mem_cons, List.not_mem_nil, or_false] at hp
    rcases hp with rfl | rfl
    · show decide (nuE nk zk ni zi n R (pinA (tg 10)) ≤ nuE nk zk ni zi n R 301) = true
      rw [nuE_A (by decide), nuE_n]
      exact decide_eq_true (show ((0 : Nat) : Int) ≤ (n : Int) by omega)
    · show decide (nuE nk zk ni zi n R 301 ≤ nuE nk zk ni zi n R (pinL (tg 10))) = true
      rw [nuE_L (by decide), nuE_n]
      exact decide_eq_true (show (n : Int) ≤ ((32 * R : Nat) : Int) by omega)
  refine seqN (runN (none_f _) (noE _) d1) (seqN (runN (none_f _) (noE _) d2) (seqN (Mid := HoldsX 35 w (nuE nk zk ni zi n R) gl256 [] [] [] pxQ) ?_ ?_))
  · refine seqN (Mid := HoldsX 35 w ν0 gl256 [] [] [] (pxN false s u)) ((runN (none_f _) (noE _) d3).weak (fun _ _ h => h) fun exx a w' h => ⟨h.1, px_open h.2⟩) ?_
    refine Tri.block (px_loop hs hu hbk hbi hnk hni (by omega) (by omega) h1 h2) (fun a w h => by cases h.1) (fun a w h => ⟨rfl, h.2⟩) (fun j a w hj h => ?_) (fun a w h => by cases h.1)
    have := h.1
    simp only [Ex.exit.injEq] at this
    exact (hj this).elim
  · refine (runN hFz (noE _) px_goZ).weak (fun _ _ h => h) fun exx a w' h => ⟨.inr h.1, _, pxY, _, [], [], h.2, px_res, fun ρ v _ hh ho hB hv => ?_⟩
    exact ⟨win_padded (t := 10) (k := pAe 10) (l := .s 301) hh (by kernel_rfl) ho rfl hv (by decide) (tg_Ke (by decide)) rfl nuE_n (by rw [nuE_L (by decide)]; show (n : Int) ≤ ((32 * R : Nat) : Int); omega) fun j hj => nuE_B (by decide) (by omega), ⟨hB.os, hB.tape, hB.output, hB.size, fun k hk => hB.block k hk fun p hp => by cases hp⟩⟩
end Go.Proofs.YtjdcaipgfolgoaaDoor
