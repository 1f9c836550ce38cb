/-
  mac.Expand: what it answers, whatever its arguments. Own work.
-/
import Derived.Test.YtjdcaipgfolgoaaDoorXk
namespace Go.Proofs.YtjdcaipgfolgoaaDoor
open Go.Sh
open Go.ChangeShapes Go.WideShapes Go.ChangeAt Go.RowKit
set_option maxRecDepth 100000

section
variable {w0 : World} {nk ni n k : Nat} {zk zi : Wd} {s u : Hd}
theorem refl_blk {ν : Nat → Int} {T : Nat} {s : Hd} {blk : Nat} (hT : mapTag < T ∧ T ≤ winTag) : ∀ p ∈ s.gl blk T, p.1 = blk ∧ BlkR ν ν (fun pl => pl) p.2 p.2 := hd_blkR s (fun _ => rfl) hT rfl fun _ _ => rfl
theorem ex_open {a : Act} {w : World} (h : HoldsX 57 w0 (nuE nk zk ni zi n 0) gl256 [] [] [] (ex1 s u [(9, .nsl), (10, iN 1)]) a w) : HoldsX 57 w0 (nuE nk zk ni zi n 0) gl256 [] [] [] (exN false s u [(10, sI 302)]) a w := by
  have gt := ex_get0 s u [(9, .nsl), (10, iN 1)]
  refine HoldsX.re [64, 65, 66] (fun b => b) (fun _ pl => pl) gl256_ok h (by decide) (fun b pl => rfl) (fun b hb => ?_) (fun b hb b' hb' e => e) (fun p hp => ?_) (fun p hp => ?_)
  · simp only [List.mem_cons, List.not_mem_nil, or_false] at hb
    rcases hb with rfl | rfl | rfl <;> exact ⟨by decide, by decide⟩
  · simp only [List.cons_append, List.nil_append, List.mem_cons, List.not_mem_nil, or_false] at hp
    rcases hp with rfl | rfl | rfl | rfl | rfl | rfl
    · exact ⟨iN 1, by simp, SlotR.conc (u := .int .i64 ((0 + 1 : Nat) : Int)) rfl (sI_conc nuE_i)⟩
    · exact ⟨kA' s, by simp, hd_slotR s (by simp) rfl (fun _ => rfl) rfl⟩
    · exact ⟨iA' u, by simp, hd_slotR u (by simp) rfl (fun _ => rfl) rfl⟩
    · exact ⟨sI 301, by simp, SlotR.conc (u := .int .i64 n) (sI_conc nuE_n) (sI_conc nuE_n)⟩
    · exact ⟨.sl 66 0 (nA 0) (.own 1), by simp, SlotR.open (b := 66) (by simp) rfl (fun _ => rfl) (nuE_A (by decide)) (nuE_A (by decide))⟩
    · exact ⟨.nsl, by simp, SlotR.nsl⟩
  · simp only [kiH, lastB, if_false, Bool.false_eq_true, List.append_assoc, List.mem_append, List.mem_cons, List.not_mem_nil, or_false] at hp
    rcases hp with hp | hp | rfl
    · obtain ⟨q1, q2⟩ := refl_blk (ν := nuE nk zk ni zi n 0) (tgT (by decide) (by decide)) p hp
      exact ⟨by rw [q1]; simp, p.2, gt p (by simp [ex1, kiH, hp]), id, q2⟩
    · obtain ⟨q1, q2⟩ := refl_blk (ν := nuE nk zk ni zi n 0) (tgT (by decide) (by decide)) p hp
      exact ⟨by rw [q1]; simp, p.2, gt p (by simp [ex1, kiH, hp]), id, q2⟩
    · exact ⟨by simp, ⟨rowC .u8 (nmA 400) 0, eU, true⟩, gt (66, ⟨rowC .u8 (nmA 400) 0, eU, true⟩) (by simp [ex1]), fun _ => rfl, BlkR.open (by decide) (by decide) (nuE_A (by decide)) (nuE_L (by decide))⟩
theorem ex_shut {q : Bool} {a : Act} {w : World} (hk : k < 1000) (h : HoldsX 57 w0 (nuE nk zk ni zi n k) gl256 [] [] [] (exN q s u []) a w) : HoldsX 57 w0 (nuE nk zk ni zi n k) gl256 [] [] [] exQ a w := by
  have gt := ex_get q s u []
  refine HoldsX.re [66] (fun b => b) (fun _ pl => mv (32 * k) 0 pl) gl256_ok h (by decide) (fun b pl => rfl) (fun b hb => ?_) (fun b hb b' hb' e => e) (fun p hp => ?_) (fun p hp => ?_)
  · simp only [List.mem_cons, List.not_mem_nil, or_false] at hb
    subst hb
    exact ⟨by decide, by decide⟩
  · simp only [List.mem_cons, List.not_mem_nil, or_false] at hp
    rcases hp with rfl | rfl
    · exact ⟨sI 301, by simp, SlotR.conc (u := .int .i64 n) (sI_conc nuE_n) (sI_conc nuE_n)⟩
    · exact ⟨.slw 66 1 (pAe 6) 0 (pAe 6) (.own 1), by simp, SlotR.win (b := 66) (a := 32 * k) (a' := 0) (m := 32 * k) (by simp) rfl (fun _ => rfl) (nuE_A (by decide)) (nuE_A (by decide)) (nuE_A (by decide)) (nuE_L (by decide)) (by omega)⟩
  · simp only [List.mem_cons, List.not_mem_nil, or_false] at hp
    subst hp
    refine ⟨by simp, ⟨rowC .u8 (nmA 400) 0, wg 6, true⟩, gt (66, ⟨rowC .u8 (nmA 400) 0, wg 6, true⟩) (by simp [exN]), fun _ => rfl, ?_⟩
    exact BlkR.win (t := 6) (t' := 10) (a := 32 * k) (a' := 0) (m := 32 * k) (wd := 0) (wd' := 0) (k := .u8) (g := exW (keyW nk zk) ni zi) (by decide) (by decide) (tg_Ke (by decide)) (tg_Ke (by decide)) (nuE_A (by decide)) (nuE_L (by decide)) (nuE_A (by decide)) (nuE_L (by decide)) (fun j hj _ => nuE_B (by decide) (by omega)) (fun j hj => by omega) (fun j hj _ => nuE_B (by decide) (by omega)) (fun j hj => by omega) (by omega)
theorem ex_loop (hs : s.Fits nk) (hu : u.Fits ni) (hnk : nk < 1000000000) (hni : ni < 800000000) {R : Nat} (hR : R < 1000) (h1 : n ≤ 32 * R) (h2 : 32 * R < n + 32) : Tri Tryd.prog 57 (.loop exR) (fun a w => HoldsX 57 w0 (nuE nk zk ni zi n 0) gl256 [] [] [] (exN false s u [(10, sI 302)]) a w)
    fun exx a w => exx = .exit 0 ∧ HoldsX 57 w0 (nuE nk zk ni zi n R) gl256 [] [] [] exQ a w := by
  have key := Tri.loop (P := Tryd.prog) (N := 57) (x := exR) (J := fun r a w => r ≤ R ∧ HoldsX 57 w0 (nuE nk zk ni zi n (R - r)) gl256 [] [] [] (exN (decide (R - r ≠ 0)) s u [(10, sI 302)]) a w) (Post := fun exx a w => exx = .exit 0 ∧ HoldsX 57 w0 (nuE nk zk ni zi n R) gl256 [] [] [] exQ a w) R ?_ ?_
  · exact key.weak (fun a w h => ⟨Nat.le_refl _, by rw [Nat.sub_self]; exact h⟩) (fun _ _ _ h => h)
  · intro r cc hc a w ⟨hr, hp⟩
    have e2 : R - r = R - (r + 1) + 1 := by omega
    have hlt : 32 * (R - (r + 1)) < n := by omega
    have hk : R - (r + 1) < 1000 := by omega
    rw [e2]
    generalize R - (r + 1) = k at *
    refine ((runEx (fXr_hold rfl hu hni hk hlt) (exMr_ok rfl hs hu hnk hni) (ex_round (decide (k ≠ 0)) s u)).weak (fun _ _ h => h) (fun exx a w h => .inl ⟨h.1, by omega, ?_⟩)) cc hc a w hp
    rw [show decide (k + 1 ≠ 0) = true from decide_eq_true (by omega)]
    exact ex_next hnk hni hk h.2
  · intro cc hc a w ⟨_, hp⟩
    rw [Nat.sub_zero] at hp
    have hF : Facts.Hold ⟨[], [(.lss, pAe 6, .s 301, false)], []⟩ (nuE nk zk ni zi n R) := by
      refine ⟨fun p hp => (by cases hp), fun p hp => ?_, fun p hp => by cases hp⟩
      simp only [List.mem_cons, List.not_mem_nil, or_false] at hp
      subst hp
      show decide (nuE nk zk ni zi n R (pinA (tg 6)) < nuE nk zk ni zi n R 301) = false
      rw [nuE_A (by decide), nuE_n]
      exact decide_eq_false (show ¬ ((32 * R : Nat) : Int) < (n : Int) by omega)
    exact ((runEx hF (noE _) (ex_out (decide (R ≠ 0)) s u)).weak (fun _ _ h => h) (fun exx a w h => ⟨by rw [h.1]; simp, h.1, ex_shut hR h.2⟩)) cc hc a w hp
end
theorem Expand_ok {w : World} {vk vi : Value} {nk ni n : Nat} {zk zi : Wd} (hw : Laid gl256 w) (hvk : TextAt w vk nk zk) (hvi : TextAt w vi ni zi) (hnk : nk < 1000000000) (hni : ni < 800000000) (hn : n ≤ 8160) :
    Calls Tryd.prog 23 #[vk, vi, .int .i64 (n : Int)] w fun e w' => ∃ u, e = .returned (.tuple #[u, .int .i64 0]) ∧ Padded w w' u n (exW (keyW nk zk) ni zi) ∧ Below w.heap.size w w' := by
  obtain ⟨s, pk, hck⟩ := text_came hvk
  obtain ⟨u, pi, hci⟩ := text_came hvi
  have hs := hck.fits
  have hu := hci.fits
  let gp : Nat → Option Pl := fun b => if b = 64 then pk else if b = 65 then pi else none
  let ν0 := nuE nk zk ni zi n 0
  obtain ⟨va1, ga1⟩ := hck.here (ν := ν0) (gp := gp) (blk := 64) (T := tg 2) (by decide) rfl (tgT (by decide) (by decide)) (tg_Ke (by decide)) (nuE_L (by decide)) fun j hj => nuE_B (by decide) (by omega)
  obtain ⟨vb1, gb1⟩ := hci.here (ν := ν0) (gp := gp) (blk := 65) (T := tg 4) (by decide) rfl (tgT (by decide) (by decide)) (tg_Ke (by decide)) (nuE_L (by decide)) fun j hj => nuE_B (by decide) (by omega)
  have start := holdsX_start (N := 57) (ν := ν0) (L := []) (fx := []) (kp := []) (vs := #[vk, vi, .int .i64 (n : Int)]) (e0 := (ex0 s u).e) (H0 := kiH s u) (n0 := 66) gl256_ok (w := w) hw gp (by show 3 ≤ 57; decide) (by decide) (fun b hb => by show (if b = 64 then pk else if b = 65 then pi else none) = none; rw [if_neg (by omega), if_neg (by omega)]) (fun p hp => by cases hp)
    (fun p hp => by
      simp only [ex0, List.mem_cons, List.not_mem_nil, or_false] at hp
      rcases hp with rfl | rfl | rfl
      · exact ⟨_, rfl, va1⟩
      · exact ⟨_, rfl, vb1⟩
      · exact ⟨_, rfl, vr_i nuE_n⟩)
    (fun p hp => by
      rcases List.mem_append.1 hp with hp | hp
      · obtain ⟨q1, q2, pl, q3, q4⟩ := ga1 p hp
        exact ⟨by rw [q1]; decide, pl, by rw [q1]; exact q3, q4, fun h => by rw [q2] at h; cases h⟩
      · obtain ⟨q1, q2, pl, q3, q4⟩ := gb1 p hp
        exact ⟨by rw [q1]; decide, pl, by rw [q1]; exact q3, q4, fun h => by rw [q2] at h; cases h⟩)
    (fun p hp => by cases hp)
  refine ((callsX (L := []) (gl := gl256) (Q := fun v w' => ∃ u, v = .tuple #[u, .int .i64 0] ∧ Padded w w' u n (exW (keyW nk zk) ni zi) ∧ Below w.heap.size w w') tab_ok (by kernel_rfl) ex_shape start ?_ : (∃ fn, Tryd.prog.funcs[23]? = some fn ∧ fn.body.isSome = true ∧ (fn.name == "runtime.NumGoroutine") = false) ∧ Calls Tryd.prog 23 #[vk, vi, .int .i64 (n : Int)] w fun e w' => ∃ v, e = .returned v ∧ ∃ u, v = .tuple #[u, .int .i64 0] ∧ Padded w w' u n (exW (keyW nk zk) ni zi) ∧ Below w.heap.size w w')).2.mono fun e w' ⟨v, he, u, hv, hP, hB⟩ => ⟨u, by rw [he, hv], hP, hB⟩
  have hd := ex_head s u
  simp only [exHead, Bool.and_eq_true] at hd
  obtain ⟨⟨⟨⟨d1, d2⟩, d3⟩, d4⟩, d5⟩ := hd
  have hF2 : fXb.Hold ν0 := by
    refine ⟨fun p hp => (by cases hp), fun p hp => ?_, fun p hp => by cases hp⟩
    simp only [fXb, List.mem_cons, List.not_mem_nil, or_false] at hp
    rcases hp with rfl | rfl
    · show decide (nuE nk zk ni zi n 0 301 < 0) = false
      rw [nuE_n]
      exact decide_eq_false (by omega)
    · show decide (nuE nk zk ni zi n 0 301 > ((8160 : Nat) : Int)) = false
      rw [nuE_n]
      exact decide_eq_false (by omega)
  have hro : roE.val ν0 = ((n + 32 : Nat) : Int) := by
    show IntKind.i64.wrap (nuE nk zk ni zi n 0 301 + ((32 : Nat) : Int)) = _
    rw [nuE_n, i64_small (by omega) (by omega)]
    omega
  have hF3 : fXc.Hold ν0 := by
    refine ⟨fun p hp => (by cases hp), fun p hp => ?_, fun p hp => by cases hp⟩
    simp only [fXc, List.mem_cons, List.not_mem_nil, or_false] at hp
    rcases hp with rfl | rfl
    · show decide (roE.val ν0 ≥ 0) = true
      rw [hro]
      exact decide_eq_true (by omega)
    · show decide (roE.val ν0 < 1099511627776) = true
      rw [hro]
      exact decide_eq_true (by omega)
  obtain ⟨R, h1, h2⟩ : ∃ R, n ≤ 32 * R ∧ 32 * R < n + 32 := ⟨(n + 31) / 32, by omega, by omega⟩
  have hFz : fXz.Hold (nuE nk zk ni zi n R) := by
    refine ⟨fun p hp => (by cases hp), fun p hp => ?_, fun p hp => by cases hp⟩
    simp only [fXz, List.mem_cons, List.not_mem_nil, or_false] at hp
    rcases hp with rfl | rfl
    · show decide (nuE nk zk ni zi n R (pinA (tg 10)) ≤ nuE nk zk ni zi n R 301) = true
      rw [nuE_A (by decide), nuE_n]
      exact decide_eq_true (show ((0 : Nat) : Int) ≤ (n : Int) by omega)
    · show decide (nuE nk zk ni zi n R 301 ≤ nuE nk zk ni zi n R (pinL (tg 10))) = true
      rw [nuE_L (by decide), nuE_n]
      exact decide_eq_true (show (n : Int) ≤ ((32 * R : Nat) : Int) by omega)
  refine seqN (runEx (none_f _) (noE _) d1) (seqN (runEx hF2 (noE _) d2) (seqN (runEx hF3 (noE _) d3) (seqN (runEx (none_f _) (noE _) d4) (seqN (Mid := HoldsX 57 w (nuE nk zk ni zi n R) gl256 [] [] [] exQ) ?_ ?_))))
  · refine seqN (Mid := HoldsX 57 w ν0 gl256 [] [] [] (exN false s u [(10, sI 302)])) ((runEx (none_f _) (noE _) d5).weak (fun _ _ h => h) fun exx a w' h => ⟨h.1, ex_open h.2⟩) ?_
    refine Tri.block (ex_loop hs hu hnk hni (by omega) h1 h2) (fun a w h => by cases h.1) (fun a w h => ⟨rfl, h.2⟩) (fun j a w hj h => ?_) (fun a w h => by cases h.1)
    have := h.1
    simp only [Ex.exit.injEq] at this
    exact (hj this).elim
  · refine (runEx hFz (noE _) ex_goZ).weak (fun _ _ h => h) fun exx a w' h => ⟨.inr h.1, _, exY, _, [], [], h.2, ex_res, fun ρ v _ hh ho hB hv => ?_⟩
    cases hv
    rename_i vs hsz hvs
    have hlen : vs.size = 2 := by rw [← hsz]; rfl
    obtain ⟨x, y, rfl⟩ : ∃ x y, vs = #[x, y] := by
      match vs, hlen with
      | ⟨[x, y]⟩, _ => exact ⟨x, y, rfl⟩
    have hx := hvs 0 _ x rfl rfl
    have hy := hvs 1 _ y rfl rfl
    cases hy
    exact ⟨x, rfl, win_padded (t := 10) (k := pAe 10) (l := .s 301) hh (by kernel_rfl) ho rfl hx (by decide) (tg_Ke (by decide)) rfl nuE_n (by rw [nuE_L (by decide)]; show (n : Int) ≤ ((32 * R : Nat) : Int); omega) fun j hj => nuE_B (by decide) (by omega), ⟨hB.os, hB.tape, hB.output, hB.size, fun k hk => hB.block k hk fun p hp => by cases hp⟩⟩
/-- Its call, as a row. -/
def rowEx (x y : AV) (k : AI) (need : Gl) (T : Nat) : RowM := ⟨23, [x, y, .i .i64 k], need, [.new T, .v (iN 0)]⟩
theorem rowEx_T {ν : Nat → Int} {need : Gl} {x y : AV} {k : AI} {nk ni n T : Nat} {zk zi : Wd} (hx : IsText ν need x nk zk) (hy : IsText ν need y ni zi) (hk : k.val ν = (n : Int)) (h1 : nk < 1000000000) (h2 : ni < 800000000) (hn : n ≤ 8160) (hT : mapTag < T ∧ T ≤ winTag) (hK : pinK T = .u8) (hL : ν (pinL T) = (n : Int)) (hB : ∀ j, j < n → ν (pinB T j) = exW (keyW nk zk) ni zi j) : (rowEx x y k need T).Ok ν Tryd.prog gl256 := by
  refine ⟨⟨_, Tryd.func23, by kernel_rfl, by kernel_rfl⟩, fun ρ w vs hw hnd hl => ?_⟩
  have hlen : vs.size = 3 := by rw [← hl.1]; rfl
  obtain ⟨a, b, c, rfl⟩ : ∃ a b c, vs = #[a, b, c] := by
    match vs, hlen with
    | ⟨[a, b, c]⟩, _ => exact ⟨a, b, c, rfl⟩
  have ha := hl.2 0 _ a rfl rfl
  have hb := hl.2 1 _ b rfl rfl
  have hc := hl.2 2 _ c rfl rfl
  cases hc
  rw [hk]
  refine (Expand_ok hw (hx ρ w a hnd ha) (hy ρ w b hnd hb) h1 h2 hn).mono fun e w' ⟨r, he, ⟨cb, o, c, hr, hcc, hcb, C, ty, fz, hC, hz⟩, hBw⟩ => ⟨[r, .int .i64 0], he, ⟨⟨hT, cb, o, n, c, hr, hcc, hL, hcb, C, ty, fz, hC, fun j hj => ?_⟩, rfl, trivial⟩, hBw⟩
  have hj : (j : Int) < ν (pinL T) := hj
  rw [hL] at hj
  rw [hK, hB j (by omega)]
  exact hz j (by omega)
end Go.Proofs.YtjdcaipgfolgoaaDoor
