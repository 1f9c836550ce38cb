/-
  MacRows: from round to round. Own work.
-/
import Derived.Test.YtjdcaipgfolgoaaDoorXn
namespace Go.Proofs.YtjdcaipgfolgoaaDoor
open Go.Sh
open Go.ChangeShapes Go.WideShapes Go.ChangeAt Go.RowKit
set_option maxRecDepth 100000

theorem runN {N : Nat} {w0 : World} {ic : IC} {i o : Now} {exx : Ex} {d : Nat} {ν : Nat → Int} {F : Facts} {TM : List RowM} (hF : F.Hold ν) (hT : ∀ r ∈ TM, r.Ok ν Tryd.prog gl256) (h : goesX F tree [] gl256 [] TM [] 60 d ic i exx o = true) : Tri Tryd.prog N ic (HoldsX N w0 ν gl256 [] [] [] i) fun ex' a w' => ex' = exx ∧ HoldsX N w0 ν gl256 [] [] [] o a w' :=
  Tri.runX hF mixed tab_ok gl256_ok (fun r hr => by cases hr) (fun r hr => by cases hr) hT (fun r hr => by cases hr) h
theorem rw_get1 (s u : Hd) (l : List (Nat × AV)) : ∀ p ∈ (rw1 s u l).H, (heapL ((rw1 s u l).H ++ gl256) 67).get p.1 = some p.2 := by
  intro p hp
  cases s <;> cases u <;> simp only [rw1, hpR, Hd.gl, List.nil_append, List.cons_append, List.mem_cons, List.not_mem_nil, or_false] at hp <;> rcases hp with rfl | rfl | rfl <;> kernel_rfl
/-- What lies where it did, but for the window's cells. -/
theorem rw_getM (q : Bool) (s u : Hd) (w : Nat) : ∀ p ∈ (rwM q s u w).H, (heapL ((rwM q s u w).H ++ gl256) (rwM q s u w).n).get p.1 = some p.2 := by
  intro p hp
  cases q <;> cases s <;> cases u <;> simp only [rwM, hpR, Hd.gl, lastC, List.nil_append, List.cons_append, if_true, List.mem_cons, List.not_mem_nil, or_false] at hp <;> rcases hp with rfl | rfl | rfl | rfl <;> kernel_rfl
section
variable {w0 : World} {nk ni n k : Nat} {zk zi : Wd} {s u : Hd}
theorem keepM {k k' : Nat} (t : Nat) (ht : t = 2 ∨ t = 4) (hnk : nk ≤ 1000) (hni : ni ≤ 1000) : nuMr nk zk ni zi n k' (pinL (tg t)) = nuMr nk zk ni zi n k (pinL (tg t)) ∧ ∀ j : Nat, (j : Int) < nuMr nk zk ni zi n k (pinL (tg t)) → nuMr nk zk ni zi n k' (pinB (tg t) j) = nuMr nk zk ni zi n k (pinB (tg t) j) := by
  rcases ht with rfl | rfl
  · refine ⟨nuMr_L2.trans nuMr_L2.symm, fun j hj => ?_⟩
    rw [nuMr_L2] at hj
    rw [nuMr_B2 (by omega), nuMr_B2 (by omega)]
  · refine ⟨nuMr_L4.trans nuMr_L4.symm, fun j hj => ?_⟩
    rw [nuMr_L4] at hj
    rw [nuMr_B4 (by omega), nuMr_B4 (by omega)]
theorem exW_at {K : Wd} {j : Nat} (hj : j < 32) : exT K ni zi (k + 1) j = exW K ni zi (32 * k + j) := by
  show _ = exT K ni zi ((32 * k + j) / 32 + 1) ((32 * k + j) % 32)
  rw [show (32 * k + j) / 32 = k by omega, show (32 * k + j) % 32 = j by omega]
theorem pAe_conc : conc (nuMr nk zk ni zi n k) (.i .i64 (pAe 16)) = some (.int .i64 ((32 * k : Nat) : Int)) := by
  have e : (pAe 16).val (nuMr nk zk ni zi n k) = ((32 * k : Nat) : Int) := nuMr_A16
  show some (Value.int .i64 ((pAe 16).val (nuMr nk zk ni zi n k))) = _
  rw [e]
/-- The first round begins. -/
theorem rw_open {a : Act} {w : World} (hn : n ≤ 1000) (h0 : 0 < n) (h : HoldsX 87 w0 (nuMr nk zk ni zi n 0) gl256 [] [] [] (rw1 s u [(9, .nsl), (10, iN 0), (11, iN 1)]) a w) : HoldsX 87 w0 (nuMr nk zk ni zi n 0) gl256 [] [] [] (rwN false s u (wR n 0)) a w := by
  have gt := rw_get1 s u [(9, .nsl), (10, iN 0), (11, iN 1)]
  have hw := wR_le n 0
  have hfit := wR_fit (n := n) (k := 0) (by omega)
  refine HoldsX.re [64, 65, 66] (fun b => b) (fun b pl => if b = 66 then mv 0 0 pl else pl) gl256_ok h (by decide) (fun b pl => ?_) (fun b hb => ?_) (fun b hb b' hb' e => e) (fun p hp => ?_) (fun p hp => ?_)
  · split <;> rfl
  · simp only [List.mem_cons, List.not_mem_nil, or_false] at hb
    rcases hb with rfl | rfl | rfl <;> exact ⟨by decide, by decide⟩
  · simp only [argR, lastR, if_false, Bool.false_eq_true, List.cons_append, List.nil_append, List.mem_cons, List.not_mem_nil, or_false] at hp
    rcases hp with rfl | rfl | rfl | rfl | rfl | rfl | rfl
    · exact ⟨kvR s, by simp [argR], hd_slotR s (by simp) rfl (fun _ => rfl) rfl⟩
    · exact ⟨ivR u, by simp [argR], hd_slotR u (by simp) rfl (fun _ => rfl) rfl⟩
    · exact ⟨sI 301, by simp [argR], SlotR.conc (u := .int .i64 n) (sI_conc nuMr_n) (sI_conc nuMr_n)⟩
    · exact ⟨sl8 66 12, by simp [argR], SlotR.unpin (b := 66) (m := n) (a' := 0) (by simp) rfl (fun _ => rfl) nuMr_A16 nuMr_L12 nuMr_n (by omega) (by omega)⟩
    · exact ⟨.nsl, by simp [argR], SlotR.nsl⟩
    · exact ⟨iN 0, by simp [argR], SlotR.conc (u := .int .i64 ((32 * 0 : Nat) : Int)) rfl pAe_conc⟩
    · exact ⟨iN 1, by simp [argR], SlotR.conc (u := .int .i64 ((0 + 1 : Nat) : Int)) rfl (sI_conc nuMr_i)⟩
  · simp only [hpR, lastC, if_false, Bool.false_eq_true, List.append_assoc, List.mem_append, List.mem_cons, List.not_mem_nil, or_false] at hp
    rcases hp with hp | hp | rfl
    · obtain ⟨q1, q2⟩ := refl_blk (ν := nuMr nk zk ni zi n 0) (tgT (by decide) (by decide)) p hp
      exact ⟨by rw [q1]; simp, p.2, gt p (by simp [rw1, hpR, hp]), id, by rw [q1]; exact q2⟩
    · obtain ⟨q1, q2⟩ := refl_blk (ν := nuMr nk zk ni zi n 0) (tgT (by decide) (by decide)) p hp
      exact ⟨by rw [q1]; simp, p.2, gt p (by simp [rw1, hpR, hp]), id, by rw [q1]; exact q2⟩
    · refine ⟨by simp [winR], ⟨[], tg 12, false⟩, gt (66, ⟨[], tg 12, false⟩) (by simp [rw1]), id, ?_⟩
      exact BlkR.unpin (t' := 16) (m := n) (a' := 0) (g := exW (keyW nk zk) ni zi) (tgT (by decide) (by decide)) (by decide) (tg_Ke (by decide)) (tg_Ke (by decide)) nuMr_L12 nuMr_A16 nuMr_L16 (fun j hj => nuMr_B12 (by omega)) (fun j hj _ => nuMr_B16 (by omega)) (fun j hj => by rw [nm_val, nuMr_S (by omega), exW_at (by omega)]) (by omega)
/-- A round is over, and one more follows. -/
theorem rw_next {q : Bool} {a : Act} {w : World} (hnk : nk ≤ 1000) (hni : ni ≤ 1000) (hn : n ≤ 1000) (h1 : 32 * (k + 1) < n) (h : HoldsX 87 w0 (nuMr nk zk ni zi n k) gl256 [] [] [] (rwM q s u (wR n k)) a w) : HoldsX 87 w0 (nuMr nk zk ni zi n (k + 1)) gl256 [] [] [] (rwN true s u (wR n (k + 1))) a w := by
  have hw0 : wR n k = 32 := by unfold wR; rw [if_pos (by omega)]
  have hw := wR_le n (k + 1)
  have hfit := wR_fit h1
  let σ : Nat → Nat := fun b => if b = 67 then nxR q u - 1 else b
  let f : Nat → Pl → Pl := fun b pl => if b = 66 then mv (32 * k) (32 * (k + 1)) pl else pl
  have e67 : σ 67 = nxR q u - 1 := if_pos rfl
  have e66 : σ 66 = 66 := if_neg (by decide)
  have e65 : σ 65 = 65 := if_neg (by decide)
  have e64 : σ 64 = 64 := if_neg (by decide)
  have f66 : ∀ pl, f 66 pl = mv (32 * k) (32 * (k + 1)) pl := fun pl => if_pos rfl
  have f67 : ∀ pl, f 67 pl = pl := fun pl => if_neg (by decide)
  have f64 : ∀ pl, f 64 pl = pl := fun pl => if_neg (by decide)
  have f65 : ∀ pl, f 65 pl = pl := fun pl => if_neg (by decide)
  have big : 71 ≤ nxR q u := by cases q <;> cases u <;> decide
  have gt := rw_getM q s u (wR n k)
  refine HoldsX.re [64, 65, 66, 67] σ f gl256_ok h (by decide) (fun b pl => ?_) (fun b hb => ?_) (fun b hb b' hb' e => ?_) (fun p hp => ?_) (fun p hp => ?_)
  · show (if b = 66 then mv (32 * k) (32 * (k + 1)) pl else pl).cb = pl.cb
    split <;> rfl
  · simp only [List.mem_cons, List.not_mem_nil, or_false] at hb
    rcases hb with rfl | rfl | rfl | rfl <;> exact ⟨by decide, by decide⟩
  · simp only [List.mem_cons, List.not_mem_nil, or_false] at hb hb'
    rcases hb with rfl | rfl | rfl | rfl <;> rcases hb' with rfl | rfl | rfl | rfl <;> first | rfl | (exfalso; simp only [e64, e65, e66, e67] at e; omega)
  · simp only [argR, lastR, if_true, List.cons_append, List.nil_append, List.mem_cons, List.not_mem_nil, or_false] at hp
    rcases hp with rfl | rfl | rfl | rfl | rfl | rfl | rfl
    · exact ⟨kvR s, by simp [argR], hd_slotR s (by simp) e64 f64 (keepM 2 (.inl rfl) hnk hni).1⟩
    · exact ⟨ivR u, by simp [argR], hd_slotR u (by simp) e65 f65 (keepM 4 (.inr rfl) hnk hni).1⟩
    · exact ⟨sI 301, by simp [argR], SlotR.conc (u := .int .i64 n) (sI_conc nuMr_n) (sI_conc nuMr_n)⟩
    · exact ⟨winA' (wR n k), by simp [argR], SlotR.win (b := 66) (σ := σ) (a := 32 * k) (a' := 32 * (k + 1)) (m := n) (by simp) e66 f66 nuMr_A16 nuMr_A16 nuMr_n nuMr_n (by omega)⟩
    · exact ⟨lastR true (nxR q u - 1), by simp [argR], SlotR.sl (b := 67) (σ := σ) (o := 0) (l := nA 32) (l' := nA 32) (c := .own 1) (by simp) e67 f67 (nA_val.trans nA_val.symm)⟩
    · refine ⟨.i .i64 (.e .add .i64 (pAe 16) (nA 32)), by simp [argR], SlotR.conc (u := .int .i64 ((32 * (k + 1) : Nat) : Int)) ?_ pAe_conc⟩
      show some (Value.int .i64 (IntKind.i64.wrap (nuMr nk zk ni zi n k (pinA (tg 16)) + ((32 : Nat) : Int)))) = _
      rw [nuMr_A16, i64_small (by omega) (by omega)]
      congr 2
    · refine ⟨.i .i64 (.e .add .i64 (.s 302) (nA 1)), by simp [argR], SlotR.conc (u := .int .i64 ((k + 1 + 1 : Nat) : Int)) ?_ (sI_conc nuMr_i)⟩
      refine (add1_conc nuMr_i).trans ?_
      rw [i64_small (by omega) (by omega)]
      congr 2
  · simp only [hpR, lastC, if_true, List.append_assoc, List.mem_append, List.mem_cons, List.not_mem_nil, or_false] at hp
    rcases hp with hp | hp | rfl | rfl
    · obtain ⟨q1, q2⟩ := hd_blkR (ν := nuMr nk zk ni zi n k) (ν' := nuMr nk zk ni zi n (k + 1)) (g := f 64) s f64 (tgT (by decide) (by decide)) (keepM 2 (.inl rfl) hnk hni).1 (keepM 2 (.inl rfl) hnk hni).2 p hp
      refine ⟨by rw [q1]; simp, p.2, ?_, id, by rw [q1]; exact q2⟩
      have := gt p (by simp [rwM, hpR, hp])
      rw [q1, e64]
      rw [q1] at this
      exact this
    · obtain ⟨q1, q2⟩ := hd_blkR (ν := nuMr nk zk ni zi n k) (ν' := nuMr nk zk ni zi n (k + 1)) (g := f 65) u f65 (tgT (by decide) (by decide)) (keepM 4 (.inr rfl) hnk hni).1 (keepM 4 (.inr rfl) hnk hni).2 p hp
      refine ⟨by rw [q1]; simp, p.2, ?_, id, by rw [q1]; exact q2⟩
      have := gt p (by simp [rwM, hpR, hp])
      rw [q1, e65]
      rw [q1] at this
      exact this
    · refine ⟨by simp [winR], ⟨rowC .u8 (nmA 400) (wR n k), wg 16, false⟩, by show (heapL _ _).get (σ 66) = _; rw [e66]; exact gt (winR (wR n k)) (by simp [rwM]), id, ?_⟩
      show BlkR _ _ (f 66) _ _
      rw [show f 66 = mv (32 * k) (32 * (k + 1)) from funext f66]
      exact BlkR.winF (t := 16) (t' := 16) (a := 32 * k) (a' := 32 * (k + 1)) (m := n) (g := exW (keyW nk zk) ni zi) (by decide) (by decide) (tg_Ke (by decide)) (tg_Ke (by decide)) nuMr_A16 nuMr_L16 nuMr_A16 nuMr_L16 (fun j hj _ => nuMr_B16 (by omega)) (fun j hj => by rw [nm_val, nuMr_S (by omega), exW_at (by omega)]) (fun j hj _ => nuMr_B16 (by omega)) (fun j hj => by rw [nm_val, nuMr_S (by omega), exW_at (by omega)]) (by omega)
    · refine ⟨by simp, ⟨rowC .u8 (nmA 400) 32, eU, true⟩, by show (heapL _ _).get (σ 67) = _; rw [e67]; exact gt (nxR q u - 1, ⟨rowC .u8 (nmA 400) 32, eU, true⟩) (by simp [rwM, lastC]), fun _ => rfl, ?_⟩
      show BlkR _ _ (f 67) _ _
      rw [show f 67 = fun pl => pl from funext f67]
      refine BlkR.row (by decide) fun j hj => ?_
      rw [nm_val, nm_val, nuMr_S hj, nuMr_T hj]
/-- A round is over, and it was the last. -/
theorem rw_last {q : Bool} {a : Act} {w : World} {v : Nat} (hk : k < 1000) (h : HoldsX 87 w0 (nuMr nk zk ni zi n k) gl256 [] [] [] (rwM q s u v) a w) : HoldsX 87 w0 (nuMr nk zk ni zi n (k + 1)) gl256 [] [] [] rwX a w := by
  refine HoldsX.re [] (fun b => b) (fun _ pl => pl) gl256_ok h (by decide) (fun b pl => rfl) (fun b hb => by cases hb) (fun b hb => by cases hb) (fun p hp => ?_) (fun p hp => by cases hp)
  simp only [List.mem_cons, List.not_mem_nil, or_false] at hp
  rcases hp with rfl | rfl
  · exact ⟨sI 301, by simp [argR], SlotR.conc (u := .int .i64 n) (sI_conc nuMr_n) (sI_conc nuMr_n)⟩
  · refine ⟨.i .i64 (.e .add .i64 (pAe 16) (nA 32)), by simp [argR], SlotR.conc (u := .int .i64 ((32 * (k + 1) : Nat) : Int)) ?_ pAe_conc⟩
    show some (Value.int .i64 (IntKind.i64.wrap (nuMr nk zk ni zi n k (pinA (tg 16)) + ((32 : Nat) : Int)))) = _
    rw [nuMr_A16, i64_small (by omega) (by omega)]
    congr 2
/-- There is no round. -/
theorem rw_none {a : Act} {w : World} (h : HoldsX 87 w0 (nuMr nk zk ni zi n 0) gl256 [] [] [] (rw1 s u [(9, .nsl), (10, iN 0), (11, iN 1)]) a w) : HoldsX 87 w0 (nuMr nk zk ni zi n 0) gl256 [] [] [] rwX a w := by
  refine HoldsX.re [] (fun b => b) (fun _ pl => pl) gl256_ok h (by decide) (fun b pl => rfl) (fun b hb => by cases hb) (fun b hb => by cases hb) (fun p hp => ?_) (fun p hp => by cases hp)
  simp only [List.mem_cons, List.not_mem_nil, or_false] at hp
  rcases hp with rfl | rfl
  · exact ⟨sI 301, by simp [argR], SlotR.conc (u := .int .i64 n) (sI_conc nuMr_n) (sI_conc nuMr_n)⟩
  · exact ⟨iN 0, by simp [argR], SlotR.conc (u := .int .i64 ((32 * 0 : Nat) : Int)) rfl pAe_conc⟩
end
end Go.Proofs.YtjdcaipgfolgoaaDoor
