/-
  The page's Tag: what it answers. Own work.
-/
import Derived.Test.YtbdihdncnpajgaaPom
namespace Go.Proofs.Ytbdihdncnpajgaa
open Go.Sh
open Go.ChangeShapes Go.WideShapes Go.ChangeAt Go.RowKit
set_option maxRecDepth 100000

section
variable {K z : Wd} {k zz : Nat → Nat} {n q : Nat}
theorem pq_get (l : List (Nat × AV)) : ∀ p ∈ (pgo l 3).H, (heapL ((pgo l 3).H ++ []) 69).get p.1 = some p.2 := by
  intro p hp
  simp only [pgo, tpB, List.cons_append, List.nil_append, List.mem_cons, List.not_mem_nil, or_false] at hp
  rcases hp with rfl | rfl | rfl | rfl | rfl <;> kernel_rfl
theorem pQ_get (w : Nat) (kk it : AI) (g : Nat → AI) (n : Nat) (hn : n = 69 ∨ n = 70) : ∀ p ∈ (pgN w kk g it n).H, (heapL ((pgN w kk g it n).H ++ []) n).get p.1 = some p.2 := by
  intro p hp
  simp only [pgN, List.mem_cons, List.not_mem_nil, or_false] at hp
  rcases hn with rfl | rfl <;> rcases hp with rfl | rfl | rfl | rfl | rfl <;> kernel_rfl
def pqD : List Nat := [64, 65, 66, 67, 68]
theorem pqD_ok (m : Nat) (h : 69 ≤ m) : ∀ b ∈ pqD, gmax ≤ b ∧ b < m := fun b hb => by
  simp only [pqD, List.mem_cons, List.not_mem_nil, or_false] at hb
  rcases hb with rfl | rfl | rfl | rfl | rfl <;> exact ⟨by decide, by omega⟩
theorem rkA_val {j : Nat} : (rkA j).val (nuQ K k n z zz q) = if j < 16 then (hfN k j : Int) else 0 := by
  unfold rkA
  by_cases c : j < 16
  · rw [if_pos (by simpa using c), if_pos c]
    exact nuQ_r c
  · rw [if_neg (by simpa using c), if_neg c]
    rfl
theorem and252W : (List.range 256).all (fun x => decide (arith .and .u32 ((x : Nat) : Int) ((252 : Nat) : Int) = ((x / 4 * 4 : Nat) : Int))) = true := by decide +kernel
theorem rpA_val (hK : ∀ j, j < 32 → K j = (k j : Int) ∧ k j < 256) {j : Nat} : (rpA 2 j).val (nuQ K k n z zz q) = if j < 16 then (hfN k j : Int) else 0 := by
  show (if Nat.blt j 16 then (if Nat.beq (j % 4) 3 then eA .and .u32 (cA .u32 (.s j)) (nA 15) else if Nat.beq (j % 4) 0 && Nat.blt 0 j then eA .and .u32 (cA .u32 (.s j)) (nA 252) else cA .u32 (.s j)) else .c 0).val _ = _
  by_cases c : j < 16
  · rw [if_pos (by simpa using c), if_pos c]
    obtain ⟨h1, h2⟩ := hK j (by omega)
    have hc : (cA .u32 (.s j)).val (nuQ K k n z zz q) = (k j : Int) := by
      rw [cA_val]
      show IntKind.u32.wrap (nuQ K k n z zz q j) = _
      rw [nuQ_K (by omega), h1, w_u32, Nat.mod_eq_of_lt (by omega)]
    unfold hfN
    by_cases c3 : j % 4 = 3
    · rw [if_pos (by simpa using c3), if_pos c3, eA_val, hc, nA_val, andW _ 15 4 (by decide) (by decide) (by omega)]
    · rw [if_neg (by simpa using c3), if_neg c3]
      by_cases c0 : j % 4 = 0 ∧ 0 < j
      · rw [if_pos (by simpa using c0), if_pos c0, eA_val, hc, nA_val]
        exact of_decide_eq_true (List.all_eq_true.1 and252W _ (List.mem_range.2 h2))
      · rw [if_neg (by simpa using c0), if_neg c0, hc]
  · rw [if_neg (by simpa using c), if_neg c]
    rfl
/-- The window opens. -/
theorem pq_open {w0 : World} {ac : Act} {w : World} (hK : ∀ j, j < 32 → K j = (k j : Int) ∧ k j < 256) (hn : n < 1000000000000) (h : HoldsX 128 w0 (nuQ K k n z zz 0) [] [] [] [] (pgo [(10, iN 0)] 3) ac w) : HoldsX 128 w0 (nuQ K k n z zz 0) [] [] [] [] (pgI (wq n 0) (.s 302)) ac w := by
  let fm : Nat → Pl → Pl := fun b pl => if b = 64 then mv 0 0 pl else pl
  have f64 : ∀ pl, fm 64 pl = mv 0 0 pl := fun pl => if_pos rfl
  have fo : ∀ b, b ≠ 64 → ∀ pl, fm b pl = pl := fun b hb pl => if_neg hb
  have gt := pq_get [(10, iN 0)]
  have a0 : aq n 0 = 0 := by unfold aq; omega
  have hw : 0 + wq n 0 ≤ n := by have := aq_wq (n := n) (q := 0); omega
  have hA : nuQ K k n z zz 0 (pinA (tg 2)) = ((0 : Nat) : Int) := by rw [nuQ_A, a0]
  have hw1 : wq n 0 ≤ 16 := wq_le
  refine HoldsX.re pqD (fun b => b) fm gl0_ok h (by decide) (fun b pl => ?_) (pqD_ok _ (by decide)) (fun b hb b' hb' e => e) (fun p hp => ?_) (fun p hp => ?_)
  · show (if b = 64 then mv 0 0 pl else pl).cb = pl.cb
    split <;> rfl
  · simp only [List.mem_cons, List.not_mem_nil, or_false] at hp
    rcases hp with rfl | rfl | rfl | rfl | rfl | rfl
    · exact ⟨ps 64 2, by simp [tpS], SlotR.unpin (b := 64) (m := n) (a' := 0) (by simp [pqD]) rfl f64 nuQ_i nuQ_L nuQ_n hw (by omega)⟩
    · exact ⟨.p 65 0, by simp [tpS], SlotR.p (by simp [pqD]) rfl (fo _ (by decide))⟩
    · exact ⟨.p 66 0, by simp [tpS], SlotR.p (by simp [pqD]) rfl (fo _ (by decide))⟩
    · exact ⟨.p 67 0, by simp [tpS], SlotR.p (by simp [pqD]) rfl (fo _ (by decide))⟩
    · exact ⟨.p 68 0, by simp [tpS], SlotR.p (by simp [pqD]) rfl (fo _ (by decide))⟩
    · exact ⟨iN 0, by simp [tpS], SlotR.conc (u := .int .i64 ((16 * 0 : Nat) : Int)) rfl (sI_conc nuQ_i)⟩
  · simp only [List.mem_cons, List.not_mem_nil, or_false] at hp
    rcases hp with rfl | rfl | rfl | rfl | rfl
    · refine ⟨by simp [pqD, wT], _, gt (pn 64 2) (by simp [pgo, tpB]), (fun h => by cases h), ?_⟩
      show BlkR _ _ (fm 64) _ _
      rw [show fm 64 = mv 0 0 from funext f64]
      exact BlkR.unpin (t' := 2) (m := n) (a' := 0) (g := z) (tgT (by decide) (by decide)) (by decide) (tg_Ke (by decide)) (tg_Ke (by decide)) nuQ_L hA nuQ_L (fun j hj => nuQ_B (by omega)) (fun j hj _ => nuQ_B (by omega)) (fun j hj => by rw [nm_val, nuQ_x (by omega)]) hw
    · refine ⟨by simp [pqD, bxK], _, gt bxK (by simp [pgo, tpB]), id, ?_⟩
      show BlkR _ _ (fm 65) _ _
      rw [show fm 65 = fun pl => pl from funext (fo _ (by decide))]
      exact BlkR.row (by decide) fun j hj => rfl
    · refine ⟨by simp [pqD, bxT], _, gt (bxT zeroA) (by simp [pgo, tpB]), id, ?_⟩
      show BlkR _ _ (fm 66) _ _
      rw [show fm 66 = fun pl => pl from funext (fo _ (by decide))]
      exact BlkR.row (g := zeroA) (g' := zeroA) (by decide) fun j hj => by rw [zeroA_val]
    · refine ⟨by simp [pqD, m64], _, gt (m64 67 (rpA 2)) (List.mem_append.2 (.inl List.mem_cons_self)), id, ?_⟩
      show BlkR _ _ (fm 67) _ _
      rw [show fm 67 = fun pl => pl from funext (fo _ (by decide))]
      exact BlkR.row (by decide) fun j hj => by rw [rpA_val hK, rkA_val]
    · refine ⟨by simp [pqD, m64], _, gt (m64 68 zeroA) (List.mem_append.2 (.inl (List.mem_cons_of_mem _ List.mem_cons_self))), id, ?_⟩
      show BlkR _ _ (fm 68) _ _
      rw [show fm 68 = fun pl => pl from funext (fo _ (by decide))]
      exact BlkR.row (g := zeroA) (g' := nmA 1000) (by decide) fun j hj => by rw [nm_val, nuQ_a hj, zeroA_val, show accN (rN k) n zz 0 = 0 from rfl, Nat.zero_div]; rfl
/-- A round is over. -/
theorem pq_next {w0 : World} {kk : AI} {w' : Nat} {ac : Act} {w : World} (hn : n < 1000000000000) (hlt : 16 * q < n) (hkk : kk.val (nuQ K k n z zz (q + 1)) = ((aq n (q + 1) : Nat) : Int)) (hw' : w' = wq n (q + 1))
    (h : HoldsX 128 w0 (nuQ K k n z zz q) [] [] [] [] (pgM (wq n q)) ac w) : HoldsX 128 w0 (nuQ K k n z zz (q + 1)) [] [] [] [] (pgI w' kk) ac w := by
  subst hw'
  have hw1 : wq n q ≤ 16 := wq_le
  have hw2 : wq n (q + 1) ≤ 16 := wq_le
  have haq := aq_lt hlt
  have hfit : aq n (q + 1) + wq n (q + 1) ≤ n := aq_wq
  let fm : Nat → Pl → Pl := fun x pl => if x = 64 then mv (16 * q) (aq n (q + 1)) pl else pl
  have f64 : ∀ pl, fm 64 pl = mv (16 * q) (aq n (q + 1)) pl := fun pl => if_pos rfl
  have fo : ∀ b, b ≠ 64 → ∀ pl, fm b pl = pl := fun b hb pl => if_neg hb
  have gt := pQ_get (wq n q) (.s 302) (.e .add .i64 (.s 302) (nA 16)) (nmA 1200) 70 (.inr rfl)
  have hA : nuQ K k n z zz q (pinA (tg 2)) = ((16 * q : Nat) : Int) := by rw [nuQ_A, haq]
  refine HoldsX.re pqD (fun b => b) fm gl0_ok h (by decide) (fun x pl => ?_) (pqD_ok _ (by decide)) (fun b hb b' hb' e => e) (fun p hp => ?_) (fun p hp => ?_)
  · show (if x = 64 then mv (16 * q) (aq n (q + 1)) pl else pl).cb = pl.cb
    split <;> rfl
  · simp only [List.mem_cons, List.not_mem_nil, or_false] at hp
    rcases hp with rfl | rfl | rfl | rfl | rfl | rfl
    · exact ⟨wS 64 (wq n q) .any, by simp [wS], SlotR.win (b := 64) (a := 16 * q) (a' := aq n (q + 1)) (m := n) (by simp [pqD]) rfl f64 nuQ_i hkk nuQ_n nuQ_n hfit⟩
    · exact ⟨.p 65 0, by simp, SlotR.p (by simp [pqD]) rfl (fo _ (by decide))⟩
    · exact ⟨.p 66 0, by simp, SlotR.p (by simp [pqD]) rfl (fo _ (by decide))⟩
    · exact ⟨.p 67 0, by simp, SlotR.p (by simp [pqD]) rfl (fo _ (by decide))⟩
    · exact ⟨.p 68 0, by simp, SlotR.p (by simp [pqD]) rfl (fo _ (by decide))⟩
    · refine ⟨.i .i64 (.e .add .i64 (.s 302) (nA 16)), by simp, SlotR.conc (u := .int .i64 ((16 * (q + 1) : Nat) : Int)) ?_ (sI_conc nuQ_i)⟩
      show some (Value.int .i64 (IntKind.i64.wrap (nuQ K k n z zz q 302 + ((16 : Nat) : Int)))) = _
      rw [nuQ_i, i64_small (by omega) (by omega)]
      congr 2
  · simp only [List.mem_cons, List.not_mem_nil, or_false] at hp
    rcases hp with rfl | rfl | rfl | rfl | rfl
    · refine ⟨by simp [pqD, wT], _, gt (wT 64 2 400 (wq n q) false) (by simp [pgN]), id, ?_⟩
      show BlkR _ _ (fm 64) _ _
      rw [show fm 64 = mv (16 * q) (aq n (q + 1)) from funext f64]
      exact BlkR.winF (t := 2) (t' := 2) (a := 16 * q) (a' := aq n (q + 1)) (m := n) (g := z) (by decide) (by decide) (tg_Ke (by decide)) (tg_Ke (by decide)) hA nuQ_L nuQ_A nuQ_L (fun j hj _ => nuQ_B (by omega)) (fun j hj => by rw [nm_val, nuQ_x (by omega)]) (fun j hj _ => nuQ_B (by omega)) (fun j hj => by rw [nm_val, nuQ_x (by omega)]; congr 1; unfold aq; unfold wq at hj; omega) hfit
    · refine ⟨by simp [pqD, bxK], _, gt bxK (by simp [pgN]), id, ?_⟩
      show BlkR _ _ (fm 65) _ _
      rw [show fm 65 = fun pl => pl from funext (fo _ (by decide))]
      exact BlkR.row (by decide) fun j hj => by rw [nm_val, nm_val, Nat.zero_add, nuQ_K hj, nuQ_K hj]
    · refine ⟨by simp [pqD, bxT], _, gt (bxT zeroA) (by simp [pgN]), id, ?_⟩
      show BlkR _ _ (fm 66) _ _
      rw [show fm 66 = fun pl => pl from funext (fo _ (by decide))]
      exact BlkR.row (g := zeroA) (g' := zeroA) (by decide) fun j hj => by rw [zeroA_val, zeroA_val]
    · refine ⟨by simp [pqD, m64], _, gt (m64 67 rkA) (by simp [pgN]), id, ?_⟩
      show BlkR _ _ (fm 67) _ _
      rw [show fm 67 = fun pl => pl from funext (fo _ (by decide))]
      exact BlkR.row (by decide) fun j hj => by rw [rkA_val, rkA_val]
    · refine ⟨by simp [pqD, m64], _, gt (m64 68 (nmA 1200)) (by simp [pgN]), id, ?_⟩
      show BlkR _ _ (fm 68) _ _
      rw [show fm 68 = fun pl => pl from funext (fo _ (by decide))]
      exact BlkR.row (by decide) fun j hj => by rw [nm_val, nm_val, nuQ_c hj, nuQ_a hj]
/-- Which round it is: so many are left, or more than sixteen. -/
def wr (n q : Nat) : Nat := min 17 (n - 16 * q)
theorem wr_w (hlt : 16 * q < n) : w16 (wr n q) = wq n q := by
  unfold w16 wr wq
  by_cases c : min 17 (n - 16 * q) < 17
  · rw [if_pos (by simpa using c)]
    omega
  · rw [if_neg (by simpa using c)]
    omega
theorem fPg_hold (hn : n < 1000000000000) (hlt : 16 * q < n) : (fPg (wr n q)).Hold (nuQ K k n z zz q) := by
  have rs : rsA.val (nuQ K k n z zz q) = ((n - 16 * q : Nat) : Int) := by
    show IntKind.i64.wrap (nuQ K k n z zz q 301 - nuQ K k n z zz q 302) = _
    rw [nuQ_n, nuQ_i, i64_small (by omega) (by omega)]
    omega
  have l1 : compare .lss ((AI.s 302).val (nuQ K k n z zz q)) ((AI.s 301).val (nuQ K k n z zz q)) = true := by
    show decide (nuQ K k n z zz q 302 < nuQ K k n z zz q 301) = true
    rw [nuQ_i, nuQ_n]
    exact decide_eq_true (by omega)
  unfold fPg
  by_cases hw : wr n q < 17
  · rw [if_pos (by simpa using hw)]
    refine ⟨fun p hp => ?_, fun p hp => ?_, fun p hp => by cases hp⟩
    · simp only [List.mem_cons, List.not_mem_nil, or_false] at hp
      subst hp
      rw [rs]
      unfold wr at hw ⊢
      show ((n - 16 * q : Nat) : Int) = ((min 17 (n - 16 * q) : Nat) : Int)
      omega
    · simp only [List.mem_cons, List.not_mem_nil, or_false] at hp
      subst hp
      exact l1
  · rw [if_neg (by simpa using hw)]
    refine ⟨fun p hp => (by cases hp), fun p hp => ?_, fun p hp => by cases hp⟩
    simp only [List.mem_cons, List.not_mem_nil, or_false] at hp
    rcases hp with rfl | rfl
    · exact l1
    · show decide (((16 : Nat) : Int) < rsA.val (nuQ K k n z zz q)) = true
      rw [rs]
      unfold wr at hw
      exact decide_eq_true (by omega)
theorem pq_loop {w0 : World} (hK : ∀ j, j < 32 → K j = (k j : Int) ∧ k j < 256) (hz : ∀ j, j < n → z j = (zz j : Int) ∧ zz j < 256) (hn : n < 1000000000000) {R : Nat} (h0 : 0 < R) (h1 : n ≤ 16 * R) (h2 : 16 * R < n + 16) : Tri Try.prog 128 (.loop pgR) (fun a w => HoldsX 128 w0 (nuQ K k n z zz 0) [] [] [] [] (pgI (wq n 0) (.s 302)) a w) fun ex a w => ex = .exit 6 ∧ HoldsX 128 w0 (nuQ K k n z zz R) [] [] [] [] (pgI 0 (.s 305)) a w := by
  have key := Tri.loop (P := Try.prog) (N := 128) (x := pgR) (J := fun r a w => r ≤ R ∧ HoldsX 128 w0 (nuQ K k n z zz (R - r)) [] [] [] [] (pgI (wq n (R - r)) (kkT R (R - r))) a w) (Post := fun ex a w => ex = .exit 6 ∧ HoldsX 128 w0 (nuQ K k n z zz R) [] [] [] [] (pgI 0 (.s 305)) a w) R ?_ ?_
  · refine key.weak (fun a w h => ⟨Nat.le_refl _, ?_⟩) (fun _ _ _ h => h)
    rw [Nat.sub_self, show kkT R 0 = .s 302 from if_neg (by omega)]
    exact h
  · intro r cc hc a w ⟨hr, hp⟩
    have e2 : R - r = R - (r + 1) + 1 := by omega
    have hlt : 16 * (R - (r + 1)) < n := by omega
    have hkR : R - (r + 1) < R := by omega
    rw [e2]
    generalize R - (r + 1) = q at *
    rw [show kkT R q = .s 302 from if_neg (by omega)] at hp
    have hw := wr_w hlt
    have hgo := pg_goW (w := wr n q) (by unfold wr; omega) (by unfold wr; omega)
    unfold pgGo at hgo
    rw [hw] at hgo
    refine ((Tri.runX (L := []) (fx := []) (kp := []) (w0 := w0) (fPg_hold hn hlt) mixed tab_ok gl0_ok (rowsPg_ok hK hz hw) (fun r hr => by cases hr) (fun r hr => by cases hr) (fun r hr => by cases hr) hgo).weak (fun _ _ h => h) (fun ex a w h => .inl ⟨h.1, by omega, ?_⟩)) cc hc a w hp
    refine pq_next hn hlt ?_ rfl h.2
    unfold kkT
    split
    · exact nuQ_p
    · refine nuQ_i.trans ?_
      unfold aq
      omega
  · intro cc hc a w ⟨_, hp⟩
    rw [Nat.sub_zero, show kkT R R = .s 305 from if_pos rfl, show wq n R = 0 by unfold wq; omega] at hp
    refine ((Tri.runX (L := []) (fx := []) (kp := []) (w0 := w0) ⟨fun p hp => (by cases hp), fun p hp => ?_, fun p hp => by cases hp⟩ mixed tab_ok gl0_ok (fun r hr => by cases hr) (fun r hr => by cases hr) (fun r hr => by cases hr) (fun r hr => by cases hr) pg_goX).weak (fun _ _ h => h) (fun ex a w h => ⟨by rw [h.1]; simp, h⟩)) cc hc a w hp
    simp only [List.mem_cons, List.not_mem_nil, or_false] at hp
    subst hp
    show decide (nuQ K k n z zz R 302 < nuQ K k n z zz R 301) = false
    rw [nuQ_i, nuQ_n]
    exact decide_eq_false (by omega)
theorem out_num (hK : ∀ j, j < 32 → K j = (k j : Int) ∧ k j < 256) (R : Nat) (hR : R = (n + 15) / 16) {i : Nat} (hi : i < 16) : (outA i).val (nuQ K k n z zz R) = (tagN k n zz i : Int) := by
  let v : Nat → Nat := fun j => accN (rN k) n zz R / 256 ^ j % 256 + (if j < 16 then k (16 + j) else 0)
  have hv : ∀ j, j < 16 → (ogA j).val (nuQ K k n z zz R) = (v j : Int) ∧ v j < 16777216 := fun j hj => by
    have h1 := hK (16 + j) (by omega)
    have h2 : accN (rN k) n zz R / 256 ^ j % 256 < 256 := Nat.mod_lt _ (by decide)
    have h3 : v j = accN (rN k) n zz R / 256 ^ j % 256 + k (16 + j) := congrArg _ (if_pos hj)
    refine ⟨?_, by rw [h3]; omega⟩
    unfold ogA
    rw [eA_val, cA_val]
    show arith .add .u32 (nuQ K k n z zz R (1000 + j)) (IntKind.u32.wrap (nuQ K k n z zz R (16 + j))) = _
    rw [nuQ_a (by omega), nuQ_K (by omega), h1.1, w_u32, Nat.mod_eq_of_lt (show k (16 + j) < 4294967296 by omega), h3]
    generalize accN (rN k) n zz R / 256 ^ j % 256 = A at h2 ⊢
    rw [addW _ _ (by omega)]
  have hs : dv v 64 = accN (rN k) n zz R + dv (fun j => k (16 + j)) 16 := by
    show dv (fun j => accN (rN k) n zz R / 256 ^ j % 256 + (if j < 16 then k (16 + j) else 0)) 64 = _
    rw [dv_add, acc_dv, show 64 = 16 + 48 from rfl, dv_cut fun j h1 h2 => if_neg (by omega)]
    exact congrArg _ (dv_congr fun j hj => if_pos hj)
  unfold outA
  rw [cA_val, (ch_num (m := 16) (cn := 0) (v := v) rfl (by decide) hv i hi).1, w_u8]
  refine congrArg (fun n : Nat => (n : Int)) ?_
  have := dg_at 0 v (show i < 64 by omega)
  rw [Nat.zero_add, hs] at this
  unfold tagN
  rw [← hR]
  exact this
end
/-- WHAT IT MAKES OF A TEXT. -/
theorem PTag_ok {w : World} {cb o cp n : Nat} {K z : Wd} {k zz : Nat → Nat} (hK : ∀ j, j < 32 → K j = (k j : Int) ∧ k j < 256) (hzz : ∀ j, j < n → z j = (zz j : Int) ∧ zz j < 256) (h0 : 0 < n) (hle : n ≤ cp) (hz : CellsAt w .u8 cb o n z) (hn : n < 1000000000000) :
    Calls Try.prog 9 #[aggI .u8 32 K, .slice (some ⟨cb, o, none⟩) n cp] w fun e w' => e = .returned (aggI .u8 16 fun i => (tagN k n zz i : Int)) ∧ Below w.heap.size w w' := by
  have below : ∀ {w' : World}, BelowL [] w w' → Below w.heap.size w w' := fun hB => ⟨hB.os, hB.tape, hB.output, hB.size, fun k hk => hB.block k hk fun p hp => by cases hp⟩
  have start := holdsX_start (N := 128) (ν := nuQ K k n z zz 0) (L := []) (fx := []) (kp := []) (vs := #[aggI .u8 32 K, .slice (some ⟨cb, o, none⟩) n cp]) (e0 := to0.e) (H0 := to0.H) (n0 := 65) gl0_ok (w := w) (fun p hp => by cases hp) (at1 64 ⟨cb, o, 0⟩) (by show 2 ≤ 128; decide) (by decide) (fun b hb => at1_none (by omega)) (fun p hp => by cases hp)
    (fun p hp => by
      simp only [to0, List.mem_cons, List.not_mem_nil, or_false] at hp
      rcases hp with rfl | rfl
      · exact ⟨_, rfl, (conc2_vr (keyS_val fun j hj => nuQ_K hj)).1⟩
      · exact ⟨_, rfl, .sl 64 0 _ .any ⟨cb, o, 0⟩ n cp (at1_at (by decide)) nuQ_L trivial hle⟩)
    (fun p hp => by
      simp only [to0, List.mem_cons, List.not_mem_nil, or_false] at hp
      subst hp
      exact ⟨show gmax ≤ 64 by decide, _, if_pos rfl, pin_br (tgT (by decide) (by decide)) (tg_Ke (by decide)) nuQ_L (fun j hj => nuQ_B (by omega)) hz, fun h => by cases h⟩)
    (fun p hp => by cases hp)
  refine (callsX (L := []) (gl := []) (Q := fun u w' => u = (aggI .u8 16 fun i => (tagN k n zz i : Int)) ∧ Below w.heap.size w w') tab_ok (by kernel_rfl) pg_shape start ?_).2.mono fun e w' ⟨v, he, hv, hB⟩ => ⟨by rw [he, hv], hB⟩
  have run : ∀ {d : Nat} {ic : IC} {i o : Now} {ex : Ex} {ν : Nat → Int} {F : Facts}, F.Hold ν → goesX F tree [] [] [] [] [] d 4 ic i ex o = true → Tri Try.prog 128 ic (HoldsX 128 w ν [] [] [] [] i) fun ex' a w' => ex' = ex ∧ HoldsX 128 w ν [] [] [] [] o a w' := fun hF h =>
    Tri.runX hF mixed tab_ok gl0_ok (fun r hr => by cases hr) (fun r hr => by cases hr) (fun r hr => by cases hr) (fun r hr => by cases hr) h
  obtain ⟨R, h1, h2⟩ : ∃ R, n ≤ 16 * R ∧ 16 * R < n + 16 := ⟨(n + 15) / 16, by omega, by omega⟩
  have hR : R = (n + 15) / 16 := by omega
  refine seqN (run (none_f _) pg_go1) (seqN (run (none_f _) pg_go2) (seqN (run (none_f _) pg_go3) (seqN (run (none_f _) pg_go4) (seqN (run (none_f _) pg_go5) (seqN (Mid := HoldsX 128 w (nuQ K k n z zz R) [] [] [] [] (pgI 0 (.s 305))) ?_ ?_)))))
  · refine seqN (Mid := HoldsX 128 w (nuQ K k n z zz 0) [] [] [] [] (pgI (wq n 0) (.s 302))) ((run (none_f _) pg_goD).weak (fun _ _ h => h) fun ex a w' h => ⟨h.1, pq_open hK hn h.2⟩) ?_
    refine Tri.block (pq_loop hK hzz hn (by omega) h1 h2) (fun a w h => by cases h.1) (fun a w h => ⟨rfl, h.2⟩) (fun j a w hj h => ?_) (fun a w h => by cases h.1)
    have := h.1
    simp only [Ex.exit.injEq] at this
    exact (hj this).elim
  · refine (run (none_f _) pg_goE).weak (fun _ _ h => h) fun ex a w' h => ⟨.inr h.1, _, pgZ, .ag (rowC .u8 outA 16), [], [], h.2, pg_res, fun ρ v _ hh ho hB hv => ⟨?_, below hB⟩⟩
    refine (conc2_vr ?_).2 v hv
    show conc2 _ (.ag (rowC .u8 outA (15 + 1))) = _
    rw [conc2_row]
    exact congrArg some (aggI_congr fun j hj => out_num hK R hR hj)
end Go.Proofs.Ytbdihdncnpajgaa
