/-
  poly.Tag: what it answers. Own work.
-/
import Derived.Test.YtbdihdncnpajgaaPoc
namespace Go.Proofs.Ytbdihdncnpajgaa
open Go.Sh
open Go.ChangeShapes Go.WideShapes Go.ChangeAt Go.RowKit
set_option maxRecDepth 100000

def loT (K : Wd) (n : Nat) (z : Wd) (q : Nat) : Nat → Int := fun k => if k < 32 then K k else if k < 100 then 0 else if k < 105 then rV K (k - 100) else if k < 110 then 0 else if k < 115 then aV K n z q (k - 110) else if k < 120 then 0 else if k < 125 then a1V n z q (aV K n z q) (k - 120) else if k < 130 then 0
  else if k < 135 then aV K n z (q + 1) (k - 130) else if k < 140 then 0 else if k < 145 then stI (aV K n z q) (k - 140) else if k = 301 then (n : Int) else if k = 302 then ((16 * q : Nat) : Int) else if k = 305 then ((aq n q : Nat) : Int) else if k < 400 then 0 else z (16 * q + (k - 400))
def nuT (K : Wd) (n : Nat) (z : Wd) (q : Nat) : Nat → Int := nuR (loT K n z q) (fun _ => n) (fun _ => aq n q) (fun _ => z)
section
variable {K z : Wd} {n q : Nat}
theorem nuT_K {j : Nat} (h : j < 32) : nuT K n z q j = K j := (nuR_lo (by omega)).trans (if_pos h)
theorem nuT_r {j : Nat} (h : j < 5) : nuT K n z q (100 + j) = rV K j := by
  refine (nuR_lo (by omega)).trans ?_
  unfold loT
  rw [if_neg (by omega), if_neg (by omega), if_pos (by omega), Nat.add_sub_cancel_left]
theorem nuT_a {j : Nat} (h : j < 5) : nuT K n z q (110 + j) = aV K n z q j := by
  refine (nuR_lo (by omega)).trans ?_
  unfold loT
  rw [if_neg (by omega), if_neg (by omega), if_neg (by omega), if_neg (by omega), if_pos (by omega), Nat.add_sub_cancel_left]
theorem nuT_b {j : Nat} (h : j < 5) : nuT K n z q (120 + j) = a1V n z q (aV K n z q) j := by
  refine (nuR_lo (by omega)).trans ?_
  unfold loT
  rw [if_neg (by omega), if_neg (by omega), if_neg (by omega), if_neg (by omega), if_neg (by omega), if_neg (by omega), if_pos (by omega), Nat.add_sub_cancel_left]
theorem nuT_c {j : Nat} (h : j < 5) : nuT K n z q (130 + j) = aV K n z (q + 1) j := by
  refine (nuR_lo (by omega)).trans ?_
  unfold loT
  rw [if_neg (by omega), if_neg (by omega), if_neg (by omega), if_neg (by omega), if_neg (by omega), if_neg (by omega), if_neg (by omega), if_neg (by omega), if_pos (by omega), Nat.add_sub_cancel_left]
theorem nuT_d {j : Nat} (h : j < 5) : nuT K n z q (140 + j) = stI (aV K n z q) j := by
  refine (nuR_lo (by omega)).trans ?_
  unfold loT
  rw [if_neg (by omega), if_neg (by omega), if_neg (by omega), if_neg (by omega), if_neg (by omega), if_neg (by omega), if_neg (by omega), if_neg (by omega), if_neg (by omega), if_neg (by omega), if_pos (by omega), Nat.add_sub_cancel_left]
theorem nuT_n : nuT K n z q 301 = n := (nuR_lo (by decide)).trans rfl
theorem nuT_i : nuT K n z q 302 = ((16 * q : Nat) : Int) := (nuR_lo (by decide)).trans rfl
theorem nuT_p : nuT K n z q 305 = ((aq n q : Nat) : Int) := (nuR_lo (by decide)).trans rfl
theorem nuT_x {j : Nat} (h : j < 16) : nuT K n z q (400 + j) = z (16 * q + j) := by
  refine (nuR_lo (by omega)).trans ?_
  unfold loT
  rw [if_neg (by omega), if_neg (by omega), if_neg (by omega), if_neg (by omega), if_neg (by omega), if_neg (by omega), if_neg (by omega), if_neg (by omega), if_neg (by omega), if_neg (by omega), if_neg (by omega), if_neg (by omega), if_neg (by omega), if_neg (by omega), if_neg (by omega), Nat.add_sub_cancel_left]
theorem nuT_L : nuT K n z q (pinL (tg 2)) = (n : Int) := nuR_L (by decide)
theorem nuT_A : nuT K n z q (pinA (tg 2)) = (aq n q : Int) := nuR_A (by decide)
theorem nuT_B {j : Nat} (h : j < 1099511627774) : nuT K n z q (pinB (tg 2) j) = z j := nuR_B (by decide) h
theorem po_get (l : List (Nat × AV)) : ∀ p ∈ (to6 l).H, (heapL ((to6 l).H ++ []) 70).get p.1 = some p.2 := by
  intro p hp
  simp only [to6, tpB, List.cons_append, List.nil_append, List.mem_cons, List.not_mem_nil, or_false] at hp
  rcases hp with rfl | rfl | rfl | rfl | rfl <;> kernel_rfl
theorem pM_get (w : Nat) (kk it : AI) (g : Nat → AI) (n : Nat) (hn : n = 70 ∨ n = 72) : ∀ p ∈ (tpN w kk [] g it n).H, (heapL ((tpN w kk [] g it n).H ++ []) n).get p.1 = some p.2 := by
  intro p hp
  simp only [tpN, List.mem_cons, List.not_mem_nil, or_false] at hp
  rcases hn with rfl | rfl <;> rcases hp with rfl | rfl | rfl | rfl | rfl <;> kernel_rfl
def poD : List Nat := [64, 65, 66, 68, 69]
theorem poD_ok (m : Nat) (h : 70 ≤ m) : ∀ b ∈ poD, gmax ≤ b ∧ b < m := fun b hb => by
  simp only [poD, List.mem_cons, List.not_mem_nil, or_false] at hb
  rcases hb with rfl | rfl | rfl | rfl | rfl <;> exact ⟨by decide, by omega⟩
theorem zeroA_val {ν : Nat → Int} {j : Nat} : (zeroA j).val ν = 0 := rfl
/-- The window opens. -/
theorem po_open {w0 : World} {ac : Act} {w : World} (hn : n < 1000000000000) (h0 : 0 < n) (h : HoldsX 56 w0 (nuT K n z 0) [] [] [] [] (to6 [(10, iN 0)]) ac w) : HoldsX 56 w0 (nuT K n z 0) [] [] [] [] (tpI (wq n 0) (.s 302)) ac w := by
  let fm : Nat → Pl → Pl := fun b pl => if b = 64 then mv 0 0 pl else pl
  have f64 : ∀ pl, fm 64 pl = mv 0 0 pl := fun pl => if_pos rfl
  have fo : ∀ b, b ≠ 64 → ∀ pl, fm b pl = pl := fun b hb pl => if_neg hb
  have gt := po_get [(10, iN 0)]
  have a0 : aq n 0 = 0 := by unfold aq; omega
  have hw : 0 + wq n 0 ≤ n := by have := aq_wq (n := n) (q := 0); omega
  have hA : nuT K n z 0 (pinA (tg 2)) = ((0 : Nat) : Int) := by rw [nuT_A, a0]
  have hw1 : wq n 0 ≤ 16 := wq_le
  refine HoldsX.re poD (fun b => b) fm gl0_ok h (by decide) (fun b pl => ?_) (poD_ok _ (by decide)) (fun b hb b' hb' e => e) (fun p hp => ?_) (fun p hp => ?_)
  · show (if b = 64 then mv 0 0 pl else pl).cb = pl.cb
    split <;> rfl
  · simp only [List.nil_append, List.mem_cons, List.not_mem_nil, or_false] at hp
    rcases hp with rfl | rfl | rfl | rfl | rfl | rfl
    · exact ⟨ps 64 2, by simp [tpS], SlotR.unpin (b := 64) (m := n) (a' := 0) (by simp [poD]) rfl f64 nuT_i nuT_L nuT_n hw (by omega)⟩
    · exact ⟨.p 65 0, by simp [tpS], SlotR.p (by simp [poD]) rfl (fo _ (by decide))⟩
    · exact ⟨.p 66 0, by simp [tpS], SlotR.p (by simp [poD]) rfl (fo _ (by decide))⟩
    · exact ⟨.p 68 0, by simp [tpS], SlotR.p (by simp [poD]) rfl (fo _ (by decide))⟩
    · exact ⟨.p 69 0, by simp [tpS], SlotR.p (by simp [poD]) rfl (fo _ (by decide))⟩
    · exact ⟨iN 0, by simp [tpS], SlotR.conc (u := .int .i64 ((16 * 0 : Nat) : Int)) rfl (sI_conc nuT_i)⟩
  · simp only [List.mem_cons, List.not_mem_nil, or_false] at hp
    rcases hp with rfl | rfl | rfl | rfl | rfl
    · refine ⟨by simp [poD, wT], _, gt (pn 64 2) (by simp [to6, tpB]), (fun h => by cases h), ?_⟩
      show BlkR _ _ (fm 64) _ _
      rw [show fm 64 = mv 0 0 from funext f64]
      exact BlkR.unpin (t' := 2) (m := n) (a' := 0) (g := z) (tgT (by decide) (by decide)) (by decide) (tg_Ke (by decide)) (tg_Ke (by decide)) nuT_L hA nuT_L (fun j hj => nuT_B (by omega)) (fun j hj _ => nuT_B (by omega)) (fun j hj => by rw [nm_val, nuT_x (by omega)]) hw
    · refine ⟨by simp [poD, bxK], _, gt bxK (by simp [to6, tpB]), id, ?_⟩
      show BlkR _ _ (fm 65) _ _
      rw [show fm 65 = fun pl => pl from funext (fo _ (by decide))]
      exact BlkR.row (by decide) fun j hj => rfl
    · refine ⟨by simp [poD, bxT], _, gt (bxT zeroA) (by simp [to6, tpB]), id, ?_⟩
      show BlkR _ _ (fm 66) _ _
      rw [show fm 66 = fun pl => pl from funext (fo _ (by decide))]
      exact BlkR.row (by decide) fun j hj => rfl
    · refine ⟨by simp [poD, bx5], _, gt (bx5 68 (nmA 100)) (by simp [to6, tpB]), id, ?_⟩
      show BlkR _ _ (fm 68) _ _
      rw [show fm 68 = fun pl => pl from funext (fo _ (by decide))]
      exact BlkR.row (by decide) fun j hj => rfl
    · refine ⟨by simp [poD, bx5], _, gt (bx5 69 zeroA) (by simp [to6, tpB]), id, ?_⟩
      show BlkR _ _ (fm 69) _ _
      rw [show fm 69 = fun pl => pl from funext (fo _ (by decide))]
      exact BlkR.row (by decide) fun j hj => by rw [nm_val, nuT_a hj]; rfl
/-- A round is over. -/
theorem po_next {w0 : World} {kk : AI} {w' : Nat} {ac : Act} {w : World} (hn : n < 1000000000000) (hlt : 16 * q < n) (hkk : kk.val (nuT K n z (q + 1)) = ((aq n (q + 1) : Nat) : Int)) (hw' : w' = wq n (q + 1))
    (h : HoldsX 56 w0 (nuT K n z q) [] [] [] [] (tpM (wq n q)) ac w) : HoldsX 56 w0 (nuT K n z (q + 1)) [] [] [] [] (tpI w' kk) ac w := by
  subst hw'
  have hw1 : wq n q ≤ 16 := wq_le
  have hw2 : wq n (q + 1) ≤ 16 := wq_le
  have haq := aq_lt hlt
  have hfit : aq n (q + 1) + wq n (q + 1) ≤ n := aq_wq
  let fm : Nat → Pl → Pl := fun x pl => if x = 64 then mv (16 * q) (aq n (q + 1)) pl else pl
  have f64 : ∀ pl, fm 64 pl = mv (16 * q) (aq n (q + 1)) pl := fun pl => if_pos rfl
  have fo : ∀ b, b ≠ 64 → ∀ pl, fm b pl = pl := fun b hb pl => if_neg hb
  have gt := pM_get (wq n q) (.s 302) (.e .add .i64 (.s 302) (nA 16)) (nmA 130) 72 (.inr rfl)
  have hA : nuT K n z q (pinA (tg 2)) = ((16 * q : Nat) : Int) := by rw [nuT_A, haq]
  refine HoldsX.re poD (fun b => b) fm gl0_ok h (by decide) (fun x pl => ?_) (poD_ok _ (by decide)) (fun b hb b' hb' e => e) (fun p hp => ?_) (fun p hp => ?_)
  · show (if x = 64 then mv (16 * q) (aq n (q + 1)) pl else pl).cb = pl.cb
    split <;> rfl
  · simp only [List.nil_append, List.mem_cons, List.not_mem_nil, or_false] at hp
    rcases hp with rfl | rfl | rfl | rfl | rfl | rfl
    · exact ⟨wS 64 (wq n q) .any, by simp [wS], SlotR.win (b := 64) (a := 16 * q) (a' := aq n (q + 1)) (m := n) (by simp [poD]) rfl f64 nuT_i hkk nuT_n nuT_n hfit⟩
    · exact ⟨.p 65 0, by simp, SlotR.p (by simp [poD]) rfl (fo _ (by decide))⟩
    · exact ⟨.p 66 0, by simp, SlotR.p (by simp [poD]) rfl (fo _ (by decide))⟩
    · exact ⟨.p 68 0, by simp, SlotR.p (by simp [poD]) rfl (fo _ (by decide))⟩
    · exact ⟨.p 69 0, by simp, SlotR.p (by simp [poD]) rfl (fo _ (by decide))⟩
    · refine ⟨.i .i64 (.e .add .i64 (.s 302) (nA 16)), by simp, SlotR.conc (u := .int .i64 ((16 * (q + 1) : Nat) : Int)) ?_ (sI_conc nuT_i)⟩
      show some (Value.int .i64 (IntKind.i64.wrap (nuT K n z q 302 + ((16 : Nat) : Int)))) = _
      rw [nuT_i, i64_small (by omega) (by omega)]
      congr 2
  · simp only [List.mem_cons, List.not_mem_nil, or_false] at hp
    rcases hp with rfl | rfl | rfl | rfl | rfl
    · refine ⟨by simp [poD, wT], _, gt (wT 64 2 400 (wq n q) false) (by simp [tpN]), id, ?_⟩
      show BlkR _ _ (fm 64) _ _
      rw [show fm 64 = mv (16 * q) (aq n (q + 1)) from funext f64]
      exact BlkR.winF (t := 2) (t' := 2) (a := 16 * q) (a' := aq n (q + 1)) (m := n) (g := z) (by decide) (by decide) (tg_Ke (by decide)) (tg_Ke (by decide)) hA nuT_L nuT_A nuT_L (fun j hj _ => nuT_B (by omega)) (fun j hj => by rw [nm_val, nuT_x (by omega)]) (fun j hj _ => nuT_B (by omega)) (fun j hj => by rw [nm_val, nuT_x (by omega)]; congr 1; unfold aq; unfold wq at hj; omega) hfit
    · refine ⟨by simp [poD, bxK], _, gt bxK (by simp [tpN]), id, ?_⟩
      show BlkR _ _ (fm 65) _ _
      rw [show fm 65 = fun pl => pl from funext (fo _ (by decide))]
      exact BlkR.row (by decide) fun j hj => by rw [nm_val, nm_val, Nat.zero_add, nuT_K hj, nuT_K hj]
    · refine ⟨by simp [poD, bxT], _, gt (bxT zeroA) (by simp [tpN]), id, ?_⟩
      show BlkR _ _ (fm 66) _ _
      rw [show fm 66 = fun pl => pl from funext (fo _ (by decide))]
      exact BlkR.row (g := zeroA) (g' := zeroA) (by decide) fun j hj => by rw [zeroA_val, zeroA_val]
    · refine ⟨by simp [poD, bx5], _, gt (bx5 68 (nmA 100)) (by simp [tpN]), id, ?_⟩
      show BlkR _ _ (fm 68) _ _
      rw [show fm 68 = fun pl => pl from funext (fo _ (by decide))]
      exact BlkR.row (by decide) fun j hj => by rw [nm_val, nm_val, nuT_r hj, nuT_r hj]
    · refine ⟨by simp [poD, bx5], _, gt (bx5 69 (nmA 130)) (by simp [tpN]), id, ?_⟩
      show BlkR _ _ (fm 69) _ _
      rw [show fm 69 = fun pl => pl from funext (fo _ (by decide))]
      exact BlkR.row (by decide) fun j hj => by rw [nm_val, nm_val, nuT_c hj, nuT_a hj]
theorem fTp_hold (hn : n < 1000000000000) (hlt : 16 * q < n) : (fTp (wq n q)).Hold (nuT K n z q) := by
  have rs : rsA.val (nuT K n z q) = ((n - 16 * q : Nat) : Int) := by
    show IntKind.i64.wrap (nuT K n z q 301 - nuT K n z q 302) = _
    rw [nuT_n, nuT_i, i64_small (by omega) (by omega)]
    omega
  have l1 : compare .lss ((AI.s 302).val (nuT K n z q)) ((AI.s 301).val (nuT K n z q)) = true := by
    show decide (nuT K n z q 302 < nuT K n z q 301) = true
    rw [nuT_i, nuT_n]
    exact decide_eq_true (by omega)
  unfold fTp
  by_cases hw : wq n q < 16
  · rw [if_pos (by simpa using hw)]
    refine ⟨fun p hp => ?_, fun p hp => ?_, fun p hp => by cases hp⟩
    · simp only [List.mem_cons, List.not_mem_nil, or_false] at hp
      subst hp
      rw [rs]
      unfold wq at hw ⊢
      show ((n - 16 * q : Nat) : Int) = ((min 16 (n - 16 * q) : Nat) : Int)
      omega
    · simp only [List.mem_cons, List.not_mem_nil, or_false] at hp
      subst hp
      exact l1
  · rw [if_neg (by simpa using hw)]
    refine ⟨fun p hp => (by cases hp), fun p hp => ?_, fun p hp => by cases hp⟩
    simp only [List.mem_cons, List.not_mem_nil, or_false] at hp
    rcases hp with rfl | rfl | rfl
    · exact l1
    · show decide (nuT K n z q 301 < 1099511627776) = true
      rw [nuT_n]
      exact decide_eq_true (by omega)
    · show decide (rsA.val (nuT K n z q) ≥ ((16 : Nat) : Int)) = true
      rw [rs]
      unfold wq at hw
      exact decide_eq_true (by omega)
theorem pcA_val {j : Nat} (hj : j < 17) : (pcA (wq n q) j).val (nuT K n z q) = pcI n z q j := by
  have hw := wq_le (n := n) (q := q)
  unfold pcA pcI
  by_cases h1 : j < wq n q
  · rw [if_pos (by simpa using h1), if_pos h1]
    exact nuT_x (by omega)
  · rw [if_neg (by simpa using h1), if_neg h1]
    by_cases h2 : j = wq n q
    · rw [if_pos (by simpa using h2), if_pos h2]; rfl
    · rw [if_neg (by simpa using h2), if_neg h2]; rfl
theorem rowsTp_ok : ∀ r ∈ rowsTp (wq n q), r.Ok (nuT K n z q) Try.prog [] := by
  intro r hr
  simp only [rowsTp, List.mem_cons, List.not_mem_nil, or_false] at hr
  rcases hr with rfl | rfl
  · refine rowSt_ok fun j hj => ?_
    rw [nm_val, nuT_b hj]
    refine congrFun (stI_congr fun k hk => ?_) j
    show addI (aV K n z q) (pcI n z q) 17 k = (addA (nmA 110) (pcA (wq n q)) 17 k).val (nuT K n z q)
    rw [addA_val]
    exact addI_congr (by rw [nm_val, nuT_a hk]) fun i hi => (pcA_val hi).symm
  · refine rowSt_ok fun j hj => ?_
    rw [nm_val, nuT_c hj]
    refine congrFun (stI_congr fun k hk => ?_) j
    show mulI (a1V n z q (aV K n z q)) (rV K) k = (mulA (nmA 120) (nmA 100) k).val (nuT K n z q)
    rw [mulA_val]
    exact mulI_congr (fun i hi => by rw [nm_val, nuT_b hi]) fun i hi => by rw [nm_val, nuT_r hi]
theorem row6_ok : ∀ r ∈ [rowSt 68 (addA zeroA (hfA 2) 16) (nmA 100)], r.Ok (nuT K n z q) Try.prog [] := by
  intro r hr
  simp only [List.mem_cons, List.not_mem_nil, or_false] at hr
  subst hr
  refine rowSt_ok fun j hj => ?_
  rw [nm_val, nuT_r hj]
  refine congrFun (stI_congr fun k hk => ?_) j
  rw [addA_val]
  refine addI_congr rfl fun i hi => ?_
  rw [hfA_val]
  unfold hfI
  rw [nuT_K (by omega)]
theorem rowE_ok : ∀ r ∈ [rowSt 69 (nmA 110) (nmA 140)], r.Ok (nuT K n z q) Try.prog [] := by
  intro r hr
  simp only [List.mem_cons, List.not_mem_nil, or_false] at hr
  subst hr
  refine rowSt_ok fun j hj => ?_
  rw [nm_val, nuT_d hj]
  exact congrFun (stI_congr fun k hk => by rw [nm_val, nuT_a hk]) j
def kkT (R r : Nat) : AI := if r = R then .s 305 else .s 302
theorem po_loop {w0 : World} (hn : n < 1000000000000) {R : Nat} (h0 : 0 < R) (h1 : n ≤ 16 * R) (h2 : 16 * R < n + 16) : Tri Try.prog 56 (.loop tpR) (fun a w => HoldsX 56 w0 (nuT K n z 0) [] [] [] [] (tpI (wq n 0) (.s 302)) a w) fun ex a w => ex = .exit 4 ∧ HoldsX 56 w0 (nuT K n z R) [] [] [] [] (tpI 0 (.s 305)) a w := by
  have key := Tri.loop (P := Try.prog) (N := 56) (x := tpR) (J := fun r a w => r ≤ R ∧ HoldsX 56 w0 (nuT K n z (R - r)) [] [] [] [] (tpI (wq n (R - r)) (kkT R (R - r))) a w) (Post := fun ex a w => ex = .exit 4 ∧ HoldsX 56 w0 (nuT K n z R) [] [] [] [] (tpI 0 (.s 305)) a w) R ?_ ?_
  · refine key.weak (fun a w h => ⟨Nat.le_refl _, ?_⟩) (fun _ _ _ h => h)
    rw [Nat.sub_self, show kkT R 0 = .s 302 from if_neg (by omega)]
    exact h
  · intro r cc hc a w ⟨hr, hp⟩
    have e2 : R - r = R - (r + 1) + 1 := by omega
    have hlt : 16 * (R - (r + 1)) < n := by omega
    have hkR : R - (r + 1) < R := by omega
    rw [e2]
    generalize R - (r + 1) = q at *
    rw [show kkT R q = .s 302 from if_neg (by omega)] at hp
    have hw0 : 0 < wq n q := by unfold wq; omega
    refine ((Tri.runX (L := []) (fx := []) (kp := []) (w0 := w0) (fTp_hold hn hlt) mixed tab_ok gl0_ok (fun r hr => by cases hr) (fun r hr => by cases hr) (fun r hr => by cases hr) rowsTp_ok (tp_goW hw0 wq_le)).weak (fun _ _ h => h) (fun ex a w h => .inl ⟨h.1, by omega, ?_⟩)) cc hc a w hp
    refine po_next hn hlt ?_ rfl h.2
    unfold kkT
    split
    · exact nuT_p
    · refine nuT_i.trans ?_
      unfold aq
      omega
  · intro cc hc a w ⟨_, hp⟩
    rw [Nat.sub_zero, show kkT R R = .s 305 from if_pos rfl, show wq n R = 0 by unfold wq; omega] at hp
    refine ((Tri.runX (L := []) (fx := []) (kp := []) (w0 := w0) ⟨fun p hp => (by cases hp), fun p hp => ?_, fun p hp => by cases hp⟩ mixed tab_ok gl0_ok (fun r hr => by cases hr) (fun r hr => by cases hr) (fun r hr => by cases hr) (fun r hr => by cases hr) tp_goRe).weak (fun _ _ h => h) (fun ex a w h => ⟨by rw [h.1]; simp, h⟩)) cc hc a w hp
    simp only [List.mem_cons, List.not_mem_nil, or_false] at hp
    subst hp
    show decide (nuT K n z R 302 < nuT K n z R 301) = false
    rw [nuT_i, nuT_n]
    exact decide_eq_false (by omega)
theorem fTe_hold : (fTe (ovB (stI (aV K n z q)))).Hold (nuT K n z q) := by
  refine ⟨fun p hp => (by cases hp), fun p hp => ?_, fun p hp => by cases hp⟩
  simp only [fTe, List.mem_cons, List.not_mem_nil, or_false] at hp
  subst hp
  show compare .gtr ((ovL (nmA 140)).e.val (nuT K n z q)) ((67108863 : Nat) : Int) = ovB (stI (aV K n z q))
  have e : (ovL (nmA 140)).e.val (nuT K n z q) = (ovI (stI (aV K n z q))).e := by
    have h := congrArg L5.e (ovL_v (ν := nuT K n z q) (g := nmA 140))
    exact Eq.trans h (congrArg L5.e (ovI_congr fun k hk => by rw [nm_val, nuT_d hk]))
  rw [e]
  rfl
end
theorem keyS_val {ν : Nat → Int} {K : Wd} (h : ∀ j, j < 32 → ν j = K j) : conc2 ν kyS = some (aggI .u8 32 K) := by
  show conc2 _ (.ag (rowC .u8 (nmA 0) (31 + 1))) = _
  rw [conc2_row]
  exact congrArg some (aggI_congr fun j hj => by rw [nm_val, Nat.zero_add]; exact h j hj)
/-- A text of some, as the machine has it. -/
theorem pin_br {ν : Nat → Int} {ρ : Emb} {w : World} {cb o n t tt : Nat} {z : Wd} (ht : mapTag < tg t ∧ tg t ≤ winTag) (hK : pinK (tg t) = .u8) (hL : ν (pinL (tg t)) = (n : Int)) (hB : ∀ j, j < n → ν (pinB (tg t) j) = z j) (hz : CellsAt w .u8 cb o n z) : BR ν ρ w ⟨[], tg t, false⟩ ⟨cb, o, tt⟩ := by
  obtain ⟨C, ty, fz, hC, hz⟩ := hz
  refine ⟨fun _ => ⟨C, ty, fz, hC, fun j c hc => by simp at hc, fun h => by cases h⟩, fun h => absurd h (Nat.ne_of_gt ht.1), fun _ => ?_⟩
  unfold PinB
  rw [if_pos (show (ABlk.mk [] (tg t) false).elem ≤ winTag from ht.2)]
  refine (⟨C, ty, fz, hC, fun j hj => ?_⟩ : Sh.Pinned ν w (tg t) ⟨cb, o, tt⟩)
  rw [hL] at hj
  rw [hK, hB j (by omega)]
  exact hz j (by omega)
/-- WHAT IT MAKES OF A TEXT. -/
theorem Tag_ok {w : World} {cb o cp n : Nat} {K z : Wd} (h0 : 0 < n) (hle : n ≤ cp) (hz : CellsAt w .u8 cb o n z) (hn : n < 1000000000000) :
    Calls Try.prog 8 #[aggI .u8 32 K, .slice (some ⟨cb, o, none⟩) n cp] w fun e w' => e = .returned (aggI .u8 16 (tagV K n z)) ∧ Below w.heap.size w w' := by
  have below : ∀ {w' : World}, BelowL [] w w' → Below w.heap.size w w' := fun hB => ⟨hB.os, hB.tape, hB.output, hB.size, fun k hk => hB.block k hk fun p hp => by cases hp⟩
  have start := holdsX_start (N := 56) (ν := nuT K n z 0) (L := []) (fx := []) (kp := []) (vs := #[aggI .u8 32 K, .slice (some ⟨cb, o, none⟩) n cp]) (e0 := to0.e) (H0 := to0.H) (n0 := 65) gl0_ok (w := w) (fun p hp => by cases hp) (at1 64 ⟨cb, o, 0⟩) (by show 2 ≤ 56; decide) (by decide) (fun b hb => at1_none (by omega)) (fun p hp => by cases hp)
    (fun p hp => by
      simp only [to0, List.mem_cons, List.not_mem_nil, or_false] at hp
      rcases hp with rfl | rfl
      · exact ⟨_, rfl, (conc2_vr (keyS_val fun j hj => nuT_K hj)).1⟩
      · exact ⟨_, rfl, .sl 64 0 _ .any ⟨cb, o, 0⟩ n cp (at1_at (by decide)) nuT_L trivial hle⟩)
    (fun p hp => by
      simp only [to0, List.mem_cons, List.not_mem_nil, or_false] at hp
      subst hp
      exact ⟨show gmax ≤ 64 by decide, _, if_pos rfl, pin_br (tgT (by decide) (by decide)) (tg_Ke (by decide)) nuT_L (fun j hj => nuT_B (by omega)) hz, fun h => by cases h⟩)
    (fun p hp => by cases hp)
  refine (callsX (L := []) (gl := []) (Q := fun u w' => u = aggI .u8 16 (tagV K n z) ∧ Below w.heap.size w w') tab_ok (by kernel_rfl) tp_shape start ?_).2.mono fun e w' ⟨v, he, hv, hB⟩ => ⟨by rw [he, hv], hB⟩
  have run : ∀ {ic : IC} {i o : Now} {ex : Ex} {ν : Nat → Int} {F : Facts} {U : List RowU}, F.Hold ν → (∀ r ∈ U, r.Ok ν Try.prog []) → goesX F tree [] [] [] [] U 60 4 ic i ex o = true → Tri Try.prog 56 ic (HoldsX 56 w ν [] [] [] [] i) fun ex' a w' => ex' = ex ∧ HoldsX 56 w ν [] [] [] [] o a w' := fun hF hU h =>
    Tri.runX hF mixed tab_ok gl0_ok (fun r hr => by cases hr) (fun r hr => by cases hr) (fun r hr => by cases hr) hU h
  have nou : ∀ {ν : Nat → Int}, ∀ r ∈ ([] : List RowU), r.Ok ν Try.prog [] := fun r hr => by cases hr
  obtain ⟨R, h1, h2⟩ : ∃ R, n ≤ 16 * R ∧ 16 * R < n + 16 := ⟨(n + 15) / 16, by omega, by omega⟩
  have hR : (n + 15) / 16 = R := by omega
  refine seqN (run (none_f _) nou tp_go1) (seqN (run (none_f _) nou tp_go2) (seqN (run (none_f _) nou tp_go3) (seqN (run (none_f _) nou tp_go4) (seqN (run (none_f _) nou tp_go5) (seqN (run (none_f _) row6_ok tp_go6) (seqN (Mid := HoldsX 56 w (nuT K n z R) [] [] [] [] (tpI 0 (.s 305))) ?_ ?_))))))
  · refine seqN (Mid := HoldsX 56 w (nuT K n z 0) [] [] [] [] (tpI (wq n 0) (.s 302))) ((run (none_f _) nou tp_goD).weak (fun _ _ h => h) fun ex a w' h => ⟨h.1, po_open hn h0 h.2⟩) ?_
    refine Tri.block (po_loop hn (by omega) h1 h2) (fun a w h => by cases h.1) (fun a w h => ⟨rfl, h.2⟩) (fun j a w hj h => ?_) (fun a w h => by cases h.1)
    have := h.1
    simp only [Ex.exit.injEq] at this
    exact (hj this).elim
  · refine (run fTe_hold rowE_ok (tp_goEnd _)).weak (fun _ _ h => h) fun ex a w' h => ⟨.inr h.1, _, tpZ _, .ag (rowC .u8 (tgA (leA (ovB (stI (aV K n z R))) (nmA 140))) 16), [], [], h.2, by cases ovB (stI (aV K n z R)) <;> kernel_rfl, fun ρ v _ hh ho hB hv => ⟨?_, below hB⟩⟩
    have e : conc2 (nuT K n z R) (.ag (rowC .u8 (tgA (leA (ovB (stI (aV K n z R))) (nmA 140))) (15 + 1))) = some (aggI .u8 16 (tagV K n z)) := by
      rw [conc2_row]
      refine congrArg some (aggI_congr fun j hj => ?_)
      rw [tgA_val]
      unfold tagV tgI
      rw [hR]
      refine congrArg _ ((crI_congr j fun i hi => nuT_K (by omega)).trans ?_)
      refine crI_congrA (fun i hi => ?_) j hj
      rw [leA_val]
      exact leI_congr (fun k hk => by rw [nm_val, nuT_d hk]) hi
    exact (conc2_vr e).2 _ hv
end Go.Proofs.Ytbdihdncnpajgaa
