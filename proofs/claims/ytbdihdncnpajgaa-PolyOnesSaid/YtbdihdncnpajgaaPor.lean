/-
  PolyOnes: from round to round. Own work.
-/
import Derived.Test.YtbdihdncnpajgaaPop
namespace Go.Proofs.Ytbdihdncnpajgaa
open Go.Sh
open Go.ChangeShapes Go.WideShapes Go.ChangeAt Go.RowKit
set_option maxRecDepth 100000

/-- Sums of pieces, digit by digit. -/
def oV (n : Nat) (zz : Nat → Nat) : Nat → Nat → Nat
  | 0 => fun _ => 0
  | q + 1 => prN 19 (prN 19 (fun j => oV n zz q j + pcN n zz q j))
def koN (s : Nat → Nat) (j : Nat) : Nat := if j = 0 then 1 else if j < 16 then 0 else s (j - 16)
def loO (s : Nat → Nat) (n : Nat) (zz : Nat → Nat) (q : Nat) : Nat → Int := fun x => if x < 16 then (s x : Int) else if x < 140 then 0 else if x < 156 then (tagN (koN s) n zz (x - 140) : Int) else if x = 301 then (n : Int) else if x = 302 then ((16 * q : Nat) : Int) else if x = 305 then ((aq n q : Nat) : Int) else if x < 400 then 0 else if x < 416 then (zz (16 * q + (x - 400)) : Int) else if x < 1000 then 0 else (oV n zz q (x - 1000) : Int)
def nuO (s : Nat → Nat) (n : Nat) (zz : Nat → Nat) (q : Nat) : Nat → Int := nuR (loO s n zz q) (fun _ => n) (fun _ => aq n q) (fun _ j => (zz j : Int))
section
variable {s zz : Nat → Nat} {n q : Nat}
theorem nuO_s {j : Nat} (h : j < 16) : nuO s n zz q j = (s j : Int) := (nuR_lo (by omega)).trans (if_pos h)
theorem nuO_t {j : Nat} (h : j < 16) : nuO s n zz q (140 + j) = (tagN (koN s) n zz j : Int) := by
  refine (nuR_lo (by omega)).trans ?_
  unfold loO
  rw [if_neg (by omega), if_neg (by omega), if_pos (by omega), Nat.add_sub_cancel_left]
theorem nuO_n : nuO s n zz q 301 = n := (nuR_lo (by decide)).trans rfl
theorem nuO_i : nuO s n zz q 302 = ((16 * q : Nat) : Int) := (nuR_lo (by decide)).trans rfl
theorem nuO_p : nuO s n zz q 305 = ((aq n q : Nat) : Int) := (nuR_lo (by decide)).trans rfl
theorem nuO_x {j : Nat} (h : j < 16) : nuO s n zz q (400 + j) = (zz (16 * q + j) : Int) := by
  refine (nuR_lo (by omega)).trans ?_
  unfold loO
  rw [if_neg (by omega), if_neg (by omega), if_neg (by omega), if_neg (by omega), if_neg (by omega), if_neg (by omega), if_neg (by omega), if_pos (by omega), Nat.add_sub_cancel_left]
theorem nuO_a {j : Nat} (h : j < 20) : nuO s n zz q (1000 + j) = (oV n zz q j : Int) := by
  refine (nuR_lo (by omega)).trans ?_
  unfold loO
  rw [if_neg (by omega), if_neg (by omega), if_neg (by omega), if_neg (by omega), if_neg (by omega), if_neg (by omega), if_neg (by omega), if_neg (by omega), if_neg (by omega), Nat.add_sub_cancel_left]
theorem nuO_L : nuO s n zz q (pinL (tg 2)) = (n : Int) := nuR_L (by decide)
theorem nuO_A : nuO s n zz q (pinA (tg 2)) = (aq n q : Int) := nuR_A (by decide)
theorem nuO_B {j : Nat} (h : j < 1099511627774) : nuO s n zz q (pinB (tg 2) j) = (zz j : Int) := nuR_B (by decide) h
/-! numbers -/
theorem pcN_lt (hz : ∀ j, zz j < 256) (j : Nat) : pcN n zz q j < 256 := by
  unfold pcN
  split
  · exact hz _
  · split <;> decide
theorem pcN_dv (hz : ∀ j, zz j < 256) : dv (pcN n zz q) 20 = dv (pcN n zz q) 17 ∧ dv (pcN n zz q) 17 < 2 * 340282366920938463463374607431768211456 := by
  have hw := wq_le (n := n) (q := q)
  refine ⟨by rw [show 20 = 17 + 3 from rfl, dv_cut fun j h1 h2 => by unfold pcN; rw [if_neg (by omega), if_neg (by omega)]], ?_⟩
  have h1 : dv (pcN n zz q) 16 < 256 ^ 16 := dv_lt fun j _ => pcN_lt hz j
  have q16 : (256 : Nat) ^ 16 = 340282366920938463463374607431768211456 := by decide
  have h2 : pcN n zz q 16 ≤ 1 := by
    unfold pcN
    rw [if_neg (by omega)]
    split <;> decide
  show dv (pcN n zz q) 16 + pcN n zz q 16 * 256 ^ 16 < _
  rw [q16] at h1 ⊢
  omega
theorem prN_19 {v : Nat → Nat} : prN 19 v 19 = v 19 := by
  show pr0N (d2N 0 v 19) 19 = _
  unfold pr0N
  rw [if_neg (by decide), if_neg (by decide), if_neg (by decide)]
  exact if_neg (by decide)
theorem oV_19 : ∀ q, oV n zz q 19 = 0
  | 0 => rfl
  | q + 1 => by
    have hw := wq_le (n := n) (q := q)
    show prN 19 (prN 19 (fun j => oV n zz q j + pcN n zz q j)) 19 = 0
    rw [prN_19, prN_19, oV_19 q]
    unfold pcN
    rw [if_neg (by omega), if_neg (by omega)]
theorem ag19 {v : Nat → Nat} (h : v 19 = 0) : ∀ j, 19 ≤ j → j < 20 → v j < 256 := fun j h1 h2 => by
  have : j = 19 := by omega
  subst this
  rw [h]
  decide
theorem oP_19 : (fun j => oV n zz q j + pcN n zz q j) 19 = 0 := by
  have hw := wq_le (n := n) (q := q)
  show oV n zz q 19 + pcN n zz q 19 = 0
  rw [oV_19]
  unfold pcN
  rw [if_neg (by omega), if_neg (by omega)]
theorem oV_lt (hz : ∀ j, zz j < 256) : ∀ q j, j < 20 → oV n zz q j < 100000
  | 0, _, _ => by show 0 < 100000; decide
  | q + 1, j, hj => by
    show prN 19 (prN 19 (fun j => oV n zz q j + pcN n zz q j)) j < 100000
    exact pr0_lt (fun j hj => d2_lt (ag19 (by rw [prN_19]; exact oP_19)) hj) hj
theorem oV_dv (hz : ∀ j, zz j < 256) : ∀ q, dv (oV n zz q) 20 < 1361129467683753853853498429727072845824 ∧ dv (oV n zz q) 20 % pp = accN 1 n zz q
  | 0 => by
    have e : dv (oV n zz 0) 20 = 0 := dv_zero fun j _ => rfl
    rw [e]
    exact ⟨by decide, Nat.zero_mod _⟩
  | q + 1 => by
    obtain ⟨h1, h2⟩ := oV_dv hz q
    obtain ⟨h3, h4⟩ := pcN_dv (n := n) (q := q) hz
    have q18 : (256 : Nat) ^ 18 = 22300745198530623141535718272648361505980416 := by decide
    have e0 : dv (fun j => oV n zz q j + pcN n zz q j) 20 = dv (oV n zz q) 20 + dv (pcN n zz q) 17 := by rw [dv_add, h3]
    have r1 : dv (prN 19 (fun j => oV n zz q j + pcN n zz q j)) 20 = red (dv (oV n zz q) 20 + dv (pcN n zz q) 17) := by rw [dv_pr (by decide) (by rw [e0, q18]; omega), e0]
    have b1 : red (dv (oV n zz q) 20 + dv (pcN n zz q) 17) < 1361129467683753853853498429727072845824 := by
      generalize dv (oV n zz q) 20 = A at h1 ⊢
      generalize dv (pcN n zz q) 17 = B at h4 ⊢
      unfold red
      omega
    have r2 : dv (oV n zz (q + 1)) 20 = red (red (dv (oV n zz q) 20 + dv (pcN n zz q) 17)) := by
      show dv (prN 19 (prN 19 (fun j => oV n zz q j + pcN n zz q j))) 20 = _
      rw [dv_pr (by decide) (by rw [r1, q18]; omega), r1]
    rw [r2, red_id b1]
    refine ⟨b1, ?_⟩
    rw [red_mod]
    show _ = (accN 1 n zz q + dv (pcN n zz q) 17) * 1 % pp
    rw [← h2, Nat.mul_one, Nat.mod_add_mod]
theorem rN_ko : rN (koN s) = 1 := by
  unfold rN
  rw [show 16 = 1 + 15 from rfl, dv_cut fun j h1 h2 => ?_]
  · rfl
  · unfold hfN koN
    rw [if_neg (show ¬ j = 0 by omega), if_pos (show j < 16 by omega)]
    split
    · rfl
    · split <;> rfl
theorem koN_hi {j : Nat} : koN s (16 + j) = s j := by
  unfold koN
  rw [if_neg (by omega), if_neg (by omega), Nat.add_sub_cancel_left]
theorem koA_val {j : Nat} (hj : j < 32) : (koA j).val (nuO s n zz q) = (koN s j : Int) := by
  unfold koA koN
  by_cases c : j = 0
  · rw [if_pos (by simpa using c), if_pos c]
    rfl
  · rw [if_neg (by simpa using c), if_neg c]
    by_cases c2 : j < 16
    · rw [if_pos (by simpa using c2), if_pos c2]
      rfl
    · rw [if_neg (by simpa using c2), if_neg c2]
      exact nuO_s (by omega)
theorem koN_lt (hs : ∀ j, s j < 256) (j : Nat) : koN s j < 256 := by
  unfold koN
  split
  · decide
  · split
    · decide
    · exact hs _
theorem giA_val (hz : ∀ j, zz j < 256) {j : Nat} (hj : j < 20) : (giA (wq n q) j).val (nuO s n zz q) = ((oV n zz q j + pcN n zz q j : Nat) : Int) ∧ oV n zz q j + pcN n zz q j < 16777216 := by
  have hw1 := wq_le (n := n) (q := q)
  have hA := oV_lt (n := n) hz q j hj
  have hQ := nuO_a (s := s) (n := n) (zz := zz) (q := q) hj
  have hp := pcN_lt (n := n) (q := q) hz j
  refine ⟨?_, by omega⟩
  generalize oV n zz q j = A at hA hQ ⊢
  unfold giA pcN
  by_cases c : j < wq n q
  · rw [if_pos (by simpa using c), if_pos c, eA_val, cA_val]
    show arith .add .i64 (nuO s n zz q (1000 + j)) (IntKind.i64.wrap (nuO s n zz q (400 + j))) = _
    have h1 := hz (16 * q + j)
    rw [hQ, nuO_x (by omega), wrapL _ (by omega), addL _ _ (by omega)]
  · rw [if_neg (by simpa using c), if_neg c]
    by_cases c2 : j = wq n q
    · rw [if_pos (by simpa using c2), if_pos c2, eA_val, nA_val]
      show arith .add .i64 (nuO s n zz q (1000 + j)) _ = _
      rw [hQ, addL _ _ (by omega)]
    · rw [if_neg (by simpa using c2), if_neg c2, Nat.add_zero]
      exact hQ
theorem rd_val (hz : ∀ j, zz j < 256) {j : Nat} (hj : j < 20) : (prA 19 (prA 19 (giA (wq n q))) j).val (nuO s n zz q) = (oV n zz (q + 1) j : Int) := by
  have h1 : ∀ j, j < 20 → (prA 19 (giA (wq n q)) j).val (nuO s n zz q) = (prN 19 (fun j => oV n zz q j + pcN n zz q j) j : Int) ∧ prN 19 (fun j => oV n zz q j + pcN n zz q j) j < 16777216 := fun j hj => by
    obtain ⟨g1, g2⟩ := pr_num (v := fun j => oV n zz q j + pcN n zz q j) (m := 19) (by decide) (fun j hj => giA_val (s := s) (n := n) (q := q) hz hj) (ag19 oP_19) hj
    exact ⟨g1, by omega⟩
  exact (pr_num (m := 19) (by decide) h1 (ag19 (by rw [prN_19]; exact oP_19)) hj).1
theorem oo_get (l : List (Nat × AV)) : ∀ p ∈ (oo5 l).H, (heapL ((oo5 l).H ++ []) 68).get p.1 = some p.2 := by
  intro p hp
  simp only [oo5, onB, List.cons_append, List.nil_append, List.mem_cons, List.not_mem_nil, or_false] at hp
  rcases hp with rfl | rfl | rfl | rfl <;> kernel_rfl
theorem oN_get (w : Nat) (kk it : AI) (g : Nat → AI) : ∀ p ∈ (onN w kk g it).H, (heapL ((onN w kk g it).H ++ []) 68).get p.1 = some p.2 := by
  intro p hp
  simp only [onN, List.mem_cons, List.not_mem_nil, or_false] at hp
  rcases hp with rfl | rfl | rfl | rfl <;> kernel_rfl
def onL : List Nat := [64, 65, 66, 67]
theorem onL_ok : ∀ b ∈ onL, gmax ≤ b ∧ b < 68 := fun b hb => by
  simp only [onL, List.mem_cons, List.not_mem_nil, or_false] at hb
  rcases hb with rfl | rfl | rfl | rfl <;> exact ⟨by decide, by decide⟩
/-- The window opens. -/
theorem on_open {w0 : World} {ac : Act} {w : World} (hn : n < 1000000000000) (h : HoldsX 168 w0 (nuO s n zz 0) [] [] [] [] (oo5 [(8, iN 0)]) ac w) : HoldsX 168 w0 (nuO s n zz 0) [] [] [] [] (onI (wq n 0) (.s 302)) ac w := by
  let fm : Nat → Pl → Pl := fun b pl => if b = 64 then mv 0 0 pl else pl
  have f64 : ∀ pl, fm 64 pl = mv 0 0 pl := fun pl => if_pos rfl
  have fo : ∀ b, b ≠ 64 → ∀ pl, fm b pl = pl := fun b hb pl => if_neg hb
  have gt := oo_get [(8, iN 0)]
  have a0 : aq n 0 = 0 := by unfold aq; omega
  have hw : 0 + wq n 0 ≤ n := by have := aq_wq (n := n) (q := 0); omega
  have hA : nuO s n zz 0 (pinA (tg 2)) = ((0 : Nat) : Int) := by rw [nuO_A, a0]
  have hw1 : wq n 0 ≤ 16 := wq_le
  refine HoldsX.re onL (fun b => b) fm gl0_ok h (by decide) (fun b pl => ?_) onL_ok (fun b hb b' hb' e => e) (fun p hp => ?_) (fun p hp => ?_)
  · show (if b = 64 then mv 0 0 pl else pl).cb = pl.cb
    split <;> rfl
  · simp only [List.mem_cons, List.not_mem_nil, or_false] at hp
    rcases hp with rfl | rfl | rfl | rfl | rfl | rfl
    · exact ⟨ps 64 2, by simp [onS], SlotR.unpin (b := 64) (m := n) (a' := 0) (by simp [onL]) rfl f64 nuO_i nuO_L nuO_n hw (by omega)⟩
    · exact ⟨.p 65 0, by simp [onS], SlotR.p (by simp [onL]) rfl (fo _ (by decide))⟩
    · exact ⟨.b false, by simp [onS], SlotR.conc (u := .bool false) rfl rfl⟩
    · exact ⟨.p 66 0, by simp [onS], SlotR.p (by simp [onL]) rfl (fo _ (by decide))⟩
    · exact ⟨.p 67 0, by simp [onS], SlotR.p (by simp [onL]) rfl (fo _ (by decide))⟩
    · exact ⟨iN 0, by simp [onS], SlotR.conc (u := .int .i64 ((16 * 0 : Nat) : Int)) rfl (sI_conc nuO_i)⟩
  · simp only [List.mem_cons, List.not_mem_nil, or_false] at hp
    rcases hp with rfl | rfl | rfl | rfl
    · refine ⟨by simp [onL, wT], _, gt (pn 64 2) (by simp [oo5, onB]), (fun h => by cases h), ?_⟩
      show BlkR _ _ (fm 64) _ _
      rw [show fm 64 = mv 0 0 from funext f64]
      exact BlkR.unpin (t' := 2) (m := n) (a' := 0) (g := fun j => (zz j : Int)) (tgT (by decide) (by decide)) (by decide) (tg_Ke (by decide)) (tg_Ke (by decide)) nuO_L hA nuO_L (fun j hj => nuO_B (by omega)) (fun j hj _ => nuO_B (by omega)) (fun j hj => by rw [nm_val, nuO_x (by omega)]) hw
    · refine ⟨by simp [onL, bS], _, gt (bS 65) (by simp [oo5, onB]), id, ?_⟩
      show BlkR _ _ (fm 65) _ _
      rw [show fm 65 = fun pl => pl from funext (fo _ (by decide))]
      exact BlkR.row (by decide) fun j hj => rfl
    · refine ⟨by simp [onL, bK], _, gt (bK 66 koA) (by simp [oo5, onB]), id, ?_⟩
      show BlkR _ _ (fm 66) _ _
      rw [show fm 66 = fun pl => pl from funext (fo _ (by decide))]
      exact BlkR.row (by decide) fun j hj => rfl
    · refine ⟨by simp [onL, b20], _, gt (b20 67 zeroA) (by simp [oo5, onB]), id, ?_⟩
      show BlkR _ _ (fm 67) _ _
      rw [show fm 67 = fun pl => pl from funext (fo _ (by decide))]
      exact BlkR.row (g := zeroA) (g' := nmA 1000) (by decide) fun j hj => by rw [nm_val, nuO_a hj, zeroA_val]; rfl
/-- A round is over. -/
theorem on_next {w0 : World} {kk : AI} {w' : Nat} {ac : Act} {w : World} (hz : ∀ j, zz j < 256) (hn : n < 1000000000000) (hlt : 16 * q < n) (hkk : kk.val (nuO s n zz (q + 1)) = ((aq n (q + 1) : Nat) : Int)) (hw' : w' = wq n (q + 1))
    (h : HoldsX 168 w0 (nuO s n zz q) [] [] [] [] (onM (wq n q)) ac w) : HoldsX 168 w0 (nuO s n zz (q + 1)) [] [] [] [] (onI w' kk) ac w := by
  subst hw'
  have hw1 : wq n q ≤ 16 := wq_le
  have hw2 : wq n (q + 1) ≤ 16 := wq_le
  have haq := aq_lt hlt
  have hfit : aq n (q + 1) + wq n (q + 1) ≤ n := aq_wq
  let fm : Nat → Pl → Pl := fun x pl => if x = 64 then mv (16 * q) (aq n (q + 1)) pl else pl
  have f64 : ∀ pl, fm 64 pl = mv (16 * q) (aq n (q + 1)) pl := fun pl => if_pos rfl
  have fo : ∀ b, b ≠ 64 → ∀ pl, fm b pl = pl := fun b hb pl => if_neg hb
  have gt := oN_get (wq n q) (.s 302) (.e .add .i64 (.s 302) (nA 16)) (prA 19 (prA 19 (giA (wq n q))))
  have hA : nuO s n zz q (pinA (tg 2)) = ((16 * q : Nat) : Int) := by rw [nuO_A, haq]
  refine HoldsX.re onL (fun b => b) fm gl0_ok h (by decide) (fun x pl => ?_) onL_ok (fun b hb b' hb' e => e) (fun p hp => ?_) (fun p hp => ?_)
  · show (if x = 64 then mv (16 * q) (aq n (q + 1)) pl else pl).cb = pl.cb
    split <;> rfl
  · simp only [List.mem_cons, List.not_mem_nil, or_false] at hp
    rcases hp with rfl | rfl | rfl | rfl | rfl | rfl
    · exact ⟨wS 64 (wq n q) .any, by simp [wS], SlotR.win (b := 64) (a := 16 * q) (a' := aq n (q + 1)) (m := n) (by simp [onL]) rfl f64 nuO_i hkk nuO_n nuO_n hfit⟩
    · exact ⟨.p 65 0, by simp, SlotR.p (by simp [onL]) rfl (fo _ (by decide))⟩
    · exact ⟨.b false, by simp, SlotR.conc (u := .bool false) rfl rfl⟩
    · exact ⟨.p 66 0, by simp, SlotR.p (by simp [onL]) rfl (fo _ (by decide))⟩
    · exact ⟨.p 67 0, by simp, SlotR.p (by simp [onL]) rfl (fo _ (by decide))⟩
    · refine ⟨.i .i64 (.e .add .i64 (.s 302) (nA 16)), by simp, SlotR.conc (u := .int .i64 ((16 * (q + 1) : Nat) : Int)) ?_ (sI_conc nuO_i)⟩
      show some (Value.int .i64 (IntKind.i64.wrap (nuO s n zz q 302 + ((16 : Nat) : Int)))) = _
      rw [nuO_i, i64_small (by omega) (by omega)]
      congr 2
  · simp only [List.mem_cons, List.not_mem_nil, or_false] at hp
    rcases hp with rfl | rfl | rfl | rfl
    · refine ⟨by simp [onL, wT], _, gt (wT 64 2 400 (wq n q) false) (by simp [onN]), id, ?_⟩
      show BlkR _ _ (fm 64) _ _
      rw [show fm 64 = mv (16 * q) (aq n (q + 1)) from funext f64]
      exact BlkR.winF (t := 2) (t' := 2) (a := 16 * q) (a' := aq n (q + 1)) (m := n) (g := fun j => (zz j : Int)) (by decide) (by decide) (tg_Ke (by decide)) (tg_Ke (by decide)) hA nuO_L nuO_A nuO_L (fun j hj _ => nuO_B (by omega)) (fun j hj => by rw [nm_val, nuO_x (by omega)]) (fun j hj _ => nuO_B (by omega)) (fun j hj => by rw [nm_val, nuO_x (by omega), show 16 * (q + 1) + j = aq n (q + 1) + j by unfold aq; unfold wq at hj; omega]) hfit
    · refine ⟨by simp [onL, bS], _, gt (bS 65) (by simp [onN]), id, ?_⟩
      show BlkR _ _ (fm 65) _ _
      rw [show fm 65 = fun pl => pl from funext (fo _ (by decide))]
      exact BlkR.row (by decide) fun j hj => by rw [nm_val, nm_val, Nat.zero_add, nuO_s hj, nuO_s hj]
    · refine ⟨by simp [onL, bK], _, gt (bK 66 koA) (by simp [onN]), id, ?_⟩
      show BlkR _ _ (fm 66) _ _
      rw [show fm 66 = fun pl => pl from funext (fo _ (by decide))]
      exact BlkR.row (by decide) fun j hj => by rw [koA_val hj, koA_val hj]
    · refine ⟨by simp [onL, b20], _, gt (b20 67 (prA 19 (prA 19 (giA (wq n q))))) (by simp [onN]), id, ?_⟩
      show BlkR _ _ (fm 67) _ _
      rw [show fm 67 = fun pl => pl from funext (fo _ (by decide))]
      exact BlkR.row (by decide) fun j hj => by rw [rd_val hz hj, nm_val, nuO_a hj]
theorem fOn_hold (hn : n < 1000000000000) (hlt : 16 * q < n) : (fPg (wr n q)).Hold (nuO s n zz q) := by
  have rs : rsA.val (nuO s n zz q) = ((n - 16 * q : Nat) : Int) := by
    show IntKind.i64.wrap (nuO s n zz q 301 - nuO s n zz q 302) = _
    rw [nuO_n, nuO_i, i64_small (by omega) (by omega)]
    omega
  have l1 : compare .lss ((AI.s 302).val (nuO s n zz q)) ((AI.s 301).val (nuO s n zz q)) = true := by
    show decide (nuO s n zz q 302 < nuO s n zz q 301) = true
    rw [nuO_i, nuO_n]
    exact decide_eq_true (by omega)
  unfold fPg
  by_cases hw : wr n q < 17
  · rw [if_pos (by simpa using hw)]
    refine ⟨fun p hp => ?_, fun p hp => ?_, fun p hp => by cases hp⟩
    · simp only [List.mem_cons, List.not_mem_nil, or_false] at hp
      subst hp
      rw [rs]
      unfold wr at hw ⊢
      show ((n - 16 * q : Nat) : Int) = ((min 17 (n - 16 * q) : Nat) : Int)
      omega
    · simp only [List.mem_cons, List.not_mem_nil, or_false] at hp
      subst hp
      exact l1
  · rw [if_neg (by simpa using hw)]
    refine ⟨fun p hp => (by cases hp), fun p hp => ?_, fun p hp => by cases hp⟩
    simp only [List.mem_cons, List.not_mem_nil, or_false] at hp
    rcases hp with rfl | rfl
    · exact l1
    · show decide (((16 : Nat) : Int) < rsA.val (nuO s n zz q)) = true
      rw [rs]
      unfold wr at hw
      exact decide_eq_true (by omega)
theorem on_loop {w0 : World} (hz : ∀ j, zz j < 256) (hn : n < 1000000000000) {R : Nat} (h0 : 0 < R) (h1 : n ≤ 16 * R) (h2 : 16 * R < n + 16) : Tri Try.prog 168 (.loop onR) (fun a w => HoldsX 168 w0 (nuO s n zz 0) [] [] [] [] (onI (wq n 0) (.s 302)) a w) fun ex a w => ex = .exit 2 ∧ HoldsX 168 w0 (nuO s n zz R) [] [] [] [] (onI 0 (.s 305)) a w := by
  have key := Tri.loop (P := Try.prog) (N := 168) (x := onR) (J := fun r a w => r ≤ R ∧ HoldsX 168 w0 (nuO s n zz (R - r)) [] [] [] [] (onI (wq n (R - r)) (kkT R (R - r))) a w) (Post := fun ex a w => ex = .exit 2 ∧ HoldsX 168 w0 (nuO s n zz R) [] [] [] [] (onI 0 (.s 305)) a w) R ?_ ?_
  · refine key.weak (fun a w h => ⟨Nat.le_refl _, ?_⟩) (fun _ _ _ h => h)
    rw [Nat.sub_self, show kkT R 0 = .s 302 from if_neg (by omega)]
    exact h
  · intro r cc hc a w ⟨hr, hp⟩
    have e2 : R - r = R - (r + 1) + 1 := by omega
    have hlt : 16 * (R - (r + 1)) < n := by omega
    have hkR : R - (r + 1) < R := by omega
    rw [e2]
    generalize R - (r + 1) = q at *
    rw [show kkT R q = .s 302 from if_neg (by omega)] at hp
    have hw := wr_w hlt
    have hgo := on_goW (w := wr n q) (by unfold wr; omega) (by unfold wr; omega)
    unfold onGo at hgo
    rw [hw] at hgo
    refine ((Tri.runX (L := []) (fx := []) (kp := []) (w0 := w0) (fOn_hold hn hlt) mixed tab_ok gl0_ok (fun r hr => by cases hr) (fun r hr => by cases hr) (fun r hr => by cases hr) (fun r hr => by cases hr) hgo).weak (fun _ _ h => h) (fun ex a w h => .inl ⟨h.1, by omega, ?_⟩)) cc hc a w hp
    refine on_next hz hn hlt ?_ rfl h.2
    unfold kkT
    split
    · exact nuO_p
    · refine nuO_i.trans ?_
      unfold aq
      omega
  · intro cc hc a w ⟨_, hp⟩
    rw [Nat.sub_zero, show kkT R R = .s 305 from if_pos rfl, show wq n R = 0 by unfold wq; omega] at hp
    refine ((Tri.runX (L := []) (fx := []) (kp := []) (w0 := w0) ⟨fun p hp => (by cases hp), fun p hp => ?_, fun p hp => by cases hp⟩ mixed tab_ok gl0_ok (fun r hr => by cases hr) (fun r hr => by cases hr) (fun r hr => by cases hr) (fun r hr => by cases hr) on_goX).weak (fun _ _ h => h) (fun ex a w h => ⟨by rw [h.1]; simp, h⟩)) cc hc a w hp
    simp only [List.mem_cons, List.not_mem_nil, or_false] at hp
    subst hp
    show decide (nuO s n zz R 302 < nuO s n zz R 301) = false
    rw [nuO_i, nuO_n]
    exact decide_eq_false (by omega)
end
end Go.Proofs.Ytbdihdncnpajgaa
