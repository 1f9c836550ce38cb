/-
  The page's Xor: what it answers. Own work.
-/
import Derived.Test.YtakegcfpbacefaaQg
import Derived.Test.YtakegcfpbacefaaQh
namespace Go.Proofs.Ytakegcfpbacefaa
open Go.Sh
open Go.ChangeShapes Go.WideShapes Go.ChangeAt Go.RowKit
set_option maxRecDepth 100000

/-- So many are turned in a round; so many were ahead of it. -/
def wq (n q : Nat) : Nat := min 64 (n - 64 * q)
def aq (n q : Nat) : Nat := min (64 * q) n
def loY (K : Wd) (c : Int) (Nn : Wd) (n : Nat) (z : Wd) (q : Nat) : Nat → Int := fun k => if k < 32 then K k else if k < 44 then Nn (k - 32) else if k = 44 then ctI c q else if k < 200 then 0 else if k < 264 then blkI K (ctI c q) Nn (k - 200) else if k = 301 then (n : Int) else if k = 302 then ((64 * q : Nat) : Int) else if k = 305 then ((aq n q : Nat) : Int) else if k < 400 then 0 else z (64 * q + (k - 400))
def nuY (K : Wd) (c : Int) (Nn : Wd) (n : Nat) (z : Wd) (q : Nat) : Nat → Int := nuR (loY K c Nn n z q) (fun t => if t = 2 then n else aq n q) (fun _ => aq n q) (fun t => if t = 2 then z else xorW K c Nn z)
def pyNk (q : Bool) (w : Nat) (kk : AI) : Now := ⟨[(1, ctS), (4, .p 65 0), (6, .p 66 0), (3, .slw 64 1 kk w (.s 301) .any), (9, pyO q), (10, sI 302)], [wT 64 2 400 w false, bxK, bxN] ++ pyOb q, if q then 68 else 67⟩
theorem pyNk_eq (q : Bool) (w : Nat) : pyNk q w (.s 302) = pyN q w := rfl
theorem py_goRk : goesX ⟨[], [(.lss, .s 302, .s 301, false)], []⟩ tree [] [] [] [] [] 60 4 pyR (pyNk true 0 (.s 305)) (.exit 0) (pyNk true 0 (.s 305)) = true := by kernel_rfl
theorem py_goEk : goesX noFacts tree [] [] [] [] [] 60 4 pyE (pyNk true 0 (.s 305)) .ret pyZ = true := by kernel_rfl
section
variable {K Nn z : Wd} {c : Int} {n q : Nat}
theorem nuY_K {j : Nat} (h : j < 32) : nuY K c Nn n z q j = K j := (nuR_lo (by omega)).trans (if_pos h)
theorem nuY_N {j : Nat} (h : j < 12) : nuY K c Nn n z q (32 + j) = Nn j := by
  refine (nuR_lo (by omega)).trans ?_
  unfold loY
  rw [if_neg (by omega), if_pos (by omega), Nat.add_sub_cancel_left]
theorem nuY_c : nuY K c Nn n z q 44 = ctI c q := (nuR_lo (by decide)).trans rfl
theorem nuY_q {j : Nat} (h : j < 64) : nuY K c Nn n z q (200 + j) = blkI K (ctI c q) Nn j := by
  refine (nuR_lo (by omega)).trans ?_
  unfold loY
  rw [if_neg (by omega), if_neg (by omega), if_neg (by omega), if_neg (by omega), if_pos (by omega), Nat.add_sub_cancel_left]
theorem nuY_n : nuY K c Nn n z q 301 = n := (nuR_lo (by decide)).trans rfl
theorem nuY_i : nuY K c Nn n z q 302 = ((64 * q : Nat) : Int) := (nuR_lo (by decide)).trans rfl
theorem nuY_a : nuY K c Nn n z q 305 = ((aq n q : Nat) : Int) := (nuR_lo (by decide)).trans rfl
theorem nuY_x {j : Nat} (h : j < 64) : nuY K c Nn n z q (400 + j) = z (64 * q + j) := by
  refine (nuR_lo (by omega)).trans ?_
  unfold loY
  rw [if_neg (by omega), if_neg (by omega), if_neg (by omega), if_neg (by omega), if_neg (by omega), if_neg (by omega), if_neg (by omega), if_neg (by omega), if_neg (by omega), Nat.add_sub_cancel_left]
theorem nuY_L2 : nuY K c Nn n z q (pinL (tg 2)) = (n : Int) := nuR_L (by decide)
theorem nuY_L6 : nuY K c Nn n z q (pinL (tg 6)) = (aq n q : Int) := nuR_L (by decide)
theorem nuY_A2 : nuY K c Nn n z q (pinA (tg 2)) = (aq n q : Int) := nuR_A (by decide)
theorem nuY_A6 : nuY K c Nn n z q (pinA (tg 6)) = (aq n q : Int) := nuR_A (by decide)
theorem nuY_B2 {j : Nat} (h : j < 1099511627774) : nuY K c Nn n z q (pinB (tg 2) j) = z j := nuR_B (by decide) h
theorem nuY_B6 {j : Nat} (h : j < 1099511627774) : nuY K c Nn n z q (pinB (tg 6) j) = xorW K c Nn z j := nuR_B (by decide) h
theorem wq_le : wq n q ≤ 64 := Nat.min_le_left _ _
theorem aq_wq : aq n q + wq n q ≤ n := by unfold aq wq; omega
theorem aq_succ : aq n (q + 1) = aq n q + wq n q := by unfold aq wq; omega
theorem aq_lt (h : 64 * q < n) : aq n q = 64 * q := by unfold aq; omega
theorem py1_get : ∀ p ∈ (py1 [(9, .nsl), (10, iN 0)]).H, (heapL ((py1 [(9, .nsl), (10, iN 0)]).H ++ []) 67).get p.1 = some p.2 := by
  intro p hp
  simp only [py1, List.mem_cons, List.not_mem_nil, or_false] at hp
  rcases hp with rfl | rfl | rfl <;> kernel_rfl
theorem pyM_get (b : Bool) (w : Nat) (hw : w ≤ 64) : ∀ p ∈ (pyM b w).H, (heapL ((pyM b w).H ++ []) (pyM b w).n).get p.1 = some p.2 := by
  intro p hp
  have key : ∀ b, (List.range 65).all (fun w => Nat.blt 67 (pyb b w) && Nat.blt (pyb b w) room || Nat.beq w 0) = true := by intro b; cases b <;> kernel_rfl
  simp only [pyM, List.mem_cons, List.not_mem_nil, or_false] at hp
  have hb : 66 < pyb b w ∧ pyb b w < 500 := by
    unfold pyb
    split <;> omega
  have gen : ∀ (X : Nat) (cs : ABlk), 66 < X → X < 500 → ∀ p, (p = wT 64 2 400 w false ∨ p = bxK ∨ p = bxN ∨ p = (X, cs)) → (heapL ([wT 64 2 400 w false, bxK, bxN, (X, cs)] ++ []) (X + 1)).get p.1 = some p.2 := by
    intro X cs h1 h2 p hp
    have hn : ∀ j, j < 500 → Nat.blt j room = true := fun j hj => by
      rw [Nat.blt_eq]; unfold room; omega
    have tr : ∀ j, (trL ([wT 64 2 400 w false, bxK, bxN, (X, cs)] ++ [])).get j = if j = 64 then some (wT 64 2 400 w false).2 else if j = 65 then some bxK.2 else if j = 66 then some bxN.2 else if j = X then some cs else none := by
      intro j
      show (trL [wT 64 2 400 w false, bxK, bxN, (X, cs)]).get j = _
      have st : ∀ (q : Nat × ABlk) (r : List (Nat × ABlk)), q.1 < 500 → (trL (q :: r)).get j = if j = q.1 then some q.2 else (trL r).get j := fun q r hq => by
        show (if Nat.blt q.1 room then Tr.put depth (trL r) q.1 (some q.2) else trL r).get j = _
        rw [if_pos (hn _ hq), Tr.get_put _ _ _ _ _ (by show q.1 + 1 < 2 ^ 24; omega)]
      rw [st _ _ (by show 64 < 500; decide), st _ _ (by show 65 < 500; decide), st _ _ (by show 66 < 500; decide), st _ _ (by show X < 500; exact h2)]
      rfl
    have get : ∀ j, 64 ≤ j → j < X + 1 → (heapL ([wT 64 2 400 w false, bxK, bxN, (X, cs)] ++ []) (X + 1)).get j = (trL ([wT 64 2 400 w false, bxK, bxN, (X, cs)] ++ [])).get j := by
      intro j h3 h4
      unfold heapL AH.get
      simp only [hidden, Bool.false_eq_true, if_false]
      rw [if_neg (by simp [gmax]; omega), if_pos (by simpa using h4)]
    rcases hp with rfl | rfl | rfl | rfl
    · rw [get _ (by show 64 ≤ 64; decide) (by show 64 < X + 1; omega), tr]; rfl
    · rw [get _ (by show 64 ≤ 65; decide) (by show 65 < X + 1; omega), tr]; rfl
    · rw [get _ (by show 64 ≤ 66; decide) (by show 66 < X + 1; omega), tr]; rfl
    · rw [get _ (by show 64 ≤ X; omega) (by show X < X + 1; omega), tr]
      show (if X = 64 then _ else if X = 65 then _ else if X = 66 then _ else if X = X then _ else _) = _
      rw [if_neg (by omega), if_neg (by omega), if_neg (by omega), if_pos rfl]
  exact gen _ _ hb.1 hb.2 p hp
theorem py_open {w0 : World} {ac : Act} {w : World} (hn : n < 1000000000000) (h0 : 0 < n) (h : HoldsX 51 w0 (nuY K c Nn n z 0) [] [] [] [] (py1 [(9, .nsl), (10, iN 0)]) ac w) : HoldsX 51 w0 (nuY K c Nn n z 0) [] [] [] [] (pyN false (wq n 0)) ac w := by
  let fm : Nat → Pl → Pl := fun b pl => if b = 64 then mv 0 0 pl else pl
  have f64 : ∀ pl, fm 64 pl = mv 0 0 pl := fun pl => if_pos rfl
  have f65 : ∀ pl, fm 65 pl = pl := fun pl => if_neg (by decide)
  have f66 : ∀ pl, fm 66 pl = pl := fun pl => if_neg (by decide)
  have gt := py1_get
  have hw : 0 + wq n 0 ≤ n := by have := aq_wq (n := n) (q := 0); unfold aq at this; omega
  have a0 : aq n 0 = 0 := by unfold aq; omega
  have hA2 : nuY K c Nn n z 0 (pinA (tg 2)) = ((0 : Nat) : Int) := by rw [nuY_A2, a0]
  refine HoldsX.re [64, 65, 66] (fun b => b) fm gl0_ok h (by decide) (fun b pl => ?_) (fun b hb => ?_) (fun b hb b' hb' e => e) (fun p hp => ?_) (fun p hp => ?_)
  · show (if b = 64 then mv 0 0 pl else pl).cb = pl.cb
    split <;> rfl
  · simp only [List.mem_cons, List.not_mem_nil, or_false] at hb
    rcases hb with rfl | rfl | rfl <;> exact ⟨by decide, by decide⟩
  · simp only [pyN, pyO, if_false, Bool.false_eq_true, List.mem_cons, List.not_mem_nil, or_false] at hp
    rcases hp with rfl | rfl | rfl | rfl | rfl | rfl
    · exact ⟨ctS, by simp [py1], SlotR.conc (u := .int .u32 (ctI c 0)) (by show some (Value.int .u32 (nuY K c Nn n z 0 44)) = _; rw [nuY_c]) (by show some (Value.int .u32 (nuY K c Nn n z 0 44)) = _; rw [nuY_c])⟩
    · exact ⟨.p 65 0, by simp [py1], SlotR.p (by simp) rfl f65⟩
    · exact ⟨.p 66 0, by simp [py1], SlotR.p (by simp) rfl f66⟩
    · exact ⟨ps 64 2, by simp [py1], SlotR.unpin (b := 64) (m := n) (a' := 0) (by simp) rfl f64 nuY_i nuY_L2 nuY_n hw (by omega)⟩
    · exact ⟨.nsl, by simp [py1], SlotR.nsl⟩
    · exact ⟨iN 0, by simp [py1], SlotR.conc (u := .int .i64 ((64 * 0 : Nat) : Int)) rfl (sI_conc nuY_i)⟩
  · simp only [pyN, pyOb, if_false, Bool.false_eq_true, List.append_nil, List.mem_cons, List.not_mem_nil, or_false] at hp
    rcases hp with rfl | rfl | rfl
    · refine ⟨by simp [wT], _, gt (pn 64 2) (by simp [py1]), (fun h => by cases h), ?_⟩
      show BlkR _ _ (fm 64) _ _
      rw [show fm 64 = mv 0 0 from funext f64]
      exact BlkR.unpin (t' := 2) (m := n) (a' := 0) (g := z) (tgT (by decide) (by decide)) (by decide) (tg_Ke (by decide)) (tg_Ke (by decide)) nuY_L2 hA2 nuY_L2 (fun j hj => nuY_B2 (by omega)) (fun j hj _ => nuY_B2 (by omega)) (fun j hj => by have := wq_le (n := n) (q := 0); rw [nm_val, nuY_x (by omega)]) hw
    · refine ⟨by simp [bxK], _, gt bxK (by simp [py1]), id, ?_⟩
      show BlkR _ _ (fm 65) _ _
      rw [show fm 65 = fun pl => pl from funext f65]
      exact BlkR.row (by decide) fun j hj => rfl
    · refine ⟨by simp [bxN], _, gt bxN (by simp [py1]), id, ?_⟩
      show BlkR _ _ (fm 66) _ _
      rw [show fm 66 = fun pl => pl from funext f66]
      exact BlkR.row (by decide) fun j hj => rfl
theorem xrA_val {j : Nat} (h : j < 64) : (xrA j).val (nuY K c Nn n z q) = xorW K c Nn z (64 * q + j) := by
  show arith .xor .u8 (nuY K c Nn n z q (400 + j)) (nuY K c Nn n z q (200 + j)) = _
  rw [nuY_x h, nuY_q h]
  unfold xorW
  rw [show (64 * q + j) / 64 = q by omega, show (64 * q + j) % 64 = j by omega]
/-- A round is over. -/
theorem py_next {w0 : World} {b : Bool} {kk : AI} {w' : Nat} {ac : Act} {w : World} (hn : n < 1000000000000) (hb : b = decide (q ≠ 0)) (hlt : 64 * q < n) (hkk : kk.val (nuY K c Nn n z (q + 1)) = ((aq n (q + 1) : Nat) : Int)) (hw64 : w' = wq n (q + 1))
    (h : HoldsX 51 w0 (nuY K c Nn n z q) [] [] [] [] (pyM b (wq n q)) ac w) : HoldsX 51 w0 (nuY K c Nn n z (q + 1)) [] [] [] [] (pyNk true w' kk) ac w := by
  subst hw64
  have hw1 : wq n q ≤ 64 := wq_le
  have hw2 : wq n (q + 1) ≤ 64 := wq_le
  have hw0 : 0 < wq n q := by unfold wq; omega
  have haq := aq_lt hlt
  have has : aq n (q + 1) = 64 * q + wq n q := by rw [aq_succ, haq]
  have hfit : aq n (q + 1) + wq n (q + 1) ≤ n := aq_wq
  have hfit0 : 64 * q + wq n q ≤ n := by have := aq_wq (n := n) (q := q); omega
  generalize hB : pyb b (wq n q) = B
  have hBb : 67 ≤ B ∧ B < 500 := by
    have : pyb b (wq n q) = (if b then 68 else 67) + 2 * wq n q := rfl
    rw [← hB, this]
    cases b
    · show 67 ≤ 67 + 2 * wq n q ∧ _
      exact ⟨by omega, by show 67 + 2 * wq n q < 500; omega⟩
    · show 67 ≤ 68 + 2 * wq n q ∧ _
      exact ⟨by omega, by show 68 + 2 * wq n q < 500; omega⟩
  let σ : Nat → Nat := fun x => if x = 67 then B else x
  let fm : Nat → Pl → Pl := fun x pl => if x = 64 ∨ x = 67 then mv (64 * q) (aq n (q + 1)) pl else pl
  have s67 : σ 67 = B := if_pos rfl
  have s64 : σ 64 = 64 := if_neg (by decide)
  have s65 : σ 65 = 65 := if_neg (by decide)
  have s66 : σ 66 = 66 := if_neg (by decide)
  have f64 : ∀ pl, fm 64 pl = mv (64 * q) (aq n (q + 1)) pl := fun pl => if_pos (.inl rfl)
  have f67 : ∀ pl, fm 67 pl = mv (64 * q) (aq n (q + 1)) pl := fun pl => if_pos (.inr rfl)
  have f65 : ∀ pl, fm 65 pl = pl := fun pl => if_neg (by decide)
  have f66 : ∀ pl, fm 66 pl = pl := fun pl => if_neg (by decide)
  have gt := pyM_get b (wq n q) hw1
  have hA2 : nuY K c Nn n z q (pinA (tg 2)) = ((64 * q : Nat) : Int) := by rw [nuY_A2, haq]
  have hA6 : nuY K c Nn n z q (pinA (tg 6)) = ((64 * q : Nat) : Int) := by rw [nuY_A6, haq]
  have hL6 : nuY K c Nn n z q (pinL (tg 6)) = ((64 * q : Nat) : Int) := by rw [nuY_L6, haq]
  have hL6' : nuY K c Nn n z (q + 1) (pinL (tg 6)) = ((64 * q + wq n q : Nat) : Int) := by rw [nuY_L6, has]
  refine HoldsX.re [64, 65, 66, 67] σ fm gl0_ok h (by decide) (fun x pl => ?_) (fun x hx => ?_) (fun x hx x' hx' e => ?_) (fun p hp => ?_) (fun p hp => ?_)
  · show (if x = 64 ∨ x = 67 then mv (64 * q) (aq n (q + 1)) pl else pl).cb = pl.cb
    split <;> rfl
  · simp only [List.mem_cons, List.not_mem_nil, or_false] at hx
    rcases hx with rfl | rfl | rfl | rfl <;> exact ⟨by decide, by decide⟩
  · simp only [List.mem_cons, List.not_mem_nil, or_false] at hx hx'
    rcases hx with rfl | rfl | rfl | rfl <;> rcases hx' with rfl | rfl | rfl | rfl <;> first | rfl | (exfalso; simp only [s64, s65, s66, s67] at e; omega)
  · simp only [pyNk, pyO, if_true, List.mem_cons, List.not_mem_nil, or_false] at hp
    rcases hp with rfl | rfl | rfl | rfl | rfl | rfl
    · refine ⟨.i .u32 (.e .add .u32 (.s 44) (nA 1)), by simp [pyM], SlotR.conc (u := .int .u32 (ctI c (q + 1))) ?_ (by show some (Value.int .u32 (nuY K c Nn n z (q + 1) 44)) = _; rw [nuY_c])⟩
      show some (Value.int .u32 (arith .add .u32 (nuY K c Nn n z q 44) ((1 : Nat) : Int))) = _
      rw [nuY_c]
      rfl
    · exact ⟨.p 65 0, by simp [pyM], SlotR.p (by simp) s65 f65⟩
    · exact ⟨.p 66 0, by simp [pyM], SlotR.p (by simp) s66 f66⟩
    · exact ⟨wS 64 (wq n q) .any, by simp [pyM], SlotR.win (b := 64) (σ := σ) (a := 64 * q) (a' := aq n (q + 1)) (m := n) (by simp) s64 f64 nuY_i hkk nuY_n nuY_n hfit⟩
    · cases b
      · have hq0 : q = 0 := by simpa using hb.symm
        subst hq0
        refine ⟨.sl B 0 (nA (wq n 0)) (.own 1), by simp [pyM, hB], ?_⟩
        exact SlotR.openN (b := 67) (σ := σ) (a' := aq n (0 + 1)) (m := wq n 0) (by simp) s67 f67 nuY_A6 (nuY_A6.trans (by rw [has]; simp)) (by omega) (by omega)
      · refine ⟨slE B (tg 6) (wq n q), by simp [pyM, hB], ?_⟩
        refine SlotR.win (b := 67) (σ := σ) (a := 64 * q) (a' := aq n (q + 1)) (m := 64 * q + wq n q) (by simp) s67 f67 hA6 nuY_A6 ?_ (nuY_A6.trans (by rw [has])) (by omega)
        unfold lenE
        have hz : Nat.beq (wq n q) 0 = false := by rw [Bool.eq_false_iff]; intro h9; have := Nat.eq_of_beq_eq_true h9; omega
        rw [hz, if_neg (by decide)]
        show IntKind.i64.wrap (nuY K c Nn n z q (pinA (tg 6)) + ((wq n q : Nat) : Int)) = _
        rw [hA6, i64_small (by omega) (by omega)]
        omega
    · refine ⟨.i .i64 (.e .add .i64 (.s 302) (nA 64)), by simp [pyM], SlotR.conc (u := .int .i64 ((64 * (q + 1) : Nat) : Int)) ?_ (sI_conc nuY_i)⟩
      show some (Value.int .i64 (IntKind.i64.wrap (nuY K c Nn n z q 302 + ((64 : Nat) : Int)))) = _
      rw [nuY_i, i64_small (by omega) (by omega)]
      congr 2
  · simp only [pyNk, pyOb, if_true, List.cons_append, List.nil_append, List.mem_cons, List.not_mem_nil, or_false] at hp
    rcases hp with rfl | rfl | rfl | rfl
    · refine ⟨by simp [wT], _, gt (wT 64 2 400 (wq n q) false) (by simp [pyM]), id, ?_⟩
      show BlkR _ _ (fm 64) _ _
      rw [show fm 64 = mv (64 * q) (aq n (q + 1)) from funext f64]
      exact BlkR.winF (t := 2) (t' := 2) (a := 64 * q) (a' := aq n (q + 1)) (m := n) (g := z) (by decide) (by decide) (tg_Ke (by decide)) (tg_Ke (by decide)) hA2 nuY_L2 nuY_A2 nuY_L2 (fun j hj _ => nuY_B2 (by omega)) (fun j hj => by rw [nm_val, nuY_x (by omega)]) (fun j hj _ => nuY_B2 (by omega)) (fun j hj => by rw [nm_val, nuY_x (by omega)]; congr 1; unfold aq; unfold wq at hj; omega) hfit
    · refine ⟨by simp [bxK], _, gt bxK (by simp [pyM]), id, ?_⟩
      show BlkR _ _ (fm 65) _ _
      rw [show fm 65 = fun pl => pl from funext f65]
      exact BlkR.row (by decide) fun j hj => by rw [nm_val, nm_val, Nat.zero_add, nuY_K hj, nuY_K hj]
    · refine ⟨by simp [bxN], _, gt bxN (by simp [pyM]), id, ?_⟩
      show BlkR _ _ (fm 66) _ _
      rw [show fm 66 = fun pl => pl from funext f66]
      exact BlkR.row (by decide) fun j hj => by rw [nm_val, nm_val, nuY_N hj, nuY_N hj]
    · refine ⟨by simp, ⟨rowC .u8 xrA (wq n q), if b then wg 6 else eU, true⟩, ?_, fun _ => rfl, ?_⟩
      · show (heapL _ _).get (σ 67) = _
        rw [s67, ← hB]
        exact gt (pyb b (wq n q), ⟨rowC .u8 xrA (wq n q), if b then wg 6 else eU, true⟩) (by simp [pyM])
      show BlkR _ _ (fm 67) _ _
      rw [show fm 67 = mv (64 * q) (aq n (q + 1)) from funext f67]
      cases b
      · have hq0 : q = 0 := by simpa using hb.symm
        subst hq0
        exact BlkR.openN (t' := 6) (m := wq n 0) (a' := aq n (0 + 1)) (k := .u8) (g := xorW K c Nn z) (by decide) (by decide) (tg_Ke (by decide)) nuY_A6 (nuY_L6.trans (by rw [has]; simp)) (fun j hj => by rw [xrA_val (by omega), Nat.mul_zero, Nat.zero_add]) (fun j hj => nuY_B6 (by omega)) (by omega)
      · exact BlkR.grow (t := 6) (t' := 6) (m := 64 * q) (wd := wq n q) (a' := aq n (q + 1)) (wd' := 0) (k := .u8) (g := xorW K c Nn z) (by decide) (by decide) (tg_Ke (by decide)) (tg_Ke (by decide)) hA6 hL6 nuY_A6 hL6' (fun j hj => nuY_B6 (by omega)) (fun j hj => xrA_val (by omega)) (fun j hj _ => nuY_B6 (by omega)) (fun j hj => by omega) (by omega)
theorem fPy_hold {b : Bool} (hn : n < 1000000000000) (hlt : 64 * q < n) : (fPy b (wq n q)).Hold (nuY K c Nn n z q) := by
  have hw1 : wq n q ≤ 64 := wq_le
  have add : ∀ j, j ≤ 64 → (AI.e .add .i64 (.s 302) (nA j)).val (nuY K c Nn n z q) = ((64 * q + j : Nat) : Int) := fun j hj => by
    show IntKind.i64.wrap (nuY K c Nn n z q 302 + ((j : Nat) : Int)) = _
    rw [nuY_i, i64_small (by omega) (by omega)]
    omega
  refine ⟨fun p hp => (by cases hp), fun p hp => ?_, fun p hp => by cases hp⟩
  rcases List.mem_append.1 hp with hp | hp
  · simp only [List.mem_cons, List.not_mem_nil, or_false] at hp
    subst hp
    show decide (nuY K c Nn n z q 302 < nuY K c Nn n z q 301) = true
    rw [nuY_i, nuY_n]
    exact decide_eq_true (by omega)
  rcases List.mem_append.1 hp with hp | hp
  · obtain ⟨j, hj, rfl⟩ := List.mem_map.1 hp
    have hj := List.mem_range.1 hj
    show decide ((AI.e .add .i64 (.s 302) (nA j)).val (nuY K c Nn n z q) < nuY K c Nn n z q 301) = true
    rw [add j (by omega), nuY_n]
    unfold wq at hj
    exact decide_eq_true (by omega)
  rcases List.mem_append.1 hp with hp | hp
  · by_cases c9 : wq n q < 64
    · rw [if_pos (by simpa using c9)] at hp
      simp only [List.mem_cons, List.not_mem_nil, or_false] at hp
      subst hp
      show decide ((AI.e .add .i64 (.s 302) (nA (wq n q))).val (nuY K c Nn n z q) < nuY K c Nn n z q 301) = false
      rw [add _ hw1, nuY_n]
      refine decide_eq_false ?_
      unfold wq at c9 ⊢
      omega
    · rw [if_neg (by simpa using c9)] at hp
      cases hp
  · simp only [List.mem_cons, List.not_mem_nil, or_false] at hp
    rcases hp with rfl | rfl
    · show (nuY K c Nn n z q (pinA (tg 6)) == nuY K c Nn n z q (pinL (tg 6))) = true
      rw [nuY_A6, nuY_L6]
      exact beq_self_eq_true _
    · show decide (nuY K c Nn n z q (pinL (tg 6)) < 1099511627776) = true
      rw [nuY_L6]
      refine decide_eq_true ?_
      unfold aq
      omega
theorem rowPy_ok : rowPy.Ok (nuY K c Nn n z q) Try.prog := by
  refine rowBlk PBlock_ok (ct := .s 44) (ka := nmA 0) (no := nmA 32) fun j hj => ?_
  rw [nm_val, nuY_q hj]
  show _ = blkI _ (nuY K c Nn n z q 44) _ j
  rw [nuY_c]
  exact blkI_congr (fun j hj => by rw [nm_val, Nat.zero_add, nuY_K hj]) (fun j hj => by rw [nm_val, nuY_N hj]) hj
def kkR (R r : Nat) : AI := if r = R then .s 305 else .s 302
theorem py_loop {w0 : World} (hn : n < 1000000000000) {R : Nat} (h0 : 0 < R) (h1 : n ≤ 64 * R) (h2 : 64 * R < n + 64) : Tri Try.prog 51 (.loop pyR) (fun a w => HoldsX 51 w0 (nuY K c Nn n z 0) [] [] [] [] (pyN false (wq n 0)) a w) fun ex a w => ex = .exit 0 ∧ HoldsX 51 w0 (nuY K c Nn n z R) [] [] [] [] (pyNk true 0 (.s 305)) a w := by
  have key := Tri.loop (P := Try.prog) (N := 51) (x := pyR) (J := fun r a w => r ≤ R ∧ HoldsX 51 w0 (nuY K c Nn n z (R - r)) [] [] [] [] (pyNk (decide (R - r ≠ 0)) (wq n (R - r)) (kkR R (R - r))) a w) (Post := fun ex a w => ex = .exit 0 ∧ HoldsX 51 w0 (nuY K c Nn n z R) [] [] [] [] (pyNk true 0 (.s 305)) a w) R ?_ ?_
  · refine key.weak (fun a w h => ⟨Nat.le_refl _, ?_⟩) (fun _ _ _ h => h)
    rw [Nat.sub_self, show kkR R 0 = .s 302 from if_neg (by omega), pyNk_eq]
    exact h
  · intro r cc hc a w ⟨hr, hp⟩
    have e2 : R - r = R - (r + 1) + 1 := by omega
    have hlt : 64 * (R - (r + 1)) < n := by omega
    have hkR : R - (r + 1) < R := by omega
    rw [e2]
    generalize R - (r + 1) = q at *
    rw [show kkR R q = .s 302 from if_neg (by omega), pyNk_eq] at hp
    have hw0 : 0 < wq n q := by unfold wq; omega
    have hgo : pyGo (decide (q ≠ 0)) (wq n q) = true := by
      cases decide (q ≠ 0)
      · exact py_all_false hw0 wq_le
      · exact py_all_true hw0 wq_le
    refine ((Tri.runX (L := []) (fx := []) (kp := []) (w0 := w0) (fPy_hold hn hlt) mixed tab_ok gl0_ok (fun r hr => ?_) (fun r hr => by cases hr) (fun r hr => by cases hr) (fun r hr => by cases hr) hgo).weak (fun _ _ h => h) (fun ex a w h => .inl ⟨h.1, by omega, ?_⟩)) cc hc a w hp
    · simp only [List.mem_cons, List.not_mem_nil, or_false] at hr
      subst hr
      exact rowPy_ok
    · rw [show decide (q + 1 ≠ 0) = true from decide_eq_true (by omega)]
      refine py_next hn rfl hlt ?_ rfl h.2
      unfold kkR
      split
      · exact nuY_a
      · refine nuY_i.trans ?_
        unfold aq
        omega
  · intro cc hc a w ⟨_, hp⟩
    rw [Nat.sub_zero, show decide (R ≠ 0) = true from decide_eq_true (by omega), show kkR R R = .s 305 from if_pos rfl, show wq n R = 0 by unfold wq; omega] at hp
    refine ((Tri.runX (L := []) (fx := []) (kp := []) (w0 := w0) ⟨fun p hp => (by cases hp), fun p hp => ?_, fun p hp => by cases hp⟩ mixed tab_ok gl0_ok (fun r hr => by cases hr) (fun r hr => by cases hr) (fun r hr => by cases hr) (fun r hr => by cases hr) py_goRk).weak (fun _ _ h => h) (fun ex a w h => ⟨by rw [h.1]; simp, h⟩)) cc hc a w hp
    simp only [List.mem_cons, List.not_mem_nil, or_false] at hp
    subst hp
    show decide (nuY K c Nn n z R 302 < nuY K c Nn n z R 301) = false
    rw [nuY_i, nuY_n]
    exact decide_eq_false (by omega)
end
/-- WHAT IT MAKES OF A TEXT. -/
theorem PXor_ok {w : World} {cb o cp n : Nat} {K Nn z : Wd} {c : Int} (h0 : 0 < n) (hle : n ≤ cp) (hz : CellsAt w .u8 cb o n z) (hn : n < 1000000000000) :
    Calls Try.prog 11 #[aggI .u8 32 K, .int .u32 c, aggI .u8 12 Nn, .slice (some ⟨cb, o, none⟩) n cp] w fun e w' => ∃ u, e = .returned u ∧ Padded w w' u n (xorW K c Nn z) ∧ Below w.heap.size w w' := by
  have below : ∀ {w' : World}, BelowL [] w w' → Below w.heap.size w w' := fun hB => ⟨hB.os, hB.tape, hB.output, hB.size, fun k hk => hB.block k hk fun p hp => by cases hp⟩
  have start := holdsX_start (N := 51) (ν := nuY K c Nn n z 0) (L := []) (fx := []) (kp := []) (vs := #[aggI .u8 32 K, .int .u32 c, aggI .u8 12 Nn, .slice (some ⟨cb, o, none⟩) n cp]) (e0 := xo0.e) (H0 := xo0.H) (n0 := 65) gl0_ok (w := w) (fun p hp => by cases hp) (at1 64 ⟨cb, o, 0⟩) (by show 4 ≤ 51; decide) (by decide) (fun b hb => at1_none (by omega)) (fun p hp => by cases hp)
    (fun p hp => by
      simp only [xo0, List.mem_cons, List.not_mem_nil, or_false] at hp
      rcases hp with rfl | rfl | rfl | rfl
      · exact ⟨_, rfl, (conc2_vr (keyS_val fun j hj => nuY_K hj)).1⟩
      · refine ⟨.int .u32 c, rfl, ?_⟩
        have e : (AI.s 44).val (nuY K c Nn n z 0) = c := nuY_c
        rw [← e]
        exact .i _ _
      · exact ⟨_, rfl, (conc2_vr (nonS_val fun j hj => nuY_N hj)).1⟩
      · exact ⟨_, rfl, .sl 64 0 _ .any ⟨cb, o, 0⟩ n cp (at1_at (by decide)) nuY_L2 trivial hle⟩)
    (fun p hp => by
      simp only [xo0, List.mem_cons, List.not_mem_nil, or_false] at hp
      subst hp
      exact ⟨show gmax ≤ 64 by decide, _, if_pos rfl, pin_br (tgT (by decide) (by decide)) (tg_Ke (by decide)) nuY_L2 (fun j hj => nuY_B2 (by omega)) hz, fun h => by cases h⟩)
    (fun p hp => by cases hp)
  refine (callsX (L := []) (gl := []) (Q := fun u w' => Padded w w' u n (xorW K c Nn z) ∧ Below w.heap.size w w') tab_ok (by kernel_rfl) py_shape start ?_).2
  have run : ∀ {ic : IC} {i o : Now} {ex : Ex} {ν : Nat → Int} {F : Facts}, F.Hold ν → goesX F tree [] [] [] [] [] 60 4 ic i ex o = true → Tri Try.prog 51 ic (HoldsX 51 w ν [] [] [] [] i) fun ex' a w' => ex' = ex ∧ HoldsX 51 w ν [] [] [] [] o a w' := fun hF h =>
    Tri.runX hF mixed tab_ok gl0_ok (fun r hr => by cases hr) (fun r hr => by cases hr) (fun r hr => by cases hr) (fun r hr => by cases hr) h
  obtain ⟨R, h1, h2⟩ : ∃ R, n ≤ 64 * R ∧ 64 * R < n + 64 := ⟨(n + 63) / 64, by omega, by omega⟩
  refine seqN (run (none_f _) py_goA) (seqN (run (none_f _) py_goB) (seqN (Mid := HoldsX 51 w (nuY K c Nn n z R) [] [] [] [] (pyNk true 0 (.s 305))) ?_ ?_))
  · refine seqN (Mid := HoldsX 51 w (nuY K c Nn n z 0) [] [] [] [] (pyN false (wq n 0))) ((run (none_f _) py_goD).weak (fun _ _ h => h) fun ex a w' h => ⟨h.1, py_open hn h0 h.2⟩) ?_
    refine Tri.block (py_loop hn (by omega) h1 h2) (fun a w h => by cases h.1) (fun a w h => ⟨rfl, h.2⟩) (fun j a w hj h => ?_) (fun a w h => by cases h.1)
    have := h.1
    simp only [Ex.exit.injEq] at this
    exact (hj this).elim
  · refine (run (none_f _) py_goEk).weak (fun _ _ h => h) fun ex a w' h => ⟨.inr h.1, _, pyZ, slE 67 (tg 6) 0, [], [], h.2, py_res, fun ρ v _ hh ho hB hv => ⟨?_, below hB⟩⟩
    have ha : aq n R = n := by unfold aq; omega
    exact win_padded (t := 6) hh (by kernel_rfl) ho rfl hv (by decide) (tg_Ke (by decide)) rfl (nuY_A6.trans (by rw [ha])) (by rw [nuY_L6, ha]; omega) fun j hj => nuY_B6 (by omega)
end Go.Proofs.Ytakegcfpbacefaa
