/-
  chacha.Xor: what it answers. Own work.
-/
import Derived.Test.YtakegcfpbacefaaQd
namespace Go.Proofs.Ytakegcfpbacefaa
open Go.Sh
open Go.ChangeShapes Go.WideShapes Go.ChangeAt Go.RowKit
set_option maxRecDepth 100000

/-- Counters, one behind the other. -/
def ctI (c : Int) : Nat → Int
  | 0 => c
  | q + 1 => arith .add .u32 (ctI c q) ((1 : Nat) : Int)
/-- A TEXT, TURNED. -/
def xorW (K : Wd) (c : Int) (Nn z : Wd) : Wd := fun j => arith .xor .u8 (z j) (blkI K (ctI c (j / 64)) Nn (j % 64))
def bkX (K : Wd) (c : Int) (Nn : Wd) (i : Nat) : Wd := if i = 0 then fun _ => 0 else blkI K (ctI c ((i - 1) / 64)) Nn
def loX (K : Wd) (c : Int) (Nn : Wd) (n : Nat) (z : Wd) (i : Nat) : Nat → Int := fun k => if k < 32 then K k else if k < 44 then Nn (k - 32) else if k = 44 then ctI c ((i + 63) / 64) else if k < 100 then 0 else if k < 164 then bkX K c Nn i (k - 100) else if k < 200 then 0 else if k < 264 then blkI K (ctI c ((i + 63) / 64)) Nn (k - 200) else if k = 301 then (n : Int) else if k = 302 then (i : Int) else if k = 303 then z i else 0
def gX (K : Wd) (c : Int) (Nn z : Wd) (i : Nat) : Wd := fun j => if j < i then xorW K c Nn z j else 0
def nuX (K : Wd) (c : Int) (Nn : Wd) (n : Nat) (z : Wd) (i a : Nat) : Nat → Int := nuR (loX K c Nn n z i) (fun _ => n) (fun t => if t = 2 then i else a) (fun t => if t = 2 then z else gX K c Nn z i)
section
variable {K Nn z : Wd} {c : Int} {n i a : Nat}
theorem nuX_K {j : Nat} (h : j < 32) : nuX K c Nn n z i a j = K j := (nuR_lo (by omega)).trans (if_pos h)
theorem nuX_N {j : Nat} (h : j < 12) : nuX K c Nn n z i a (32 + j) = Nn j := by
  refine (nuR_lo (by omega)).trans ?_
  unfold loX
  rw [if_neg (by omega), if_pos (by omega), Nat.add_sub_cancel_left]
theorem nuX_c : nuX K c Nn n z i a 44 = ctI c ((i + 63) / 64) := (nuR_lo (by decide)).trans rfl
theorem nuX_b {j : Nat} (h : j < 64) : nuX K c Nn n z i a (100 + j) = bkX K c Nn i j := by
  refine (nuR_lo (by omega)).trans ?_
  unfold loX
  rw [if_neg (by omega), if_neg (by omega), if_neg (by omega), if_neg (by omega), if_pos (by omega), Nat.add_sub_cancel_left]
theorem nuX_q {j : Nat} (h : j < 64) : nuX K c Nn n z i a (200 + j) = blkI K (ctI c ((i + 63) / 64)) Nn j := by
  refine (nuR_lo (by omega)).trans ?_
  unfold loX
  rw [if_neg (by omega), if_neg (by omega), if_neg (by omega), if_neg (by omega), if_neg (by omega), if_neg (by omega), if_pos (by omega), Nat.add_sub_cancel_left]
theorem nuX_n : nuX K c Nn n z i a 301 = n := (nuR_lo (by decide)).trans rfl
theorem nuX_i : nuX K c Nn n z i a 302 = i := (nuR_lo (by decide)).trans rfl
theorem nuX_x : nuX K c Nn n z i a 303 = z i := (nuR_lo (by decide)).trans rfl
theorem nuX_y : nuX K c Nn n z i a 304 = 0 := (nuR_lo (by decide)).trans rfl
theorem nuX_L2 : nuX K c Nn n z i a (pinL (tg 2)) = (n : Int) := nuR_L (by decide)
theorem nuX_L4 : nuX K c Nn n z i a (pinL (tg 4)) = (n : Int) := nuR_L (by decide)
theorem nuX_A2 : nuX K c Nn n z i a (pinA (tg 2)) = (i : Int) := nuR_A (by decide)
theorem nuX_A4 : nuX K c Nn n z i a (pinA (tg 4)) = (a : Int) := nuR_A (by decide)
theorem nuX_B2 {j : Nat} (h : j < 1099511627774) : nuX K c Nn n z i a (pinB (tg 2) j) = z j := nuR_B (by decide) h
theorem nuX_B4 {j : Nat} (h : j < 1099511627774) : nuX K c Nn n z i a (pinB (tg 4) j) = gX K c Nn z i j := nuR_B (by decide) h
theorem xo_get (wd : Nat) (ct it : AI) (f g : Nat → AI) : ∀ p ∈ (xoF wd ct it f g).H, (heapL ((xoF wd ct it f g).H ++ []) 69).get p.1 = some p.2 := by
  intro p hp
  simp only [xoF, List.mem_cons, List.not_mem_nil, or_false] at hp
  rcases hp with rfl | rfl | rfl | rfl | rfl <;> kernel_rfl
theorem xo4_get : ∀ p ∈ xo4.H, (heapL (xo4.H ++ []) 69).get p.1 = some p.2 := by
  intro p hp
  simp only [xo4, xo3, xo2, List.cons_append, List.nil_append, List.mem_cons, List.not_mem_nil, or_false] at hp
  rcases hp with rfl | rfl | rfl | rfl | rfl <;> kernel_rfl
def xoD5 : List Nat := [64, 65, 66, 67, 68]
theorem xoD5_ok : ∀ b ∈ xoD5, gmax ≤ b ∧ b < 69 := fun b hb => by
  simp only [xoD5, List.mem_cons, List.not_mem_nil, or_false] at hb
  rcases hb with rfl | rfl | rfl | rfl | rfl <;> exact ⟨by decide, by decide⟩
/-- Both windows move. -/
theorem xo_move {w0 : World} {i' wd wd' : Nat} {ct it : AI} {f g : Nat → AI} {ac : Act} {w : World} (hn : n < 1000000000000) (hwd : wd ≤ 1) (hwd' : wd' ≤ 1) (hfit : i + wd ≤ n) (hw : i' + wd' ≤ n)
    (h : HoldsX 43 w0 (nuX K c Nn n z i i) [] [] [] [] (xoF wd ct it f g) ac w) (hct : ct.val (nuX K c Nn n z i i) = ctI c ((i' + 63) / 64)) (hit : it.val (nuX K c Nn n z i i) = (i' : Int)) (hg : ∀ j, j < 64 → (g j).val (nuX K c Nn n z i i) = bkX K c Nn i' j)
    (hf : ∀ j, j < wd → (f j).val (nuX K c Nn n z i i) = gX K c Nn z i' (i + j)) (hB : ∀ j, j < n → (j < i ∨ i + wd ≤ j) → gX K c Nn z i j = gX K c Nn z i' j) :
    HoldsX 43 w0 (nuX K c Nn n z i' i') [] [] [] [] (xoN wd') ac w := by
  let fm : Nat → Pl → Pl := fun b pl => if b = 64 ∨ b = 67 then mv i i' pl else pl
  have f64 : ∀ pl, fm 64 pl = mv i i' pl := fun pl => if_pos (.inl rfl)
  have f67 : ∀ pl, fm 67 pl = mv i i' pl := fun pl => if_pos (.inr rfl)
  have f65 : ∀ pl, fm 65 pl = pl := fun pl => if_neg (by decide)
  have f66 : ∀ pl, fm 66 pl = pl := fun pl => if_neg (by decide)
  have f68 : ∀ pl, fm 68 pl = pl := fun pl => if_neg (by decide)
  have gt := xo_get wd ct it f g
  have z1 : ∀ {j : Nat}, j < wd → j = 0 := fun hj => by omega
  have z2 : ∀ {j : Nat}, j < wd' → j = 0 := fun hj => by omega
  refine HoldsX.re xoD5 (fun b => b) fm gl0_ok h (by decide) (fun b pl => ?_) xoD5_ok (fun b hb b' hb' e => e) (fun p hp => ?_) (fun p hp => ?_)
  · show (if b = 64 ∨ b = 67 then mv i i' pl else pl).cb = pl.cb
    split <;> rfl
  · simp only [xoN, xoF, List.mem_cons, List.not_mem_nil, or_false] at hp
    rcases hp with rfl | rfl | rfl | rfl | rfl | rfl | rfl | rfl
    · refine ⟨.i .u32 ct, by simp [xoF], SlotR.conc (u := .int .u32 (ctI c ((i' + 63) / 64))) ?_ ?_⟩
      · show some (Value.int .u32 (ct.val _)) = _
        rw [hct]
      · show some (Value.int .u32 (nuX K c Nn n z i' i' 44)) = _
        rw [nuX_c]
    · exact ⟨.p 65 0, by simp [xoF], SlotR.p (by simp [xoD5]) rfl f65⟩
    · exact ⟨.p 66 0, by simp [xoF], SlotR.p (by simp [xoD5]) rfl f66⟩
    · exact ⟨wS 67 wd (.own 1), by simp [xoF], SlotR.win (b := 67) (a := i) (a' := i') (m := n) (by simp [xoD5]) rfl f67 nuX_i nuX_i nuX_n nuX_n hw⟩
    · exact ⟨.p 68 0, by simp [xoF], SlotR.p (by simp [xoD5]) rfl f68⟩
    · exact ⟨wS 64 wd .any, by simp [xoF], SlotR.win (b := 64) (a := i) (a' := i') (m := n) (by simp [xoD5]) rfl f64 nuX_i nuX_i nuX_n nuX_n hw⟩
    · exact ⟨sI 301, by simp [xoF], SlotR.conc (u := .int .i64 n) (sI_conc nuX_n) (sI_conc nuX_n)⟩
    · refine ⟨.i .i64 it, by simp [xoF], SlotR.conc (u := .int .i64 i') ?_ (sI_conc nuX_i)⟩
      show some (Value.int .i64 (it.val _)) = _
      rw [hit]
  · simp only [xoN, xoF, List.mem_cons, List.not_mem_nil, or_false] at hp
    rcases hp with rfl | rfl | rfl | rfl | rfl
    · refine ⟨by simp [xoD5, wT], _, gt (wT 64 2 303 wd false) (by simp [xoF]), id, ?_⟩
      show BlkR _ _ (fm 64) _ _
      rw [show fm 64 = mv i i' from funext f64]
      exact BlkR.winF (t := 2) (t' := 2) (a := i) (a' := i') (m := n) (g := z) (by decide) (by decide) (tg_Ke (by decide)) (tg_Ke (by decide)) nuX_A2 nuX_L2 nuX_A2 nuX_L2 (fun j hj _ => nuX_B2 (by omega)) (fun j hj => by rw [z1 hj]; exact nuX_x) (fun j hj _ => nuX_B2 (by omega)) (fun j hj => by rw [z2 hj]; exact nuX_x) hw
    · refine ⟨by simp [xoD5, bxK], _, gt bxK (by simp [xoF]), id, ?_⟩
      show BlkR _ _ (fm 65) _ _
      rw [show fm 65 = fun pl => pl from funext f65]
      exact BlkR.row (by decide) fun j hj => by rw [nm_val, nm_val, Nat.zero_add, nuX_K hj, nuX_K hj]
    · refine ⟨by simp [xoD5, bxN], _, gt bxN (by simp [xoF]), id, ?_⟩
      show BlkR _ _ (fm 66) _ _
      rw [show fm 66 = fun pl => pl from funext f66]
      exact BlkR.row (by decide) fun j hj => by rw [nm_val, nm_val, nuX_N hj, nuX_N hj]
    · refine ⟨by simp [xoD5], _, gt (67, ⟨rowC .u8 f wd, wg 4, true⟩) (by simp [xoF]), fun _ => rfl, ?_⟩
      show BlkR _ _ (fm 67) _ _
      rw [show fm 67 = mv i i' from funext f67]
      exact BlkR.win (t := 4) (t' := 4) (a := i) (a' := i') (m := n) (g := gX K c Nn z i') (by decide) (by decide) (tg_Ke (by decide)) (tg_Ke (by decide)) nuX_A4 nuX_L4 nuX_A4 nuX_L4 (fun j hj hjw => (nuX_B4 (by omega)).trans (hB j hj hjw)) hf (fun j hj _ => nuX_B4 (by omega)) (fun j hj => by rw [z2 hj]; exact nuX_y.trans (if_neg (by omega)).symm) hw
    · refine ⟨by simp [xoD5, bxB], _, gt (bxB g) (by simp [xoF]), id, ?_⟩
      show BlkR _ _ (fm 68) _ _
      rw [show fm 68 = fun pl => pl from funext f68]
      exact BlkR.row (by decide) fun j hj => by rw [nm_val, nuX_b hj]; exact hg j hj
/-- Both windows open. -/
theorem xo_open {w0 : World} {ac : Act} {w : World} (hn : n < 1000000000000) (h0 : 0 < n) (h : HoldsX 43 w0 (nuX K c Nn n z 0 n) [] [] [] [] xo4 ac w) : HoldsX 43 w0 (nuX K c Nn n z 0 0) [] [] [] [] (xoN 1) ac w := by
  let fm : Nat → Pl → Pl := fun b pl => if b = 64 then mv 0 0 pl else if b = 67 then mv n 0 pl else pl
  have f64 : ∀ pl, fm 64 pl = mv 0 0 pl := fun pl => if_pos rfl
  have f67 : ∀ pl, fm 67 pl = mv n 0 pl := fun pl => (if_neg (by decide)).trans (if_pos rfl)
  have f65 : ∀ pl, fm 65 pl = pl := fun pl => (if_neg (by decide)).trans (if_neg (by decide))
  have f66 : ∀ pl, fm 66 pl = pl := fun pl => (if_neg (by decide)).trans (if_neg (by decide))
  have f68 : ∀ pl, fm 68 pl = pl := fun pl => (if_neg (by decide)).trans (if_neg (by decide))
  have gt := xo4_get
  have z2 : ∀ {j : Nat}, j < 1 → j = 0 := fun hj => by omega
  refine HoldsX.re xoD5 (fun b => b) fm gl0_ok h (by decide) (fun b pl => ?_) xoD5_ok (fun b hb b' hb' e => e) (fun p hp => ?_) (fun p hp => ?_)
  · show (if b = 64 then mv 0 0 pl else if b = 67 then mv n 0 pl else pl).cb = pl.cb
    split
    · rfl
    · split <;> rfl
  · simp only [xoN, xoF, List.mem_cons, List.not_mem_nil, or_false] at hp
    rcases hp with rfl | rfl | rfl | rfl | rfl | rfl | rfl | rfl
    · exact ⟨ctS, by simp [xo4, xo3, xo2], SlotR.conc (u := .int .u32 (ctI c ((0 + 63) / 64))) (by show some (Value.int .u32 (nuX K c Nn n z 0 n 44)) = _; rw [nuX_c]) (by show some (Value.int .u32 (nuX K c Nn n z 0 0 44)) = _; rw [nuX_c])⟩
    · exact ⟨.p 65 0, by simp [xo4, xo3, xo2], SlotR.p (by simp [xoD5]) rfl f65⟩
    · exact ⟨.p 66 0, by simp [xo4, xo3, xo2], SlotR.p (by simp [xoD5]) rfl f66⟩
    · exact ⟨slE 67 (tg 4) 0, by simp [xo4, xo3, xo2], SlotR.win (b := 67) (a := n) (a' := 0) (m := n) (by simp [xoD5]) rfl f67 nuX_A4 nuX_i nuX_A4 nuX_n (by omega)⟩
    · exact ⟨.p 68 0, by simp [xo4, xo3, xo2], SlotR.p (by simp [xoD5]) rfl f68⟩
    · exact ⟨ps 64 2, by simp [xo4, xo3, xo2], SlotR.unpin (b := 64) (m := n) (a' := 0) (by simp [xoD5]) rfl f64 nuX_i nuX_L2 nuX_n (by omega) (by omega)⟩
    · exact ⟨.i .i64 (.s (pinL (tg 2))), by simp [xo4], SlotR.conc (u := .int .i64 n) (sI_conc nuX_L2) (sI_conc nuX_n)⟩
    · exact ⟨iN 0, by simp [xo4], SlotR.conc (u := .int .i64 ((0 : Nat) : Int)) rfl (sI_conc nuX_i)⟩
  · simp only [xoN, xoF, List.mem_cons, List.not_mem_nil, or_false] at hp
    rcases hp with rfl | rfl | rfl | rfl | rfl
    · refine ⟨by simp [xoD5, wT], _, gt (pn 64 2) (by simp [xo4, xo3, xo2]), (fun h => by cases h), ?_⟩
      show BlkR _ _ (fm 64) _ _
      rw [show fm 64 = mv 0 0 from funext f64]
      exact BlkR.unpin (t' := 2) (m := n) (a' := 0) (g := z) (tgT (by decide) (by decide)) (by decide) (tg_Ke (by decide)) (tg_Ke (by decide)) nuX_L2 nuX_A2 nuX_L2 (fun j hj => nuX_B2 (by omega)) (fun j hj _ => nuX_B2 (by omega)) (fun j hj => by rw [z2 hj]; exact nuX_x) (by omega)
    · refine ⟨by simp [xoD5, bxK], _, gt bxK (by simp [xo4, xo3, xo2]), id, ?_⟩
      show BlkR _ _ (fm 65) _ _
      rw [show fm 65 = fun pl => pl from funext f65]
      exact BlkR.row (by decide) fun j hj => by rw [nm_val, nm_val, Nat.zero_add, nuX_K hj, nuX_K hj]
    · refine ⟨by simp [xoD5, bxN], _, gt bxN (by simp [xo4, xo3, xo2]), id, ?_⟩
      show BlkR _ _ (fm 66) _ _
      rw [show fm 66 = fun pl => pl from funext f66]
      exact BlkR.row (by decide) fun j hj => by rw [nm_val, nm_val, nuX_N hj, nuX_N hj]
    · refine ⟨by simp [xoD5], _, gt (67, ⟨[], wg 4, true⟩) (by simp [xo4, xo3, xo2]), fun _ => rfl, ?_⟩
      show BlkR _ _ (fm 67) _ _
      rw [show fm 67 = mv n 0 from funext f67]
      exact BlkR.win (t := 4) (t' := 4) (a := n) (a' := 0) (m := n) (wd := 0) (h := nmA 304) (g := gX K c Nn z 0) (by decide) (by decide) (tg_Ke (by decide)) (tg_Ke (by decide)) nuX_A4 nuX_L4 nuX_A4 nuX_L4 (fun j hj _ => nuX_B4 (by omega)) (fun j hj => by omega) (fun j hj _ => nuX_B4 (by omega)) (fun j hj => by rw [z2 hj]; exact nuX_y.trans (if_neg (by omega)).symm) (by omega)
    · refine ⟨by simp [xoD5, bxB], _, gt (bxB zeroA) (by simp [xo4, xo3, xo2]), id, ?_⟩
      show BlkR _ _ (fm 68) _ _
      rw [show fm 68 = fun pl => pl from funext f68]
      exact BlkR.row (by decide) fun j hj => by rw [nm_val, nuX_b hj]; rfl
theorem fXo_hold (hn : n < 1000000000000) : fXo.Hold (nuX K c Nn n z 0 n) := by
  refine ⟨fun p hp => (by cases hp), fun p hp => ?_, fun p hp => ?_⟩
  · simp only [fXo, List.mem_cons, List.not_mem_nil, or_false] at hp
    rcases hp with rfl | rfl | rfl
    · show decide (nuX K c Nn n z 0 n (pinL (tg 2)) ≥ 0) = true
      rw [nuX_L2]
      exact decide_eq_true (by omega)
    · show (nuX K c Nn n z 0 n (pinA (tg 4)) == nuX K c Nn n z 0 n (pinL (tg 4))) = true
      rw [nuX_A4, nuX_L4]
      exact beq_self_eq_true _
    · show decide (nuX K c Nn n z 0 n (pinL (tg 4)) < 1099511627776) = true
      rw [nuX_L4]
      exact decide_eq_true (by omega)
  · simp only [fXo, List.mem_cons, List.not_mem_nil, or_false] at hp
    subst hp
    refine ⟨by show 0 ≤ nuX K c Nn n z 0 n (pinL (tg 4)); rw [nuX_L4]; omega, ?_⟩
    show lst (nuX K c Nn n z 0 n) (tg 4) = lst0 (nuX K c Nn n z 0 n) (pinL (tg 2)) ++ [].map _ ++ lst0 (nuX K c Nn n z 0 n) 0
    rw [lst0_zero, lst0_nought _ (by rw [tg_L]; decide) (by rw [tg_L]; decide), nuX_L2, lst_all nuX_L4 (c := 0) fun j hj => by rw [nuX_B4 (by omega)]; exact if_neg (by omega)]
    simp
theorem fXr_hold (hn : n < 1000000000000) (hi : i < n) : (fXr (i % 64)).Hold (nuX K c Nn n z i i) := by
  refine ⟨fun p hp => ?_, fun p hp => ?_, fun p hp => by cases hp⟩
  · simp only [fXr, List.mem_cons, List.not_mem_nil, or_false] at hp
    subst hp
    show (nuX K c Nn n z i i 302).tmod ((64 : Nat) : Int) = _
    rw [nuX_i]
    rfl
  · simp only [fXr, List.mem_cons, List.not_mem_nil, or_false] at hp
    subst hp
    show decide (nuX K c Nn n z i i 302 < nuX K c Nn n z i i 301) = true
    rw [nuX_i, nuX_n]
    exact decide_eq_true (by omega)
theorem rowXo_ok : rowXo.Ok (nuX K c Nn n z i a) Try.prog := by
  refine rowBlk Block_ok (ct := .s 44) (ka := nmA 0) (no := nmA 32) fun j hj => ?_
  rw [nm_val, nuX_q hj]
  show _ = blkI _ (nuX K c Nn n z i a 44) _ j
  rw [nuX_c]
  exact blkI_congr (fun j hj => by rw [nm_val, Nat.zero_add, nuX_K hj]) (fun j hj => by rw [nm_val, nuX_N hj]) hj
theorem gX_step {j : Nat} (h : j ≠ i) : gX K c Nn z i j = gX K c Nn z (i + 1) j := by
  unfold gX
  by_cases h1 : j < i
  · rw [if_pos h1, if_pos (by omega)]
  · rw [if_neg h1, if_neg (by omega)]
theorem bkX_succ : bkX K c Nn (i + 1) = blkI K (ctI c (i / 64)) Nn := by
  unfold bkX
  rw [if_neg (Nat.succ_ne_zero i), Nat.add_sub_cancel]
theorem bkX_mid (h : ¬ i % 64 = 0) : bkX K c Nn i = blkI K (ctI c (i / 64)) Nn := by
  unfold bkX
  rw [if_neg (show ¬ i = 0 by omega), show (i - 1) / 64 = i / 64 by omega]
theorem gX_at : gX K c Nn z (i + 1) i = xorW K c Nn z i := if_pos (Nat.lt_succ_self i)
theorem xo_loop {w0 : World} (hn : n < 1000000000000) : Tri Try.prog 43 (.loop xoR) (fun a w => HoldsX 43 w0 (nuX K c Nn n z 0 0) [] [] [] [] (xoN (wdB n)) a w) fun ex a w => ex = .exit 0 ∧ HoldsX 43 w0 (nuX K c Nn n z n n) [] [] [] [] (xoN 0) a w := by
  have key := Tri.loop (P := Try.prog) (N := 43) (x := xoR) (J := fun k a w => k ≤ n ∧ HoldsX 43 w0 (nuX K c Nn n z (n - k) (n - k)) [] [] [] [] (xoN (wdB k)) a w) (Post := fun ex a w => ex = .exit 0 ∧ HoldsX 43 w0 (nuX K c Nn n z n n) [] [] [] [] (xoN 0) a w) n ?_ ?_
  · exact key.weak (fun a w h => ⟨Nat.le_refl _, by rw [Nat.sub_self]; exact h⟩) (fun _ _ _ h => h)
  · intro k cc hc a w ⟨hk, hp⟩
    rw [show wdB (k + 1) = 1 from if_neg (by omega)] at hp
    have e2 : n - k = n - (k + 1) + 1 := by omega
    have hlt : n - (k + 1) < n := by omega
    have hwd : n - k + wdB k ≤ n := by unfold wdB; split <;> omega
    have hw1 : wdB k ≤ 1 := by unfold wdB; split <;> omega
    rw [e2] at hwd ⊢
    generalize n - (k + 1) = i at *
    have hgo : xoGo (i % 64) = true := List.all_eq_true.1 xo_goR _ (List.mem_range.2 (Nat.mod_lt _ (by decide)))
    refine ((Tri.runX (L := []) (fx := []) (kp := []) (w0 := w0) (fXr_hold hn hlt) mixed tab_ok gl0_ok (fun r hr => ?_) (fun r hr => by cases hr) (fun r hr => by cases hr) (fun r hr => by cases hr) hgo).weak (fun _ _ h => h) (fun ex a w h => ?_)) cc hc a w hp
    · simp only [List.mem_cons, List.not_mem_nil, or_false] at hr
      subst hr
      exact rowXo_ok
    have hadd : (AI.e .add .i64 (.s 302) (nA 1)).val (nuX K c Nn n z i i) = ((i + 1 : Nat) : Int) := by
      show IntKind.i64.wrap (nuX K c Nn n z i i 302 + ((1 : Nat) : Int)) = _
      rw [nuX_i, i64_small (by omega) (by omega)]
      omega
    refine .inl ⟨h.1, by omega, xo_move hn (by decide) hw1 (by omega) hwd h.2 ?_ hadd (fun j hj => ?_) (fun j hj => ?_) fun j hj hjw => gX_step (by omega)⟩
    · by_cases h0 : i % 64 = 0
      · rw [if_pos (by rw [h0]; rfl)]
        show arith .add .u32 (nuX K c Nn n z i i 44) ((1 : Nat) : Int) = _
        rw [nuX_c, show (i + 1 + 63) / 64 = (i + 63) / 64 + 1 by omega]
        rfl
      · rw [if_neg (by simpa using h0)]
        show nuX K c Nn n z i i 44 = _
        rw [nuX_c, show (i + 1 + 63) / 64 = (i + 63) / 64 by omega]
    · rw [bkX_succ]
      by_cases h0 : i % 64 = 0
      · have hb : Nat.beq (i % 64) 0 = true := by rw [h0]; rfl
        rw [hb, if_pos rfl, nm_val, nuX_q hj, show (i + 63) / 64 = i / 64 by omega]
      · have hb : Nat.beq (i % 64) 0 = false := by rw [Bool.eq_false_iff]; exact fun h => h0 (Nat.eq_of_beq_eq_true h)
        rw [hb, if_neg (by decide), nm_val, nuX_b hj, bkX_mid h0]
    · have : j = 0 := by omega
      subst this
      show arith .xor .u8 (nuX K c Nn n z i i 303) (nuX K c Nn n z i i ((if Nat.beq (i % 64) 0 then 200 else 100) + i % 64)) = gX K c Nn z (i + 1) i
      rw [gX_at, nuX_x]
      unfold xorW
      have hm : i % 64 < 64 := Nat.mod_lt _ (by decide)
      by_cases h0 : i % 64 = 0
      · have hb : Nat.beq (i % 64) 0 = true := by rw [h0]; rfl
        rw [hb, if_pos rfl, nuX_q hm, show (i + 63) / 64 = i / 64 by omega]
      · have hb : Nat.beq (i % 64) 0 = false := by rw [Bool.eq_false_iff]; exact fun h => h0 (Nat.eq_of_beq_eq_true h)
        rw [hb, if_neg (by decide), nuX_b hm, bkX_mid h0]
  · intro cc hc a w ⟨_, hp⟩
    rw [Nat.sub_zero, show wdB 0 = 0 from rfl] at hp
    refine ((Tri.runX (L := []) (fx := []) (kp := []) (w0 := w0) ⟨fun p hp => (by cases hp), fun p hp => ?_, fun p hp => by cases hp⟩ mixed tab_ok gl0_ok (fun r hr => by cases hr) (fun r hr => by cases hr) (fun r hr => by cases hr) (fun r hr => by cases hr) xo_goRe).weak (fun _ _ h => h) (fun ex a w h => ⟨by rw [h.1]; simp, h⟩)) cc hc a w hp
    simp only [List.mem_cons, List.not_mem_nil, or_false] at hp
    subst hp
    show decide (nuX K c Nn n z n n 302 < nuX K c Nn n z n n 301) = false
    rw [nuX_i, nuX_n]
    exact decide_eq_false (by omega)
end
theorem keyS_val {ν : Nat → Int} {K : Wd} (h : ∀ j, j < 32 → ν j = K j) : conc2 ν kyS = some (aggI .u8 32 K) := by
  show conc2 _ (.ag (rowC .u8 (nmA 0) (31 + 1))) = _
  rw [conc2_row]
  exact congrArg some (aggI_congr fun j hj => by rw [nm_val, Nat.zero_add]; exact h j hj)
theorem nonS_val {ν : Nat → Int} {Nn : Wd} (h : ∀ j, j < 12 → ν (32 + j) = Nn j) : conc2 ν noS = some (aggI .u8 12 Nn) := by
  show conc2 _ (.ag (rowC .u8 (nmA 32) (11 + 1))) = _
  rw [conc2_row]
  exact congrArg some (aggI_congr fun j hj => h j hj)
/-- A text of some, as the machine has it. -/
theorem pin_br {ν : Nat → Int} {ρ : Emb} {w : World} {cb o n t tt : Nat} {z : Wd} (ht : mapTag < tg t ∧ tg t ≤ winTag) (hK : pinK (tg t) = .u8) (hL : ν (pinL (tg t)) = (n : Int)) (hB : ∀ j, j < n → ν (pinB (tg t) j) = z j) (hz : CellsAt w .u8 cb o n z) : BR ν ρ w ⟨[], tg t, false⟩ ⟨cb, o, tt⟩ := by
  obtain ⟨C, ty, fz, hC, hz⟩ := hz
  refine ⟨fun _ => ⟨C, ty, fz, hC, fun j c hc => by simp at hc, fun h => by cases h⟩, fun h => absurd h (Nat.ne_of_gt ht.1), fun _ => ?_⟩
  unfold PinB
  rw [if_pos (show (ABlk.mk [] (tg t) false).elem ≤ winTag from ht.2)]
  refine (⟨C, ty, fz, hC, fun j hj => ?_⟩ : Sh.Pinned ν w (tg t) ⟨cb, o, tt⟩)
  rw [hL] at hj
  rw [hK, hB j (by omega)]
  exact hz j (by omega)
/-- WHAT IT MAKES OF A TEXT. -/
theorem Xor_ok {w : World} {cb o cp n : Nat} {K Nn z : Wd} {c : Int} (h0 : 0 < n) (hle : n ≤ cp) (hz : CellsAt w .u8 cb o n z) (hn : n < 1000000000000) :
    Calls Try.prog 10 #[aggI .u8 32 K, .int .u32 c, aggI .u8 12 Nn, .slice (some ⟨cb, o, none⟩) n cp] w fun e w' => ∃ u, e = .returned u ∧ Padded w w' u n (xorW K c Nn z) ∧ Below w.heap.size w w' := by
  have below : ∀ {w' : World}, BelowL [] w w' → Below w.heap.size w w' := fun hB => ⟨hB.os, hB.tape, hB.output, hB.size, fun k hk => hB.block k hk fun p hp => by cases hp⟩
  have start := holdsX_start (N := 43) (ν := nuX K c Nn n z 0 n) (L := []) (fx := []) (kp := []) (vs := #[aggI .u8 32 K, .int .u32 c, aggI .u8 12 Nn, .slice (some ⟨cb, o, none⟩) n cp]) (e0 := xo0.e) (H0 := xo0.H) (n0 := 65) gl0_ok (w := w) (fun p hp => by cases hp) (at1 64 ⟨cb, o, 0⟩) (by show 4 ≤ 43; decide) (by decide) (fun b hb => at1_none (by omega)) (fun p hp => by cases hp)
    (fun p hp => by
      simp only [xo0, List.mem_cons, List.not_mem_nil, or_false] at hp
      rcases hp with rfl | rfl | rfl | rfl
      · exact ⟨_, rfl, (conc2_vr (keyS_val fun j hj => nuX_K hj)).1⟩
      · refine ⟨.int .u32 c, rfl, ?_⟩
        have e : (AI.s 44).val (nuX K c Nn n z 0 n) = c := nuX_c
        rw [← e]
        exact .i _ _
      · exact ⟨_, rfl, (conc2_vr (nonS_val fun j hj => nuX_N hj)).1⟩
      · exact ⟨_, rfl, .sl 64 0 _ .any ⟨cb, o, 0⟩ n cp (at1_at (by decide)) nuX_L2 trivial hle⟩)
    (fun p hp => by
      simp only [xo0, List.mem_cons, List.not_mem_nil, or_false] at hp
      subst hp
      exact ⟨show gmax ≤ 64 by decide, _, if_pos rfl, pin_br (tgT (by decide) (by decide)) (tg_Ke (by decide)) nuX_L2 (fun j hj => nuX_B2 (by omega)) hz, fun h => by cases h⟩)
    (fun p hp => by cases hp)
  refine (callsX (L := []) (gl := []) (Q := fun u w' => Padded w w' u n (xorW K c Nn z) ∧ Below w.heap.size w w') tab_ok (by kernel_rfl) xo_shape start ?_).2
  have run : ∀ {ic : IC} {i o : Now} {ex : Ex} {ν : Nat → Int} {F : Facts}, F.Hold ν → goesX F tree [] [] [] [] [] 60 4 ic i ex o = true → Tri Try.prog 43 ic (HoldsX 43 w ν [] [] [] [] i) fun ex' a w' => ex' = ex ∧ HoldsX 43 w ν [] [] [] [] o a w' := fun hF h =>
    Tri.runX hF mixed tab_ok gl0_ok (fun r hr => by cases hr) (fun r hr => by cases hr) (fun r hr => by cases hr) (fun r hr => by cases hr) h
  refine seqN (run (none_f _) xo_goA) (seqN (run (fXo_hold hn) xo_goB) (seqN (run (none_f _) xo_goC) (seqN (Mid := HoldsX 43 w (nuX K c Nn n z n n) [] [] [] [] (xoN 0)) ?_ ?_)))
  · refine seqN (Mid := HoldsX 43 w (nuX K c Nn n z 0 0) [] [] [] [] (xoN (wdB n))) ((run (none_f _) xo_goD).weak (fun _ _ h => h) fun ex a w' h => ⟨h.1, ?_⟩) ?_
    · rw [show wdB n = 1 from if_neg (by omega)]
      exact xo_open hn h0 h.2
    · refine Tri.block (xo_loop hn) (fun a w h => by cases h.1) (fun a w h => ⟨rfl, h.2⟩) (fun j a w hj h => ?_) (fun a w h => by cases h.1)
      have := h.1
      simp only [Ex.exit.injEq] at this
      exact (hj this).elim
  · refine (run (none_f _) xo_goE).weak (fun _ _ h => h) fun ex a w' h => ⟨.inr h.1, _, xoZ, wS 67 0 (.own 1), [], [], h.2, xo_res, fun ρ v _ hh ho hB hv => ⟨?_, below hB⟩⟩
    exact win_padded (t := 4) hh (by kernel_rfl) ho rfl hv (by decide) (tg_Ke (by decide)) (nuX_i.trans nuX_A4.symm) nuX_n (by rw [nuX_L4]; omega) fun j hj => by rw [nuX_B4 (by omega)]; exact if_pos hj
end Go.Proofs.Ytakegcfpbacefaa
