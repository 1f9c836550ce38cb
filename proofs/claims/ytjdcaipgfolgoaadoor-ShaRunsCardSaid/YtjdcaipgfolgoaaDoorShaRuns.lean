/-
  ShaRuns: for all its arguments the law returns true, where the program's variables are laid as the program's text lays them. Conditions: none beside that one (the card ties it to the text).
-/
import Derived.Test.YtjdcaipgfolgoaaDoorXe
namespace Go.Proofs.YtjdcaipgfolgoaaDoor
open Go.Sh
open Go.ChangeShapes Go.WideShapes Go.ChangeAt Go.RowKit
set_option maxRecDepth 100000

def rn : IC := t4.body
def rnA : IC := rn.sub [false]
def rnB : IC := rn.sub [true, false]
def rnC : IC := rn.sub [true, true, false]
def rnD : IC := rn.sub [true, true, true, false, false]
def rnR : IC := rn.sub [true, true, true, false, true, false, false]
def rnE : IC := rn.sub [true, true, true, true]
theorem rn_shape : t4 = ⟨.seq rnA (.seq rnB (.seq rnC (.seq (.seq rnD (.block 0 (.loop rnR))) rnE))), [.t 4], 47⟩ := by kernel_rfl
def sC : AV := .i .u8 (.s 300)
def rn0 : Now := ⟨[(0, sC), (1, sI 301)], [], 64⟩
def rnW (f : Nat → AI) (wd : Nat) : Nat × ABlk := (64, ⟨rowC .u8 f wd, wg 2, true⟩)
def rn1 (l : List (Nat × AV)) : Now := ⟨l ++ [(0, sC), (1, sI 301), (5, slE 64 (tg 2) 0)], [rnW (nmA 303) 0], 65⟩
def slR (wd : Nat) : AV := .slw 64 1 (.s 302) wd (.s 301) (.own 1)
def rnN (f : Nat → AI) (wd : Nat) (l : List (Nat × AV)) : Now := ⟨l ++ [(0, sC), (1, sI 301), (5, slR wd)], [rnW f wd], 65⟩
def fR0 : Facts := ⟨[], [(.lss, .s 301, .c 0, false), (.gtr, .s 301, nA 3000, false)], []⟩
def fR1 : Facts := ⟨[], [(.geq, .s 301, .c 0, true), (.eql, .s (pinA (tg 2)), .s (pinL (tg 2)), true), (.lss, .s (pinL (tg 2)), .c 1099511627776, true)], [(301, [], 0, tg 2)]⟩
def fRl (b : Bool) : Facts := ⟨[], [(.lss, .s 302, .s 301, b)], []⟩
theorem rn_goA : goesX noFacts tree [] glS [] [] [] 60 4 rnA rn0 .normal rn0 = true := by kernel_rfl
theorem rn_goB : goesX fR0 tree [] glS [] [] [] 60 4 rnB rn0 .normal rn0 = true := by kernel_rfl
theorem rn_goC : goesX fR1 tree [] glS [] [] [] 60 4 rnC rn0 .normal (rn1 []) = true := by kernel_rfl
theorem rn_goD : goesX noFacts tree [] glS [] [] [] 60 4 rnD (rn1 []) .normal (rn1 [(6, iN 0)]) = true := by kernel_rfl
theorem rn_goR : goesX (fRl true) tree [] glS [] [] [] 60 4 rnR (rnN (nmA 303) 1 [(6, sI 302)]) .normal (rnN (fun _ => .s 300) 1 [(6, .i .i64 (.e .add .i64 (.s 302) (nA 1)))]) = true := by kernel_rfl
theorem rn_goRe : goesX (fRl false) tree [] glS [] [] [] 60 4 rnR (rnN (nmA 303) 0 [(6, sI 302)]) (.exit 0) (rnN (nmA 303) 0 []) = true := by kernel_rfl
def rnTx : Gl := [(64, ⟨[], wg 2, true⟩)]
def rnM : List RowM := sumRows (slR 0) rnTx (slR 0) rnTx ++ eqRows 65
def rnY : Now := ⟨[(4, .b true)], [], 69⟩
theorem rn_goE : goesX noFacts tree [] glS [] rnM [] 60 4 rnE (rnN (nmA 303) 0 []) .ret rnY = true := by kernel_rfl
theorem rn_res : resA (trL rnY.e) (heapL (rnY.H ++ glS) rnY.n) [.t 4] = some (.b true) := by kernel_rfl
/-! names -/
def gR (c : Int) (i : Nat) : Wd := fun j => if j < i then c else 0
def loR (S U : Wd) (c n i x : Int) : Nat → Int := two (two S 100 U) 300 fun j => if j = 0 then c else if j = 1 then n else if j = 2 then i else x
def nuY (c : Int) (n i a : Nat) : Nat → Int := nuR (loR (sum256 (fun _ => c) n) (sum256Q (fun _ => c) n) c n i (gR c i i)) (fun _ => n) (fun _ => a) (fun _ => gR c i)
section
variable {c : Int} {n i a : Nat}
theorem nuY_S {j : Nat} (h : j < 32) : nuY c n i a j = sum256 (fun _ => c) n j := by
  unfold nuY
  rw [nuR_lo (by omega)]
  unfold loR
  rw [two_lo (by omega), two_lo (by omega)]
theorem nuY_U {j : Nat} (h : j < 64) : nuY c n i a (100 + j) = sum256Q (fun _ => c) n j := by
  unfold nuY
  rw [nuR_lo (by omega)]
  unfold loR
  rw [two_lo (by omega), two_hi]
theorem nuY_hi {j : Nat} (h : j < 1000) : nuY c n i a (300 + j) = if j = 0 then c else if j = 1 then (n : Int) else if j = 2 then (i : Int) else gR c i i := by
  unfold nuY
  rw [nuR_lo (by omega)]
  unfold loR
  rw [two_hi]
theorem nuY_c : nuY c n i a 300 = c := (nuY_hi (j := 0) (by decide)).trans (if_pos rfl)
theorem nuY_n : nuY c n i a 301 = n := (nuY_hi (j := 1) (by decide)).trans rfl
theorem nuY_i : nuY c n i a 302 = i := (nuY_hi (j := 2) (by decide)).trans rfl
theorem nuY_x : nuY c n i a 303 = gR c i i := (nuY_hi (j := 3) (by decide)).trans rfl
theorem nuY_L : nuY c n i a (pinL (tg 2)) = (n : Int) := nuR_L (by decide)
theorem nuY_A : nuY c n i a (pinA (tg 2)) = (a : Int) := nuR_A (by decide)
theorem nuY_B {j : Nat} (h : j < 1099511627774) : nuY c n i a (pinB (tg 2) j) = gR c i j := nuR_B (by decide) h
end
theorem tg2_K : pinK (tg 2) = .u8 := by decide
theorem rn_get (f : Nat → AI) (wd : Nat) : (heapL ([rnW f wd] ++ glS) 65).get 64 = some (rnW f wd).2 := by kernel_rfl
/-- The window moves on. -/
theorem rn_move {w0 : World} {c : Int} {n i i' a a' wd wd' : Nat} {f : Nat → AI} {k l : AI} {ls ls' : List (Nat × AV)} {ac : Act} {w : World} (hn : n < 100000)
    (h : HoldsX 47 w0 (nuY c n i a) glS [] [] [] ⟨ls ++ [(0, sC), (1, sI 301), (5, .slw 64 1 k wd l (.own 1))], [rnW f wd], 65⟩ ac w) (hk : k.val (nuY c n i a) = (a : Int)) (hl : l.val (nuY c n i a) = (n : Int)) (ha' : a' = i') (hw : i' + wd' ≤ n)
    (hB : ∀ j, j < n → (j < a ∨ a + wd ≤ j) → gR c i j = gR c i' j) (hf : ∀ j, j < wd → (f j).val (nuY c n i a) = gR c i' (a + j)) (hwd : wd' ≤ 1) (hls : ∀ p ∈ ls', ∃ x u, (p.1, x) ∈ ls ∧ conc (nuY c n i a) x = some u ∧ conc (nuY c n i' a') p.2 = some u) :
    HoldsX 47 w0 (nuY c n i' a') glS [] [] [] (rnN (nmA 303) wd' ls') ac w := by
  subst ha'
  refine HoldsX.slide glS_ok h 64 (mv a a') (by decide) (by decide) (fun _ => rfl) (by decide) (fun _ hp => by cases hp) (fun _ hp => by cases hp) (fun p hp => ?_) fun p hp => ?_
  · rcases List.mem_append.1 hp with hp | hp
    · obtain ⟨x, u, q1, q2, q3⟩ := hls p hp
      exact ⟨x, List.mem_append.2 (.inl q1), SlotS.conc q2 q3⟩
    · simp only [List.mem_cons, List.not_mem_nil, or_false] at hp
      rcases hp with rfl | rfl | rfl
      · exact ⟨sC, List.mem_append.2 (.inr (by simp)), SlotS.conc (u := .int .u8 c) (by show some (Value.int .u8 (nuY c n i a 300)) = _; rw [nuY_c]) (by show some (Value.int .u8 (nuY c n a' a' 300)) = _; rw [nuY_c])⟩
      · exact ⟨sI 301, List.mem_append.2 (.inr (by simp)), SlotS.conc (u := .int .i64 n) (sI_conc nuY_n) (sI_conc nuY_n)⟩
      · exact ⟨.slw 64 1 k wd l (.own 1), List.mem_append.2 (.inr (by simp)), SlotS.win (m := n) hk nuY_i hl nuY_n hw⟩
  · simp only [List.mem_cons, List.not_mem_nil, or_false] at hp
    subst hp
    refine ⟨show gmax ≤ 64 by decide, show 64 < 65 by decide, _, rn_get f wd, rfl, BlkS.win (m := n) (g := gR c a') (by decide) (by decide) tg2_K tg2_K nuY_A nuY_L nuY_A nuY_L (fun j hj hjw => by rw [nuY_B (by omega)]; exact hB j hj hjw) hf (fun j hj _ => nuY_B (by omega)) (fun j hj => ?_) hw⟩
    have : j = 0 := by omega
    subst this
    exact nuY_x
theorem fRl_hold {c : Int} {n i a : Nat} {b : Bool} (h : decide (i < n) = b) : (fRl b).Hold (nuY c n i a) := by
  refine ⟨fun p hp => (by cases hp), fun p hp => ?_, fun p hp => by cases hp⟩
  simp only [fRl, List.mem_cons, List.not_mem_nil, or_false] at hp
  subst hp
  show decide (nuY c n i a 302 < nuY c n i a 301) = b
  rw [nuY_i, nuY_n, ← h]
  by_cases hh : i < n
  · rw [decide_eq_true hh, decide_eq_true (show (i : Int) < n by omega)]
  · rw [decide_eq_false hh, decide_eq_false (show ¬ (i : Int) < n by omega)]
theorem rn_loop {w0 : World} {c : Int} {n : Nat} (hn : n < 100000) : Tri Tryd.prog 47 (.loop rnR) (fun a w => HoldsX 47 w0 (nuY c n 0 0) glS [] [] [] (rnN (nmA 303) (wdB n) [(6, sI 302)]) a w) fun ex a w => ex = .exit 0 ∧ HoldsX 47 w0 (nuY c n n n) glS [] [] [] (rnN (nmA 303) 0 []) a w := by
  have key := Tri.loop (P := Tryd.prog) (N := 47) (x := rnR) (J := fun k a w => k ≤ n ∧ HoldsX 47 w0 (nuY c n (n - k) (n - k)) glS [] [] [] (rnN (nmA 303) (wdB k) [(6, sI 302)]) a w) (Post := fun ex a w => ex = .exit 0 ∧ HoldsX 47 w0 (nuY c n n n) glS [] [] [] (rnN (nmA 303) 0 []) a w) n ?_ ?_
  · exact key.weak (fun a w h => ⟨Nat.le_refl _, by rw [Nat.sub_self]; exact h⟩) (fun _ _ _ h => h)
  · intro k cc hc a w ⟨hk, hp⟩
    rw [show wdB (k + 1) = 1 from if_neg (by omega)] at hp
    have e2 : n - k = n - (k + 1) + 1 := by omega
    have hlt : n - (k + 1) < n := by omega
    have hwd : n - k + wdB k ≤ n := by unfold wdB; split <;> omega
    have hw1 : wdB k ≤ 1 := by unfold wdB; split <;> omega
    rw [e2] at hwd ⊢
    generalize n - (k + 1) = i at *
    refine ((Tri.runX (L := []) (fx := []) (kp := []) (w0 := w0) (fRl_hold (decide_eq_true hlt)) mixed tab_ok glS_ok (fun r hr => by cases hr) (fun r hr => by cases hr) (fun r hr => by cases hr) (fun r hr => by cases hr) rn_goR).weak (fun _ _ h => h) (fun ex a w h => ?_)) cc hc a w hp
    refine .inl ⟨h.1, by omega, rn_move hn h.2 nuY_i nuY_n rfl hwd (fun j hj hjw => ?_) (fun j hj => ?_) hw1 fun p hp => ?_⟩
    · unfold gR
      by_cases h1 : j < i
      · rw [if_pos h1, if_pos (by omega)]
      · rw [if_neg h1, if_neg (by omega)]
    · have : j = 0 := by omega
      subst this
      exact nuY_c.trans (if_pos (by omega)).symm
    · simp only [List.mem_cons, List.not_mem_nil, or_false] at hp
      subst hp
      refine ⟨_, .int .i64 ((i + 1 : Nat) : Int), List.mem_cons_self, ?_, sI_conc nuY_i⟩
      refine (add1_conc nuY_i).trans ?_
      rw [i64_small (by omega) (by omega)]
      congr 2
  · intro cc hc a w ⟨_, hp⟩
    rw [Nat.sub_zero, show wdB 0 = 0 from rfl] at hp
    exact ((Tri.runX (L := []) (fx := []) (kp := []) (w0 := w0) (fRl_hold (decide_eq_false (by omega))) mixed tab_ok glS_ok (fun r hr => by cases hr) (fun r hr => by cases hr) (fun r hr => by cases hr) (fun r hr => by cases hr) rn_goRe).weak (fun _ _ h => h) (fun ex a w h => ⟨by rw [h.1]; simp, h⟩)) cc hc a w hp
theorem rn_call {w : World} {c n : Nat} (hw : Laid glS w) (hc : c < 256) (hn : n ≤ 3000) : Calls Tryd.prog 4 #[.int .u8 (c : Int), .int .i64 (n : Int)] w fun e w' => e = .returned (.bool true) ∧ Below w.heap.size w w' := by
  have start := holdsX_start (N := 47) (ν := nuY c n 0 n) (L := []) (fx := []) (kp := []) (vs := #[.int .u8 (c : Int), .int .i64 (n : Int)]) (e0 := rn0.e) (H0 := []) (n0 := 64) glS_ok (w := w) hw (fun _ => none) (by show 2 ≤ 47; decide) (by decide) (fun _ _ => rfl) (fun p hp => by cases hp)
    (fun p hp => by
      simp only [rn0, List.mem_cons, List.not_mem_nil, or_false] at hp
      rcases hp with rfl | rfl
      · refine ⟨_, rfl, ?_⟩
        have : (c : Int) = (AI.s 300).val (nuY c n 0 n) := nuY_c.symm
        rw [this]
        exact .i _ _
      · exact ⟨_, rfl, vr_i nuY_n⟩)
    (fun p hp => by cases hp) (fun p hp => by cases hp)
  refine ((callsX (L := []) (gl := glS) (Q := fun v w' => v = .bool true ∧ Below w.heap.size w w') tab_ok (by kernel_rfl) rn_shape start ?_ : (∃ fn, Tryd.prog.funcs[4]? = some fn ∧ fn.body.isSome = true ∧ (fn.name == "runtime.NumGoroutine") = false) ∧ Calls Tryd.prog 4 #[.int .u8 (c : Int), .int .i64 (n : Int)] w fun e w' => ∃ v, e = .returned v ∧ (v = .bool true ∧ Below w.heap.size w w'))).2.mono fun e w' ⟨v, he, hv, hB⟩ => ⟨by rw [he, hv], hB⟩
  have run : ∀ {ic : IC} {i o : Now} {ex : Ex} {d : Nat} {ν : Nat → Int} {F : Facts} {TM : List RowM}, F.Hold ν → (∀ r ∈ TM, r.Ok ν Tryd.prog glS) → goesX F tree [] glS [] TM [] 60 d ic i ex o = true → Tri Tryd.prog 47 ic (HoldsX 47 w ν glS [] [] [] i) fun ex' a w' => ex' = ex ∧ HoldsX 47 w ν glS [] [] [] o a w' := fun hF hT h =>
    Tri.runX hF mixed tab_ok glS_ok (fun r hr => by cases hr) (fun r hr => by cases hr) hT (fun r hr => by cases hr) h
  have no : ∀ ν, ∀ r ∈ ([] : List RowM), r.Ok ν Tryd.prog glS := fun ν r hr => by cases hr
  have hF0 : fR0.Hold (nuY c n 0 n) := by
    refine ⟨fun p hp => (by cases hp), fun p hp => ?_, fun p hp => by cases hp⟩
    simp only [fR0, List.mem_cons, List.not_mem_nil, or_false] at hp
    rcases hp with rfl | rfl
    · show decide (nuY c n 0 n 301 < 0) = false
      rw [nuY_n]
      exact decide_eq_false (by omega)
    · show decide (nuY c n 0 n 301 > ((3000 : Nat) : Int)) = false
      rw [nuY_n]
      exact decide_eq_false (by omega)
  have hF1 : fR1.Hold (nuY c n 0 n) := by
    refine ⟨fun p hp => (by cases hp), fun p hp => ?_, fun p hp => ?_⟩
    · simp only [fR1, List.mem_cons, List.not_mem_nil, or_false] at hp
      rcases hp with rfl | rfl | rfl
      · show decide (nuY c n 0 n 301 ≥ 0) = true
        rw [nuY_n]
        exact decide_eq_true (by omega)
      · show (nuY c n 0 n (pinA (tg 2)) == nuY c n 0 n (pinL (tg 2))) = true
        rw [nuY_A, nuY_L]
        exact beq_self_eq_true _
      · show decide (nuY c n 0 n (pinL (tg 2)) < 1099511627776) = true
        rw [nuY_L]
        exact decide_eq_true (by omega)
    · simp only [fR1, List.mem_cons, List.not_mem_nil, or_false] at hp
      subst hp
      refine ⟨by show 0 ≤ nuY c n 0 n (pinL (tg 2)); rw [nuY_L]; omega, ?_⟩
      show lst (nuY c n 0 n) (tg 2) = lst0 (nuY c n 0 n) 301 ++ [].map _ ++ lst0 (nuY c n 0 n) 0
      rw [lst0_zero, lst0_nought _ (by decide) (by decide), nuY_n, lst_all nuY_L (c := 0) fun j hj => by rw [nuY_B (by omega)]; exact if_neg (by omega)]
      simp
  have hX : ∀ j, j < 32 → nuY c n n n j = sum256 (fun _ => (c : Int)) n j := fun j hj => nuY_S hj
  have hU : ∀ j, j < 64 → nuY c n n n (100 + j) = sum256Q (fun _ => (c : Int)) n j := fun j hj => nuY_U hj
  have tx : IsText (nuY c n n n) rnTx (slR 0) n fun _ => (c : Int) := isText_win (t := 2) List.mem_cons_self (by decide) tg2_K (nuY_i.trans nuY_A.symm) nuY_n (by rw [nuY_L]; omega) fun j hj => by rw [nuY_B (by omega)]; exact if_pos hj
  refine seqN (run (none_f _) (no _) rn_goA) (seqN (run hF0 (no _) rn_goB) (seqN (run hF1 (no _) rn_goC) (seqN (Mid := HoldsX 47 w (nuY c n n n) glS [] [] [] (rnN (nmA 303) 0 [])) ?_ ?_)))
  · refine seqN (Mid := HoldsX 47 w (nuY c n 0 0) glS [] [] [] (rnN (nmA 303) (wdB n) [(6, sI 302)])) ((run (none_f _) (no _) rn_goD).weak (fun _ _ h => h) fun ex a w' h => ⟨h.1, ?_⟩) ?_
    · refine rn_move (by omega) h.2 nuY_A nuY_A rfl (by unfold wdB; split <;> omega) (fun j _ _ => rfl) (fun j hj => by omega) (by unfold wdB; split <;> omega) fun p hp => ?_
      simp only [List.mem_cons, List.not_mem_nil, or_false] at hp
      subst hp
      exact ⟨iN 0, .int .i64 0, List.mem_cons_self, rfl, sI_conc nuY_i⟩
    · refine Tri.block (rn_loop (by omega)) (fun a w h => by cases h.1) (fun a w h => ⟨rfl, h.2⟩) (fun j a w hj h => ?_) (fun a w h => by cases h.1)
      have := h.1
      simp only [Ex.exit.injEq] at this
      exact (hj this).elim
  · exact (run (none_f _) (rows_app (sumRows_okG hX hU tx tx (fun j _ => ⟨c, rfl, hc⟩) (by omega)) (eqRows_okG hX hU 65)) rn_goE).weak (fun _ _ h => h) fun ex a w' h => ⟨.inr h.1, _, rnY, .b true, [], [], h.2, rn_res, fun ρ v _ _ _ hB hv => ⟨by cases hv; rfl, ⟨hB.os, hB.tape, hB.output, hB.size, fun k hk => hB.block k hk fun p hp => by cases hp⟩⟩⟩
/-! what is not played -/
noncomputable def rnNo (l : List Cm) : Bool := saysB ⟨[], l, []⟩ tree [] glS [] [] [] 65 60 4 4 [sC, sI 301] (.b true)
theorem rn_no1 : rnNo [(.lss, .s 301, .c 0, true)] = true := by kernel_rfl
theorem rn_no2 : rnNo [(.lss, .s 301, .c 0, false), (.gtr, .s 301, nA 3000, true)] = true := by kernel_rfl
def nuZ (c n : Int) : Nat → Int := fun k => if k = 300 then c else n
theorem shaRuns_law (c : Nat) (n : Int) (hc : c < 256) (_ : (Lit.int .i64 n).wf = true) : PureG Tryd.prog glS 4 [.int .u8 (c : Int), .int .i64 n] (.bool true) := by
  refine ⟨⟨_, Tryd.func4, by kernel_rfl, by kernel_rfl⟩, fun w hw => ?_⟩
  have bad : ∀ l : List Cm, rnNo l = true → (∀ p ∈ l, compare p.1 (p.2.1.val (nuZ c n)) (p.2.2.1.val (nuZ c n)) = p.2.2.2) → Calls Tryd.prog 4 #[.int .u8 (c : Int), .int .i64 n] w fun e w' => e = .returned (.bool true) ∧ Below w.heap.size w w' := fun l hgo hl =>
    yes_of (ν := nuZ c n) (ρ := embF fun _ => none) (law_row ⟨fun p hp => (by cases hp), hl, fun p hp => by cases hp⟩ (fun r hr => by cases hr) hgo (fun p hp => by cases hp) rfl) hw (fun p hp => by cases hp) (lr_of (vs := [.int .u8 (c : Int), .int .i64 n]) ⟨.i .u8 (.s 300), .i .i64 (.s 301), trivial⟩)
  by_cases h1 : n < 0
  · refine bad _ rn_no1 fun p hp => ?_
    simp only [List.mem_cons, List.not_mem_nil, or_false] at hp
    subst hp
    exact decide_eq_true h1
  by_cases h2 : 3000 < n
  · refine bad _ rn_no2 fun p hp => ?_
    simp only [List.mem_cons, List.not_mem_nil, or_false] at hp
    rcases hp with rfl | rfl
    · exact decide_eq_false h1
    · exact decide_eq_true (show n > ((3000 : Nat) : Int) by omega)
  obtain ⟨k, rfl⟩ : ∃ k : Nat, n = (k : Int) := ⟨n.toNat, by omega⟩
  exact rn_call hw hc (by omega)

abbrev shaRunsLaid : List (String × DataW Unit) := Rows.shaRunsRow.laid
theorem shaRuns_met (os : Os) (args : Array Value) : laidMetH Tryd.prog shaRunsLaid ((World.doorLaid Tryd.prog 400 os).forCall (fun _ _ => 0) ⟨#[], args, []⟩).memory :=
  laidMetH_of_parts3 (fuel := 8) (laidMet_of_run' 8 (by kernel_rfl) (by kernel_rfl)) (by kernel_rfl) (by kernel_rfl)

theorem shaRuns_lifted (os : Os) (started : os.Started) (H : Type) (enc : TypeId × Value → H) :
    ReturnsInHanded {} Tryd.checked os 4 .any (fun w args => (Rows.shaRunsSpec.pre enc Tryd.prog Tryd.f4 [] false w args ∧ laidMetH Tryd.prog shaRunsLaid w) ∧ sizedMet enc Tryd.prog Tryd.f4 (OpenSpec.ofChange Rows.shaRunsSpec) false w args)
      (Rows.shaRunsSpec.post enc Tryd.prog Tryd.f4 false true false false) := by
  refine returnsInHanded_of_change_and (C := Tryd.checked) (X := fun w _ => laidMetH Tryd.prog shaRunsLaid w) (fun _ _ _ hh h => h.of_heap hh) own started (by kernel_rfl) Tryd.func4
    (ChangeSpec.witness_shaped (enc := enc) (C := Tryd.checked) (os := os) (X := fun w _ => laidMetH Tryd.prog shaRunsLaid w) false (World.doorLaid Tryd.prog 400 os) #[.int .u8 0, .int .i64 0] 8 rfl (World.shaped_of_RefB (by kernel_rfl) (by kernel_rfl)) (by kernel_rfl) (by kernel_rfl) (by kernel_rfl) (shaRuns_met os _)) ?_
  intro W base args ds gs before hval0 hW _ _ hL _
  have hval : ∀ (j : Nat) t v, Tryd.f4.params[j]? = some t → args[j]? = some v → Value.okWide Tryd.prog W .any base t v := hval0
  have hW' := hW
  obtain ⟨p, q, hA0, hV, rfl, hfz, hnd⟩ := hW
  have hA : DataW.TrodAll enc Tryd.prog W 0 (fun _ => true) true Tryd.f4.params.toList args.toList ds p := hA0
  rw [Tryd.params4] at hA hval
  obtain ⟨v0, vs0, d0, ds0, p0, q0, hargs, rfl, rfl, h0, r0⟩ := trodAll_cons hA
  obtain ⟨v1, vs1, d1, ds1, p1, q1, rfl, rfl, rfl, h1, r1⟩ := trodAll_cons r0
  obtain ⟨rfl, rfl, rfl⟩ := trodAll_nil r1
  obtain rfl : args = #[v0, v1] := by cases args; simp_all
  obtain ⟨rfl, rfl⟩ := trodVars_none hV
  obtain ⟨n0, rfl, rfl, rfl, w0⟩ := open_int Tryd.underlying5 (hval 0 _ v0 rfl rfl) h0
  have s0 := plain_int (H := H) Tryd.underlying5 w0
  obtain ⟨a0, rfl, b0⟩ := word_of8 w0
  obtain ⟨a1, rfl, rfl, rfl, b1⟩ := open_int Tryd.underlying3 (hval 1 _ v1 rfl rfl) h1
  have s1 := plain_int (H := H) Tryd.underlying3 b1
  clear hA0 hval0
  simp only [List.append_nil] at hW'
  refine ((shaRuns_law a0 a1 b0 b1).2 W (laidS hL)).mono fun e W' ⟨he, hg⟩ => ?_
  subst he
  exact ⟨_, rfl, post_below (pa := []) (pv := []) hW' (fun _ _ _ => trodAll_cons_mk (shut_bool Tryd.underlying4 _) trodAll_mk0) (fun sp _ => (trodAll_cons_mk (s0 _ _ _ _ _) (trodAll_cons_mk (s1 _ _ _ _ _) trodAll_mk0))) (fun _ _ => rfl) rfl
    hg (ok_one (by kernel_rfl) rfl (okWide_bool_mk Tryd.underlying4 _))⟩

theorem shaRuns_over : Rows.ShaRunsSaid :=
  OpenClaim.holds_of_wide 4 Tryd.f4 rfl rfl rfl rfl rfl rfl rfl ⟨rfl, rfl, rfl, rfl, rfl⟩ rfl rfl rfl rfl rfl (by kernel_rfl) Tryd.func4 (by kernel_rfl)
    (of_decide_eq_true (by kernel_rfl)) (by unfold Func.isWrapper; first | (rw [if_pos (by decide +kernel)]; kernel_rfl) | (rw [if_neg (by decide +kernel)]; exact ⟨rfl, rfl⟩))
    (fun os started H enc _ => shaRuns_lifted os started H enc)

/-- THE STATEMENT. -/
theorem shaRuns_holds : Rows.ShaRunsCardSaid :=
  Claim7.holds_tied_plain_at .later [] [.data, .data, .data, .data] true (true, "eacd4a9b634becba1168d16158cd96469b7c30e91a6ec0f5f91653d0d1963b9e") false
    shaRuns_over (fun _ h => by cases h) (by kernel_rfl) (fun _ h => by cases h) shaRuns_row_tie rfl ⟨rfl, rfl⟩ (by kernel_rfl) rfl
    (fun f fn hf hfn => by
      obtain rfl : f = 4 := Option.some.inj ((show Tryd.prog.funcNamed "tryst/trystlaw01.ShaRuns" = some 4 by kernel_rfl).symm.trans hf) |>.symm
      obtain rfl : fn = Tryd.f4 := (Option.some.inj (Tryd.func4.symm.trans hfn)).symm
      exact ⟨by kernel_rfl, fun j t ht => by
        rw [Tryd.params4] at ht
        have hm : t ∈ [5, 3] := by simpa using Array.mem_of_getElem? ht
        have hall : ([5, 3].all fun u => !Tryd.prog.wantsStandIn u) = true := by kernel_rfl
        exact (show Tryd.prog.wantsStandIn t = false by simpa using List.all_eq_true.1 hall t hm)⟩)
    (by kernel_rfl)
#print axioms shaRuns_holds
end Go.Proofs.YtjdcaipgfolgoaaDoor
