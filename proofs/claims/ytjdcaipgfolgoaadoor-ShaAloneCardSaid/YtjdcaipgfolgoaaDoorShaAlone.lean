/-
  ShaAlone: for all its arguments the law returns true, where the program's variables are laid as the program's text lays them. Conditions: none beside that one (the card ties it to the text).
-/
import Derived.Test.YtjdcaipgfolgoaaDoorXe
namespace Go.Proofs.YtjdcaipgfolgoaaDoor
open Go.Sh
open Go.ChangeShapes Go.WideShapes Go.ChangeAt Go.RowKit
set_option maxRecDepth 100000

def al : IC := t5.body
def alA : IC := al.sub [false]
def alB : IC := al.sub [true, false]
def alC : IC := al.sub [true, true, false]
def alD : IC := al.sub [true, true, true, false]
def alE : IC := al.sub [true, true, true, true, false]
def alG : IC := al.sub [true, true, true, true, true, false]
def alI : IC := al.sub [true, true, true, true, true, true, false, false]
def alR : IC := al.sub [true, true, true, true, true, true, false, true, false, false]
def alK : IC := al.sub [true, true, true, true, true, true, true, false]
def alM : IC := al.sub [true, true, true, true, true, true, true, true, false]
def alN : IC := al.sub [true, true, true, true, true, true, true, true, true, false, false]
def alS : IC := al.sub [true, true, true, true, true, true, true, true, true, false, true, false, false]
def alZ : IC := al.sub [true, true, true, true, true, true, true, true, true, true]
theorem al_shape : t5 = ⟨.seq alA (.seq alB (.seq alC (.seq alD (.seq alE (.seq alG (.seq (.seq alI (.block 0 (.loop alR))) (.seq alK (.seq alM (.seq (.seq alN (.block 2 (.loop alS))) alZ))))))))), [.t 6], 89⟩ := by kernel_rfl
def xA (s : Hd) : AV := s.av 64 (tg 2)
def hA (s : Hd) : Gl := s.gl 64 (tg 2)
def lA (s : Hd) : AI := s.len (tg 2)
def xB (s : Hd) : AV := s.av 65 (tg 4)
def hBb (s : Hd) : Gl := s.gl 65 (tg 4)
def tt (s : Hd) : Nat := match s with | .c => 12 | _ => 6
def sW (k l : AI) (wd : Nat) : AV := .slw 68 1 k wd l (.own 1)
def wAl (t : Nat) (f : Nat → AI) (wd : Nat) : Nat × ABlk := (68, ⟨rowC .u8 f wd, wg t, true⟩)
def al0 (s u : Hd) : Now := ⟨[(0, xA s), (1, xB u), (2, sI 304)], hA s ++ hBb u, 66⟩
def al2 (s u : Hd) : Now := ⟨[(0, xA s), (1, xB u), (2, sI 304), (7, .p 66 0), (8, .p 67 0)], hA s ++ hBb u ++ [outB 66, outC 67], 68⟩
def al3 (s : Hd) : Now := ⟨[(0, xA s), (2, sI 304), (7, .p 66 0), (8, .p 67 0)], hA s ++ [outB 66, outC 67], 68⟩
def moreE (q : Bool) : List (Nat × AV) := if q then [(11, .p 69 0), (12, .p 70 0)] else []
def moreH (q : Bool) : List (Nat × ABlk) := if q then [outB 69, outC 70] else []
def nx (q : Bool) : Nat := if q then 71 else 69
def alW (q : Bool) (s : Hd) (t : Nat) (k l : AI) (f : Nat → AI) (wd : Nat) (ls : List (Nat × AV)) : Now := ⟨ls ++ ((0, xA s) :: (7, .p 66 0) :: (8, .p 67 0) :: (9, sW k l wd) :: moreE q), hA s ++ (outB 66 :: outC 67 :: wAl t f wd :: moreH q), nx q⟩
def pA (t : Nat) : AI := .s (pinA (tg t))
def fB0 (s u : Hd) : Facts := ⟨[], [(.gtr, lA s, nA 3000, false), (.gtr, u.len (tg 4), nA 3000, false), (.lss, .s 304, .c 0, false), (.gtr, .s 304, nA 200, false)], []⟩
def lW (s : Hd) : AI := .e .add .i64 (lA s) (.s 304)
def fG (s : Hd) : Facts := ⟨[], [(.geq, lW s, .c 0, true), (.eql, lW s, .s 301, true), (.eql, pA 6, .s (pinL (tg 6)), true), (.lss, .s (pinL (tg 6)), .c 1099511627776, true)], [(301, [], 0, tg 6)]⟩
def fLw (b : Bool) : Facts := ⟨[], [(.lss, .s 302, .s 301, b), (.neq, .s 303, nA 77, false)], []⟩
def fL1 (b : Bool) : Facts := ⟨[], [(.lss, .s 302, .s 301, b)], []⟩
def fK : Facts := ⟨[], [(.gtr, .s (pinL (tg 2)), .c 0, true), (.lss, .s (pinL (tg 2)), .c 1099511627776, true), (.leq, .s (pinL (tg 2)), .s 301, true), (.eql, .s (pinL (tg 8)), .s (pinL (tg 2)), true), (.eql, pA 12, pA 6, true), (.eql, .s (pinL (tg 12)), .s (pinL (tg 6)), true)], [(tg 8, [], tg 10, tg 6), (tg 2, [], tg 10, tg 12)]⟩
def fKs (s : Hd) : Facts := match s with | .c => fK | _ => noFacts
def fMm (s : Hd) : Facts := ⟨[], [(.leq, pA 6, lA s, true), (.leq, lA s, .s 301, true)], []⟩
def shRows (x : AV) (nx : Gl) : List RowM := [rowF 14 x nx (rowC .u8 (nmA 0) 32), rowF 16 x nx (rowC .u8 (nmA 100) 64)]
def shRowsB (x : AV) (nx : Gl) : List RowM := [rowF 14 x nx (rowC .u8 (nmA 400) 32), rowF 16 x nx (rowC .u8 (nmA 500) 64)]
def sM (s : Hd) : AV := .slw 68 1 (pA 6) 0 (lA s) .any
def hM (s : Hd) : Gl := [(68, ⟨[], wg (tt s), true⟩)]
def zRows : List RowM := [rowEq (slO 66) (slO 69) [outB 66, outB 69], rowEq (slC 67) (slC 70) [outC 67, outC 70], rowWk]
noncomputable def alHead (s u : Hd) : Bool := goesX noFacts tree [] glS [] [] [] 60 4 alA (al0 s u) .normal (al0 s u) && goesX (fB0 s u) tree [] glS [] [] [] 60 4 alB (al0 s u) .normal (al0 s u) && goesX noFacts tree [] glS [] (shRows (xA s) (hA s)) [] 60 4 alC (al0 s u) .normal (al2 s u) && goesX noFacts tree [] glS [] (shRowsB (xB u) (hBb u)) [] 60 4 alD (al2 s u) .normal (al2 s u) && goesX noFacts tree [] glS [] (shRowsB (xB u) (hBb u)) [] 60 4 alE (al2 s u) .normal (al3 s)
noncomputable def alMid (s : Hd) : Bool := goesX (fG s) tree [] glS [] [] [] 60 4 alG (al3 s) .normal (alW false s 6 (pA 6) (pA 6) (nmA 303) 0 []) && goesX noFacts tree [] glS [] [] [] 60 4 alI (alW false s 6 (pA 6) (pA 6) (nmA 303) 0 []) .normal (alW false s 6 (pA 6) (pA 6) (nmA 303) 0 [(10, iN 0)]) &&
  goesX (fL1 true) tree [] glS [] [] [] 60 4 alR (alW false s 6 (.s 302) (.s 301) (nmA 303) 1 [(10, sI 302)]) .normal (alW false s 6 (.s 302) (.s 301) (fun _ => nA 77) 1 [(10, .i .i64 (.e .add .i64 (.s 302) (nA 1)))]) &&
  goesX (fL1 false) tree [] glS [] [] [] 60 4 alR (alW false s 6 (.s 302) (.s 301) (nmA 303) 0 [(10, sI 302)]) (.exit 0) (alW false s 6 (.s 302) (.s 301) (nmA 303) 0 []) &&
  goesX (fKs s) tree [] glS [] [] [] 60 4 alK (alW false s 6 (pA 6) (.s 301) (nmA 303) 0 []) .normal (alW false s (tt s) (pA 6) (.s 301) (nmA 303) 0 []) &&
  goesX (fMm s) tree [] glS [] (shRows (sM s) (hM s)) [] 60 4 alM (alW false s (tt s) (pA 6) (.s 301) (nmA 303) 0 []) .normal (alW true s (tt s) (pA 6) (.s 301) (nmA 303) 0 []) &&
  goesX noFacts tree [] glS [] [] [] 60 4 alN (alW true s (tt s) (pA 6) (.s 301) (nmA 303) 0 []) .normal (alW true s (tt s) (pA 6) (.s 301) (nmA 303) 0 [(13, .i .i64 (lA s))]) &&
  goesX (fLw true) tree [] glS [] [] [] 60 4 alS (alW true s (tt s) (.s 302) (.s 301) (nmA 303) 1 [(13, sI 302)]) .normal (alW true s (tt s) (.s 302) (.s 301) (nmA 303) 1 [(13, .i .i64 (.e .add .i64 (.s 302) (nA 1)))]) &&
  goesX (fLw false) tree [] glS [] [] [] 60 4 alS (alW true s (tt s) (.s 302) (.s 301) (nmA 303) 0 [(13, sI 302)]) (.exit 2) (alW true s (tt s) (.s 302) (.s 301) (nmA 303) 0 [])
def alY : Now := ⟨[(6, .b true)], [], 71⟩
noncomputable def alEnd (s : Hd) : Bool := goesX noFacts tree [] glS [] zRows [] 60 4 alZ (alW true s (tt s) (.s 302) (.s 301) (nmA 303) 0 []) .ret alY
theorem al_head : ∀ s u : Hd, alHead s u = true := by
  intro s u
  cases s <;> cases u <;> kernel_rfl
theorem al_mid : ∀ s : Hd, alMid s = true := by
  intro s
  cases s <;> kernel_rfl
theorem al_end : ∀ s : Hd, alEnd s = true := by
  intro s
  cases s <;> kernel_rfl
theorem al_res : resA (trL alY.e) (heapL (alY.H ++ glS) alY.n) [.t 6] = some (.b true) := by kernel_rfl
/-! names -/
def loA (S U SB UB : Wd) (W i x r : Int) : Nat → Int := two (two (two S 100 U) 300 (fun j => if j = 1 then W else if j = 2 then i else if j = 3 then x else r)) 400 (two SB 100 UB)
def z77 : Wd := fun _ => 77
def zAl (z zb g : Wd) (n : Nat) (t : Nat) : Wd := if t = 2 then z else if t = 4 then zb else if t = 6 then g else if t = 12 then (fun j => if j < n then z j else 77) else z77
def lnAl (n m r : Nat) (t : Nat) : Nat := if t = 2 then n else if t = 4 then m else if t = 8 then n else if t = 10 then r else n + r
def nuAl (n m r : Nat) (z zb : Wd) (i a : Nat) (x : Int) (g : Wd) : Nat → Int := nuR (loA (sum256 z n) (sum256Q z n) (sum256 zb m) (sum256Q zb m) ((n + r : Nat) : Int) i x r) (lnAl n m r) (fun _ => a) (zAl z zb g n)
section
variable {n m r : Nat} {z zb : Wd} {i a : Nat} {x : Int} {g : Wd}
theorem nuAl_S {j : Nat} (h : j < 32) : nuAl n m r z zb i a x g j = sum256 z n j := by
  unfold nuAl
  rw [nuR_lo (by omega)]
  unfold loA
  rw [two_lo (by omega), two_lo (by omega), two_lo (by omega)]
theorem nuAl_U {j : Nat} (h : j < 64) : nuAl n m r z zb i a x g (100 + j) = sum256Q z n j := by
  unfold nuAl
  rw [nuR_lo (by omega)]
  unfold loA
  rw [two_lo (by omega), two_lo (by omega), two_hi]
theorem nuAl_SB {j : Nat} (h : j < 32) : nuAl n m r z zb i a x g (400 + j) = sum256 zb m j := by
  unfold nuAl
  rw [nuR_lo (by omega)]
  unfold loA
  rw [two_hi, two_lo (by omega)]
theorem nuAl_UB {j : Nat} (h : j < 64) : nuAl n m r z zb i a x g (500 + j) = sum256Q zb m j := by
  unfold nuAl
  rw [nuR_lo (by omega)]
  unfold loA
  rw [show 500 + j = 400 + (100 + j) by omega, two_hi, two_hi]
theorem nuAl_hi {j : Nat} (h : j < 100) : nuAl n m r z zb i a x g (300 + j) = if j = 1 then ((n + r : Nat) : Int) else if j = 2 then (i : Int) else if j = 3 then x else (r : Int) := by
  unfold nuAl
  rw [nuR_lo (by omega)]
  unfold loA
  rw [two_lo (by omega), two_hi]
theorem nuAl_W : nuAl n m r z zb i a x g 301 = ((n + r : Nat) : Int) := (nuAl_hi (j := 1) (by decide)).trans rfl
theorem nuAl_i : nuAl n m r z zb i a x g 302 = i := (nuAl_hi (j := 2) (by decide)).trans rfl
theorem nuAl_x : nuAl n m r z zb i a x g 303 = x := (nuAl_hi (j := 3) (by decide)).trans rfl
theorem nuAl_r : nuAl n m r z zb i a x g 304 = r := (nuAl_hi (j := 4) (by decide)).trans rfl
theorem nuAl_L {t : Nat} (ht : 0 < t) : nuAl n m r z zb i a x g (pinL (tg t)) = (lnAl n m r t : Int) := nuR_L ht
theorem nuAl_A {t : Nat} (ht : 0 < t) : nuAl n m r z zb i a x g (pinA (tg t)) = (a : Int) := nuR_A ht
theorem nuAl_B {t : Nat} (ht : 0 < t) {j : Nat} (h : j < 1099511627774) : nuAl n m r z zb i a x g (pinB (tg t) j) = zAl z zb g n t j := nuR_B ht h
end
theorem lA_val {n m r : Nat} {z zb : Wd} {i a : Nat} {x : Int} {g : Wd} {s : Hd} (h : s.Fits n) : (lA s).val (nuAl n m r z zb i a x g) = (n : Int) := by
  cases s
  · have h : n = 0 := h
    subst h; rfl
  · have h : n = 0 := h
    subst h; rfl
  · exact nuAl_L (by decide)
theorem lB_val {n m r : Nat} {z zb : Wd} {i a : Nat} {x : Int} {g : Wd} {u : Hd} (h : u.Fits m) : (u.len (tg 4)).val (nuAl n m r z zb i a x g) = (m : Int) := by
  cases u
  · have h : m = 0 := h
    subst h; rfl
  · have h : m = 0 := h
    subst h; rfl
  · exact nuAl_L (by decide)
theorem xA_text {n m r : Nat} {z zb : Wd} {i a : Nat} {x : Int} {g : Wd} {s : Hd} (h : s.Fits n) (hn : n < 100000) : IsText (nuAl n m r z zb i a x g) (hA s) (xA s) n z := by
  cases s
  · have h : n = 0 := h
    subst h; exact isText_nsl
  · have h : n = 0 := h
    subst h; exact isText_sle
  · exact isText_pin List.mem_cons_self ⟨by decide, by decide⟩ (tg_Ke (by decide)) h (nuAl_L (by decide)) fun j hj => nuAl_B (by decide) (by omega)
theorem xB_text {n m r : Nat} {z zb : Wd} {i a : Nat} {x : Int} {g : Wd} {u : Hd} (h : u.Fits m) (hm : m < 100000) : IsText (nuAl n m r z zb i a x g) (hBb u) (xB u) m zb := by
  cases u
  · have h : m = 0 := h
    subst h; exact isText_nsl
  · have h : m = 0 := h
    subst h; exact isText_sle
  · exact isText_pin List.mem_cons_self ⟨by decide, by decide⟩ (tg_Ke (by decide)) h (nuAl_L (by decide)) fun j hj => nuAl_B (by decide) (by omega)
theorem al_get (q : Bool) (s : Hd) (t : Nat) (k l : AI) (f : Nat → AI) (wd : Nat) : ∀ p ∈ (alW q s t k l f wd []).H, (heapL ((alW q s t k l f wd []).H ++ glS) (nx q)).get p.1 = some p.2 := by
  intro p hp
  cases q <;> cases s <;> simp only [alW, hA, Hd.gl, moreH, List.nil_append, List.cons_append, if_true, if_false, Bool.false_eq_true, List.mem_cons, List.not_mem_nil, or_false] at hp <;> rcases hp with rfl | rfl | rfl | rfl | rfl | rfl <;> kernel_rfl
/-- The window moves. -/
theorem al_move {w0 : World} {n m r : Nat} {z zb : Wd} {q : Bool} {s : Hd} {t : Nat} {k l k' : AI} {f : Nat → AI} {wd wd' i i' a a' : Nat} {x x' : Int} {g g' : Wd} {ls ls' : List (Nat × AV)} {ac : Act} {w : World} (ht : 0 < t) (ht2 : t % 2 = 0) (htl : lnAl n m r t = n + r) (hn : n + r < 100000)
    (h : HoldsX 89 w0 (nuAl n m r z zb i a x g) glS [] [] [] (alW q s t k l f wd ls) ac w) (hk : k.val (nuAl n m r z zb i a x g) = (a : Int)) (hk' : k'.val (nuAl n m r z zb i' a' x' g') = (a' : Int)) (hl : l.val (nuAl n m r z zb i a x g) = ((n + r : Nat) : Int)) (hw : a' + wd' ≤ n + r)
    (hB : ∀ j, j < n + r → (j < a ∨ a + wd ≤ j) → zAl z zb g n t j = zAl z zb g' n t j) (hf : ∀ j, j < wd → (f j).val (nuAl n m r z zb i a x g) = zAl z zb g' n t (a + j)) (hf' : ∀ j, j < wd' → (nmA 303 j).val (nuAl n m r z zb i' a' x' g') = zAl z zb g' n t (a' + j))
    (hls : ∀ p ∈ ls', ∃ x1 u, (p.1, x1) ∈ ls ∧ conc (nuAl n m r z zb i a x g) x1 = some u ∧ conc (nuAl n m r z zb i' a' x' g') p.2 = some u) :
    HoldsX 89 w0 (nuAl n m r z zb i' a' x' g') glS [] [] [] (alW q s t k' (.s 301) (nmA 303) wd' ls') ac w := by
  have hg : ∀ p ∈ (alW q s t k l f wd ls).H, (heapL ((alW q s t k l f wd ls).H ++ glS) (nx q)).get p.1 = some p.2 := al_get q s t k l f wd
  have big : 68 < nx q := by cases q <;> decide
  have i66 : outB 66 ∈ (alW q s t k l f wd ls).H := List.mem_append.2 (.inr (by simp))
  have i67 : outC 67 ∈ (alW q s t k l f wd ls).H := List.mem_append.2 (.inr (by simp))
  have i68 : wAl t f wd ∈ (alW q s t k l f wd ls).H := List.mem_append.2 (.inr (by simp))
  refine HoldsX.slide glS_ok h 68 (mv a a') (by decide) big (fun _ => rfl) (show gmax ≤ nx q by cases q <;> decide) (fun _ hp => by cases hp) (fun _ hp => by cases hp) (fun p hp => ?_) fun p hp => ?_
  · rcases List.mem_append.1 hp with hp | hp
    · obtain ⟨x1, u, q1, q2, q3⟩ := hls p hp
      exact ⟨x1, List.mem_append.2 (.inl q1), SlotS.conc q2 q3⟩
    · rcases List.mem_cons.1 hp with rfl | hp
      · refine ⟨xA s, List.mem_append.2 (.inr (by simp)), ?_⟩
        cases s
        · exact SlotS.nsl
        · exact SlotS.sle
        · exact SlotS.sl 0 (by cases q <;> decide) (by decide) ((nuAl_L (by decide)).trans (nuAl_L (by decide)).symm)
      rcases List.mem_cons.1 hp with rfl | hp
      · exact ⟨.p 66 0, List.mem_append.2 (.inr (by simp)), SlotS.p _ (by cases q <;> decide) (by decide)⟩
      rcases List.mem_cons.1 hp with rfl | hp
      · exact ⟨.p 67 0, List.mem_append.2 (.inr (by simp)), SlotS.p _ (by cases q <;> decide) (by decide)⟩
      rcases List.mem_cons.1 hp with rfl | hp
      · exact ⟨sW k l wd, List.mem_append.2 (.inr (by simp)), SlotS.win (m := n + r) hk hk' hl nuAl_W hw⟩
      · cases q
        · cases hp
        · simp only [moreE, if_true, List.mem_cons, List.not_mem_nil, or_false] at hp
          rcases hp with rfl | rfl
          · exact ⟨.p 69 0, List.mem_append.2 (.inr (by simp [moreE])), SlotS.p _ (by decide) (by decide)⟩
          · exact ⟨.p 70 0, List.mem_append.2 (.inr (by simp [moreE])), SlotS.p _ (by decide) (by decide)⟩
  · rcases List.mem_append.1 hp with hp | hp
    · cases s
      · cases hp
      · cases hp
      · simp only [hA, Hd.gl, List.mem_cons, List.not_mem_nil, or_false] at hp
        subst hp
        refine ⟨by decide, by cases q <;> decide, _, hg _ List.mem_cons_self, rfl, BlkS.pin (show 64 ≠ 68 by decide) ⟨by decide, by decide⟩ ((nuAl_L (by decide)).trans (nuAl_L (by decide)).symm) fun j hj => ?_⟩
        rw [nuAl_L (by decide)] at hj
        have hj : (j : Int) < ((n : Nat) : Int) := hj
        rw [nuAl_B (by decide) (by omega), nuAl_B (by decide) (by omega)]
        rfl
    · have rowS : ∀ (b : Nat), b ≠ 68 → BlkS (nuAl n m r z zb i a x g) (nuAl n m r z zb i' a' x' g') (nx q) 68 (mv a a') b (outB b).2 (outB b).2 := fun b hb => BlkS.row hb (by decide) fun j hj => by rw [nm_val, nm_val, Nat.zero_add, nuAl_S hj, nuAl_S hj]
      have rowU : ∀ (b : Nat), b ≠ 68 → BlkS (nuAl n m r z zb i a x g) (nuAl n m r z zb i' a' x' g') (nx q) 68 (mv a a') b (outC b).2 (outC b).2 := fun b hb => BlkS.row hb (by decide) fun j hj => by rw [nm_val, nm_val, nuAl_U hj, nuAl_U hj]
      rcases List.mem_cons.1 hp with rfl | hp
      · exact ⟨show gmax ≤ 66 by decide, show 66 < nx q by cases q <;> decide, _, hg _ i66, rfl, rowS 66 (by decide)⟩
      rcases List.mem_cons.1 hp with rfl | hp
      · exact ⟨show gmax ≤ 67 by decide, show 67 < nx q by cases q <;> decide, _, hg _ i67, rfl, rowU 67 (by decide)⟩
      rcases List.mem_cons.1 hp with rfl | hp
      · refine ⟨show gmax ≤ 68 by decide, big, (wAl t f wd).2, hg _ i68, rfl, BlkS.win (m := n + r) (g := zAl z zb g' n t) ht ht (tg_Ke ht2) (tg_Ke ht2) (nuAl_A ht) ((nuAl_L ht).trans (by rw [htl])) (nuAl_A ht) ((nuAl_L ht).trans (by rw [htl])) (fun j hj hjw => by rw [nuAl_B ht (by omega)]; exact hB j hj hjw) hf (fun j hj _ => nuAl_B ht (by omega)) hf' hw⟩
      · cases q
        · cases hp
        · simp only [moreH, if_true, List.mem_cons, List.not_mem_nil, or_false] at hp
          rcases hp with rfl | rfl
          · exact ⟨show gmax ≤ 69 by decide, show 69 < 71 by decide, _, hg (outB 69) (List.mem_append.2 (.inr (by simp [moreH]))), rfl, rowS 69 (by decide)⟩
          · exact ⟨show gmax ≤ 70 by decide, show 70 < 71 by decide, _, hg (outC 70) (List.mem_append.2 (.inr (by simp [moreH]))), rfl, rowU 70 (by decide)⟩
/-! loops -/
def g77 (i : Nat) : Wd := fun j => if j < i then 77 else 0
theorem fL1_hold {n m r : Nat} {z zb : Wd} {i a : Nat} {x : Int} {g : Wd} {b : Bool} (h : decide (i < n + r) = b) : (fL1 b).Hold (nuAl n m r z zb i a x g) := by
  refine ⟨fun p hp => (by cases hp), fun p hp => ?_, fun p hp => by cases hp⟩
  simp only [fL1, List.mem_cons, List.not_mem_nil, or_false] at hp
  subst hp
  show decide (nuAl n m r z zb i a x g 302 < nuAl n m r z zb i a x g 301) = b
  rw [nuAl_i, nuAl_W, ← h]
  by_cases hh : i < n + r
  · rw [decide_eq_true hh, decide_eq_true (show (i : Int) < ((n + r : Nat) : Int) by omega)]
  · rw [decide_eq_false hh, decide_eq_false (show ¬ (i : Int) < ((n + r : Nat) : Int) by omega)]
theorem fLw_hold {n m r : Nat} {z zb : Wd} {i a : Nat} {g : Wd} {b : Bool} (h : decide (i < n + r) = b) : (fLw b).Hold (nuAl n m r z zb i a 77 g) := by
  refine ⟨fun p hp => (by cases hp), fun p hp => ?_, fun p hp => by cases hp⟩
  simp only [fLw, List.mem_cons, List.not_mem_nil, or_false] at hp
  rcases hp with rfl | rfl
  · exact (fL1_hold h).cmp (.lss, .s 302, .s 301, b) List.mem_cons_self
  · show (nuAl n m r z zb i a 77 g 303 != ((77 : Nat) : Int)) = false
    rw [nuAl_x]
    rfl
theorem runAl {w0 : World} {ic : IC} {i o : Now} {ex : Ex} {d : Nat} {ν : Nat → Int} {F : Facts} {TM : List RowM} (hF : F.Hold ν) (hT : ∀ r ∈ TM, r.Ok ν Tryd.prog glS) (h : goesX F tree [] glS [] TM [] 60 d ic i ex o = true) : Tri Tryd.prog 89 ic (HoldsX 89 w0 ν glS [] [] [] i) fun ex' a w' => ex' = ex ∧ HoldsX 89 w0 ν glS [] [] [] o a w' :=
  Tri.runX hF mixed tab_ok glS_ok (fun r hr => by cases hr) (fun r hr => by cases hr) hT (fun r hr => by cases hr) h
theorem noM (ν : Nat → Int) : ∀ r ∈ ([] : List RowM), r.Ok ν Tryd.prog glS := fun r hr => by cases hr
theorem al_parts (s : Hd) : goesX (fG s) tree [] glS [] [] [] 60 4 alG (al3 s) .normal (alW false s 6 (pA 6) (pA 6) (nmA 303) 0 []) = true ∧ goesX noFacts tree [] glS [] [] [] 60 4 alI (alW false s 6 (pA 6) (pA 6) (nmA 303) 0 []) .normal (alW false s 6 (pA 6) (pA 6) (nmA 303) 0 [(10, iN 0)]) = true ∧
    goesX (fL1 true) tree [] glS [] [] [] 60 4 alR (alW false s 6 (.s 302) (.s 301) (nmA 303) 1 [(10, sI 302)]) .normal (alW false s 6 (.s 302) (.s 301) (fun _ => nA 77) 1 [(10, .i .i64 (.e .add .i64 (.s 302) (nA 1)))]) = true ∧
    goesX (fL1 false) tree [] glS [] [] [] 60 4 alR (alW false s 6 (.s 302) (.s 301) (nmA 303) 0 [(10, sI 302)]) (.exit 0) (alW false s 6 (.s 302) (.s 301) (nmA 303) 0 []) = true ∧
    goesX (fKs s) tree [] glS [] [] [] 60 4 alK (alW false s 6 (pA 6) (.s 301) (nmA 303) 0 []) .normal (alW false s (tt s) (pA 6) (.s 301) (nmA 303) 0 []) = true ∧
    goesX (fMm s) tree [] glS [] (shRows (sM s) (hM s)) [] 60 4 alM (alW false s (tt s) (pA 6) (.s 301) (nmA 303) 0 []) .normal (alW true s (tt s) (pA 6) (.s 301) (nmA 303) 0 []) = true ∧
    goesX noFacts tree [] glS [] [] [] 60 4 alN (alW true s (tt s) (pA 6) (.s 301) (nmA 303) 0 []) .normal (alW true s (tt s) (pA 6) (.s 301) (nmA 303) 0 [(13, .i .i64 (lA s))]) = true ∧
    goesX (fLw true) tree [] glS [] [] [] 60 4 alS (alW true s (tt s) (.s 302) (.s 301) (nmA 303) 1 [(13, sI 302)]) .normal (alW true s (tt s) (.s 302) (.s 301) (nmA 303) 1 [(13, .i .i64 (.e .add .i64 (.s 302) (nA 1)))]) = true ∧
    goesX (fLw false) tree [] glS [] [] [] 60 4 alS (alW true s (tt s) (.s 302) (.s 301) (nmA 303) 0 [(13, sI 302)]) (.exit 2) (alW true s (tt s) (.s 302) (.s 301) (nmA 303) 0 []) = true := by
  have h := al_mid s
  simp only [alMid, Bool.and_eq_true] at h
  obtain ⟨⟨⟨⟨⟨⟨⟨⟨h1, h2⟩, h3⟩, h4⟩, h5⟩, h6⟩, h7⟩, h8⟩, h9⟩ := h
  exact ⟨h1, h2, h3, h4, h5, h6, h7, h8, h9⟩
section
variable {w0 : World} {n m r : Nat} {z zb : Wd} {s : Hd}
theorem al_loop1 (hn : n + r < 100000) : Tri Tryd.prog 89 (.loop alR) (fun a w => HoldsX 89 w0 (nuAl n m r z zb 0 0 0 (g77 0)) glS [] [] [] (alW false s 6 (.s 302) (.s 301) (nmA 303) (wdB (n + r)) [(10, sI 302)]) a w)
    fun ex a w => ex = .exit 0 ∧ HoldsX 89 w0 (nuAl n m r z zb (n + r) (n + r) 0 (g77 (n + r))) glS [] [] [] (alW false s 6 (.s 302) (.s 301) (nmA 303) 0 []) a w := by
  obtain ⟨_, _, p3, p4, _⟩ := al_parts s
  have key := Tri.loop (P := Tryd.prog) (N := 89) (x := alR) (J := fun k a w => k ≤ n + r ∧ HoldsX 89 w0 (nuAl n m r z zb (n + r - k) (n + r - k) 0 (g77 (n + r - k))) glS [] [] [] (alW false s 6 (.s 302) (.s 301) (nmA 303) (wdB k) [(10, sI 302)]) a w)
    (Post := fun ex a w => ex = .exit 0 ∧ HoldsX 89 w0 (nuAl n m r z zb (n + r) (n + r) 0 (g77 (n + r))) glS [] [] [] (alW false s 6 (.s 302) (.s 301) (nmA 303) 0 []) a w) (n + r) ?_ ?_
  · exact key.weak (fun a w h => ⟨Nat.le_refl _, by rw [Nat.sub_self]; exact h⟩) (fun _ _ _ h => h)
  · intro k cc hc a w ⟨hk, hp⟩
    rw [show wdB (k + 1) = 1 from if_neg (by omega)] at hp
    have e2 : n + r - k = n + r - (k + 1) + 1 := by omega
    have hlt : n + r - (k + 1) < n + r := by omega
    have hwd : n + r - k + wdB k ≤ n + r := by unfold wdB; split <;> omega
    have hw1 : wdB k ≤ 1 := by unfold wdB; split <;> omega
    rw [e2] at hwd ⊢
    generalize n + r - (k + 1) = i at *
    refine ((runAl (fL1_hold (decide_eq_true hlt)) (noM _) p3).weak (fun _ _ h => h) (fun ex a w h => ?_)) cc hc a w hp
    refine .inl ⟨h.1, by omega, al_move (by decide) (by decide) rfl hn h.2 nuAl_i nuAl_i nuAl_W hwd (fun j hj hjw => ?_) (fun j hj => ?_) (fun j hj => ?_) fun p hp => ?_⟩
    · show g77 i j = g77 (i + 1) j
      unfold g77
      by_cases h1 : j < i
      · rw [if_pos h1, if_pos (by omega)]
      · rw [if_neg h1, if_neg (by omega)]
    · have : j = 0 := by omega
      subst this
      show ((77 : Nat) : Int) = g77 (i + 1) (i + 0)
      exact (if_pos (by omega)).symm
    · have : j = 0 := by omega
      subst this
      refine nuAl_x.trans ?_
      show (0 : Int) = g77 (i + 1) (i + 1 + 0)
      exact (if_neg (by omega)).symm
    · simp only [List.mem_cons, List.not_mem_nil, or_false] at hp
      subst hp
      refine ⟨_, .int .i64 ((i + 1 : Nat) : Int), List.mem_cons_self, ?_, sI_conc nuAl_i⟩
      refine (add1_conc nuAl_i).trans ?_
      rw [i64_small (by omega) (by omega)]
      congr 2
  · intro cc hc a w ⟨_, hp⟩
    rw [Nat.sub_zero, show wdB 0 = 0 from rfl] at hp
    exact ((runAl (fL1_hold (decide_eq_false (by omega))) (noM _) p4).weak (fun _ _ h => h) (fun ex a w h => ⟨by rw [h.1]; simp, h⟩)) cc hc a w hp
theorem tt_len : lnAl n m r (tt s) = n + r := by cases s <;> rfl
theorem tt_pos : 0 < tt s := by cases s <;> decide
theorem tt_even : tt s % 2 = 0 := by cases s <;> decide
theorem tt_tail (hs : s.Fits n) {j : Nat} (h1 : n ≤ j) (h2 : j < n + r) : zAl z zb (g77 (n + r)) n (tt s) j = 77 := by
  cases s
  · exact if_pos h2
  · exact if_pos h2
  · exact if_neg (by omega)
theorem tt_head (hs : s.Fits n) {j : Nat} (h1 : j < n) : zAl z zb (g77 (n + r)) n (tt s) j = z j := by
  cases s
  · have hs : n = 0 := hs
    omega
  · have hs : n = 0 := hs
    omega
  · exact if_pos h1
theorem al_loop2 (hs : s.Fits n) (hn : n + r < 100000) : Tri Tryd.prog 89 (.loop alS) (fun a w => HoldsX 89 w0 (nuAl n m r z zb n n 77 (g77 (n + r))) glS [] [] [] (alW true s (tt s) (.s 302) (.s 301) (nmA 303) (wdB r) [(13, sI 302)]) a w)
    fun ex a w => ex = .exit 2 ∧ HoldsX 89 w0 (nuAl n m r z zb (n + r) (n + r) 77 (g77 (n + r))) glS [] [] [] (alW true s (tt s) (.s 302) (.s 301) (nmA 303) 0 []) a w := by
  obtain ⟨_, _, _, _, _, _, _, p8, p9⟩ := al_parts s
  have key := Tri.loop (P := Tryd.prog) (N := 89) (x := alS) (J := fun k a w => k ≤ r ∧ HoldsX 89 w0 (nuAl n m r z zb (n + r - k) (n + r - k) 77 (g77 (n + r))) glS [] [] [] (alW true s (tt s) (.s 302) (.s 301) (nmA 303) (wdB k) [(13, sI 302)]) a w)
    (Post := fun ex a w => ex = .exit 2 ∧ HoldsX 89 w0 (nuAl n m r z zb (n + r) (n + r) 77 (g77 (n + r))) glS [] [] [] (alW true s (tt s) (.s 302) (.s 301) (nmA 303) 0 []) a w) r ?_ ?_
  · exact key.weak (fun a w h => ⟨Nat.le_refl _, by rw [Nat.add_sub_cancel]; exact h⟩) (fun _ _ _ h => h)
  · intro k cc hc a w ⟨hk, hp⟩
    rw [show wdB (k + 1) = 1 from if_neg (by omega)] at hp
    have e2 : n + r - k = n + r - (k + 1) + 1 := by omega
    have hlt : n + r - (k + 1) < n + r := by omega
    have hge : n ≤ n + r - (k + 1) := by omega
    have hwd : n + r - k + wdB k ≤ n + r := by unfold wdB; split <;> omega
    have hw1 : wdB k ≤ 1 := by unfold wdB; split <;> omega
    rw [e2] at hwd ⊢
    generalize n + r - (k + 1) = i at *
    refine ((runAl (fLw_hold (decide_eq_true hlt)) (noM _) p8).weak (fun _ _ h => h) (fun ex a w h => ?_)) cc hc a w hp
    refine .inl ⟨h.1, by omega, al_move tt_pos tt_even tt_len hn h.2 nuAl_i nuAl_i nuAl_W hwd (fun j hj hjw => rfl) (fun j hj => ?_) (fun j hj => ?_) fun p hp => ?_⟩
    · have : j = 0 := by omega
      subst this
      exact nuAl_x.trans (tt_tail hs (by omega) (by omega)).symm
    · exact (show j = 0 by omega) ▸ nuAl_x.trans (tt_tail hs (by omega) (by omega)).symm
    · simp only [List.mem_cons, List.not_mem_nil, or_false] at hp
      subst hp
      refine ⟨_, .int .i64 ((i + 1 : Nat) : Int), List.mem_cons_self, ?_, sI_conc nuAl_i⟩
      refine (add1_conc nuAl_i).trans ?_
      rw [i64_small (by omega) (by omega)]
      congr 2
  · intro cc hc a w ⟨_, hp⟩
    rw [Nat.sub_zero, show wdB 0 = 0 from rfl] at hp
    exact ((runAl (fLw_hold (decide_eq_false (by omega))) (noM _) p9).weak (fun _ _ h => h) (fun ex a w h => ⟨by rw [h.1]; simp, h⟩)) cc hc a w hp
end
/-! facts -/
section
variable {n m r : Nat} {z zb : Wd} {i a : Nat} {x : Int} {g : Wd} {s u : Hd}
theorem fB0_hold (hs : s.Fits n) (hu : u.Fits m) (h1 : n ≤ 3000) (h2 : m ≤ 3000) (h3 : r ≤ 200) : (fB0 s u).Hold (nuAl n m r z zb i a x g) := by
  refine ⟨fun p hp => (by cases hp), fun p hp => ?_, fun p hp => by cases hp⟩
  simp only [fB0, List.mem_cons, List.not_mem_nil, or_false] at hp
  rcases hp with rfl | rfl | rfl | rfl
  · show decide ((lA s).val (nuAl n m r z zb i a x g) > ((3000 : Nat) : Int)) = false
    rw [lA_val hs]
    exact decide_eq_false (by omega)
  · show decide ((u.len (tg 4)).val (nuAl n m r z zb i a x g) > ((3000 : Nat) : Int)) = false
    rw [lB_val hu]
    exact decide_eq_false (by omega)
  · show decide (nuAl n m r z zb i a x g 304 < 0) = false
    rw [nuAl_r]
    exact decide_eq_false (by omega)
  · show decide (nuAl n m r z zb i a x g 304 > ((200 : Nat) : Int)) = false
    rw [nuAl_r]
    exact decide_eq_false (by omega)
theorem lW_val (hs : s.Fits n) (hn : n + r < 100000) : (lW s).val (nuAl n m r z zb i a x g) = ((n + r : Nat) : Int) := by
  show IntKind.i64.wrap ((lA s).val (nuAl n m r z zb i a x g) + nuAl n m r z zb i a x g 304) = _
  rw [lA_val hs, nuAl_r, i64_small (by omega) (by omega)]
  omega
theorem fG_hold (hs : s.Fits n) (hn : n + r < 100000) : (fG s).Hold (nuAl n m r z zb 0 (n + r) 0 (g77 0)) := by
  refine ⟨fun p hp => (by cases hp), fun p hp => ?_, fun p hp => ?_⟩
  · simp only [fG, List.mem_cons, List.not_mem_nil, or_false] at hp
    rcases hp with rfl | rfl | rfl | rfl
    · show decide ((lW s).val (nuAl n m r z zb 0 (n + r) 0 (g77 0)) ≥ 0) = true
      rw [lW_val hs hn]
      exact decide_eq_true (by omega)
    · show ((lW s).val (nuAl n m r z zb 0 (n + r) 0 (g77 0)) == nuAl n m r z zb 0 (n + r) 0 (g77 0) 301) = true
      rw [lW_val hs hn, nuAl_W]
      exact beq_self_eq_true _
    · show (nuAl n m r z zb 0 (n + r) 0 (g77 0) (pinA (tg 6)) == nuAl n m r z zb 0 (n + r) 0 (g77 0) (pinL (tg 6))) = true
      rw [nuAl_A (by decide), nuAl_L (by decide)]
      exact beq_self_eq_true _
    · show decide (nuAl n m r z zb 0 (n + r) 0 (g77 0) (pinL (tg 6)) < 1099511627776) = true
      rw [nuAl_L (by decide)]
      exact decide_eq_true (show ((n + r : Nat) : Int) < 1099511627776 by omega)
  · simp only [fG, List.mem_cons, List.not_mem_nil, or_false] at hp
    subst hp
    refine ⟨by show 0 ≤ nuAl n m r z zb 0 (n + r) 0 (g77 0) (pinL (tg 6)); rw [nuAl_L (by decide)]; omega, ?_⟩
    show lst _ (tg 6) = lst0 _ 301 ++ [].map _ ++ lst0 _ 0
    have e9 : lst (nuAl n m r z zb 0 (n + r) 0 (g77 0)) (tg 6) = List.replicate (n + r) 0 := lst_all (nuAl_L (t := 6) (by decide)) fun j hj => (nuAl_B (t := 6) (by decide) (Nat.lt_trans hj (by omega))).trans (show (if j < 0 then (77 : Int) else 0) = 0 from if_neg (Nat.not_lt_zero _))
    rw [lst0_zero, lst0_nought _ (by decide) (by decide), nuAl_W, e9, Int.toNat_natCast, List.map_nil, List.append_nil, List.append_nil]
theorem fK_hold (hn : n + r < 100000) (h0 : 0 < n) : fK.Hold (nuAl n m r z zb i 0 x (g77 (n + r))) := by
  have L : ∀ t, 0 < t → nuAl n m r z zb i 0 x (g77 (n + r)) (pinL (tg t)) = (lnAl n m r t : Int) := fun t ht => nuAl_L ht
  have B : ∀ t j, 0 < t → j < 1099511627774 → nuAl n m r z zb i 0 x (g77 (n + r)) (pinB (tg t) j) = zAl z zb (g77 (n + r)) n t j := fun t j ht hj => nuAl_B ht hj
  refine ⟨fun p hp => (by cases hp), fun p hp => ?_, fun p hp => ?_⟩
  · simp only [fK, List.mem_cons, List.not_mem_nil, or_false] at hp
    rcases hp with rfl | rfl | rfl | rfl | rfl | rfl
    · show decide (nuAl n m r z zb i 0 x (g77 (n + r)) (pinL (tg 2)) > 0) = true
      rw [L 2 (by decide)]
      exact decide_eq_true (show ((n : Nat) : Int) > 0 by omega)
    · show decide (nuAl n m r z zb i 0 x (g77 (n + r)) (pinL (tg 2)) < 1099511627776) = true
      rw [L 2 (by decide)]
      exact decide_eq_true (show ((n : Nat) : Int) < 1099511627776 by omega)
    · show decide (nuAl n m r z zb i 0 x (g77 (n + r)) (pinL (tg 2)) ≤ nuAl n m r z zb i 0 x (g77 (n + r)) 301) = true
      rw [L 2 (by decide), nuAl_W]
      exact decide_eq_true (show ((n : Nat) : Int) ≤ ((n + r : Nat) : Int) by omega)
    · show (nuAl n m r z zb i 0 x (g77 (n + r)) (pinL (tg 8)) == nuAl n m r z zb i 0 x (g77 (n + r)) (pinL (tg 2))) = true
      rw [L 8 (by decide), L 2 (by decide)]
      exact beq_self_eq_true _
    · show (nuAl n m r z zb i 0 x (g77 (n + r)) (pinA (tg 12)) == nuAl n m r z zb i 0 x (g77 (n + r)) (pinA (tg 6))) = true
      rw [nuAl_A (by decide), nuAl_A (by decide)]
      exact beq_self_eq_true _
    · show (nuAl n m r z zb i 0 x (g77 (n + r)) (pinL (tg 12)) == nuAl n m r z zb i 0 x (g77 (n + r)) (pinL (tg 6))) = true
      rw [L 12 (by decide), L 6 (by decide)]
      exact beq_self_eq_true _
  · simp only [fK, List.mem_cons, List.not_mem_nil, or_false] at hp
    rcases hp with rfl | rfl
    · refine ⟨by show 0 ≤ nuAl n m r z zb i 0 x (g77 (n + r)) (pinL (tg 6)); rw [L 6 (by decide)]; omega, ?_⟩
      show lst _ (tg 6) = lst0 _ (tg 8) ++ [].map _ ++ lst0 _ (tg 10)
      rw [lst0_row _ (by decide), lst0_row _ (by decide), List.map_nil, List.append_nil]
      refine lst_split (n := n) (r := r) (L 6 (by decide)) (L 8 (by decide)) (L 10 (by decide)) (fun j hj => ?_) fun j hj => ?_
      · rw [B 6 j (by decide) (by omega), B 8 j (by decide) (by omega)]
        exact if_pos (by omega)
      · rw [B 6 _ (by decide) (by omega), B 10 j (by decide) (by omega)]
        exact if_pos (by omega)
    · refine ⟨by show 0 ≤ nuAl n m r z zb i 0 x (g77 (n + r)) (pinL (tg 12)); rw [L 12 (by decide)]; omega, ?_⟩
      show lst _ (tg 12) = lst0 _ (tg 2) ++ [].map _ ++ lst0 _ (tg 10)
      rw [lst0_row _ (by decide), lst0_row _ (by decide), List.map_nil, List.append_nil]
      refine lst_split (n := n) (r := r) (L 12 (by decide)) (L 2 (by decide)) (L 10 (by decide)) (fun j hj => ?_) fun j hj => ?_
      · rw [B 12 j (by decide) (by omega), B 2 j (by decide) (by omega)]
        exact if_pos hj
      · rw [B 12 _ (by decide) (by omega), B 10 j (by decide) (by omega)]
        exact if_neg (by omega)
theorem fMm_hold (hs : s.Fits n) : (fMm s).Hold (nuAl n m r z zb i 0 x g) := by
  refine ⟨fun p hp => (by cases hp), fun p hp => ?_, fun p hp => by cases hp⟩
  simp only [fMm, List.mem_cons, List.not_mem_nil, or_false] at hp
  rcases hp with rfl | rfl
  · show decide (nuAl n m r z zb i 0 x g (pinA (tg 6)) ≤ (lA s).val (nuAl n m r z zb i 0 x g)) = true
    rw [lA_val hs, nuAl_A (by decide)]
    exact decide_eq_true (by omega)
  · show decide ((lA s).val (nuAl n m r z zb i 0 x g) ≤ nuAl n m r z zb i 0 x g 301) = true
    rw [lA_val hs, nuAl_W]
    exact decide_eq_true (by omega)
theorem shRows_ok {ν : Nat → Int} {xx : AV} {ny : Gl} {n : Nat} {z : Wd} (hX : ∀ j, j < 32 → ν j = sum256 z n j) (hU : ∀ j, j < 64 → ν (100 + j) = sum256Q z n j) (hx : IsText ν ny xx n z) (hn : n < 100000) : ∀ q ∈ shRows xx ny, q.Ok ν Tryd.prog glS := by
  intro q hq
  simp only [shRows, List.mem_cons, List.not_mem_nil, or_false] at hq
  rcases hq with rfl | rfl
  · exact rowS_ok hx (by omega) fun j hj => by rw [nm_val, Nat.zero_add]; exact hX j hj
  · exact rowS_okQ hx (by omega) fun j hj => hU j hj
theorem shRowsB_ok {ν : Nat → Int} {xx : AV} {ny : Gl} {n : Nat} {z : Wd} (hX : ∀ j, j < 32 → ν (400 + j) = sum256 z n j) (hU : ∀ j, j < 64 → ν (500 + j) = sum256Q z n j) (hx : IsText ν ny xx n z) (hn : n < 100000) : ∀ q ∈ shRowsB xx ny, q.Ok ν Tryd.prog glS := by
  intro q hq
  simp only [shRowsB, List.mem_cons, List.not_mem_nil, or_false] at hq
  rcases hq with rfl | rfl
  · exact rowS_ok hx (by omega) fun j hj => hX j hj
  · exact rowS_okQ hx (by omega) fun j hj => hU j hj
theorem zRows_ok {ν : Nat → Int} {X U : Wd} (hX : ∀ j, j < 32 → ν j = X j) (hU : ∀ j, j < 64 → ν (100 + j) = U j) : ∀ q ∈ zRows, q.Ok ν Tryd.prog glS := by
  intro q hq
  simp only [zRows, List.mem_cons, List.not_mem_nil, or_false] at hq
  rcases hq with rfl | rfl | rfl
  · exact rowEq_ok (outB_textG hX (by simp)) (outB_textG hX (by simp)) (by decide) (by decide)
  · exact rowEq_ok (outC_textG hU (by simp)) (outC_textG hU (by simp)) (by decide) (by decide)
  · exact rowWk_ok
end
theorem al_call {w : World} {va vb : Value} {s u : Hd} {n m r : Nat} {z zb : Wd} {pa pb : Option Pl} (hw : Laid glS w) (ha : Came w va s n z pa) (hb : Came w vb u m zb pb) (h1 : n ≤ 3000) (h2 : m ≤ 3000) (h3 : r ≤ 200) :
    Calls Tryd.prog 5 #[va, vb, .int .i64 (r : Int)] w fun e w' => e = .returned (.bool true) ∧ Below w.heap.size w w' := by
  have hs := ha.fits
  have hu := hb.fits
  let gp : Nat → Option Pl := fun b => if b = 64 then pa else if b = 65 then pb else none
  let ν0 := nuAl n m r z zb 0 (n + r) 0 (g77 0)
  obtain ⟨va1, ga1⟩ := ha.here (ν := ν0) (gp := gp) (blk := 64) (T := tg 2) (by decide) rfl ⟨by decide, by decide⟩ (tg_Ke (by decide)) (nuAl_L (by decide)) fun j hj => nuAl_B (by decide) (by omega)
  obtain ⟨vb1, gb1⟩ := hb.here (ν := ν0) (gp := gp) (blk := 65) (T := tg 4) (by decide) rfl ⟨by decide, by decide⟩ (tg_Ke (by decide)) (nuAl_L (by decide)) fun j hj => nuAl_B (by decide) (by omega)
  have start := holdsX_start (N := 89) (ν := ν0) (L := []) (fx := []) (kp := []) (vs := #[va, vb, .int .i64 (r : Int)]) (e0 := (al0 s u).e) (H0 := hA s ++ hBb u) (n0 := 66) glS_ok (w := w) hw gp (by show 3 ≤ 89; decide) (by decide) (fun b hb => by show (if b = 64 then pa else if b = 65 then pb else none) = none; rw [if_neg (by omega), if_neg (by omega)]) (fun p hp => by cases hp)
    (fun p hp => by
      simp only [al0, List.mem_cons, List.not_mem_nil, or_false] at hp
      rcases hp with rfl | rfl | rfl
      · exact ⟨_, rfl, va1⟩
      · exact ⟨_, rfl, vb1⟩
      · exact ⟨_, rfl, vr_i nuAl_r⟩)
    (fun p hp => by
      rcases List.mem_append.1 hp with hp | hp
      · obtain ⟨q1, q2, pl, q3, q4⟩ := ga1 p hp
        exact ⟨by rw [q1]; decide, pl, by rw [q1]; exact q3, q4, fun h => by rw [q2] at h; cases h⟩
      · obtain ⟨q1, q2, pl, q3, q4⟩ := gb1 p hp
        exact ⟨by rw [q1]; decide, pl, by rw [q1]; exact q3, q4, fun h => by rw [q2] at h; cases h⟩)
    (fun p hp => by cases hp)
  refine ((callsX (L := []) (gl := glS) (Q := fun v w' => v = .bool true ∧ Below w.heap.size w w') tab_ok (by kernel_rfl) al_shape start ?_ : (∃ fn, Tryd.prog.funcs[5]? = some fn ∧ fn.body.isSome = true ∧ (fn.name == "runtime.NumGoroutine") = false) ∧ Calls Tryd.prog 5 #[va, vb, .int .i64 (r : Int)] w fun e w' => ∃ v, e = .returned v ∧ (v = .bool true ∧ Below w.heap.size w w'))).2.mono fun e w' ⟨v, he, hv, hB⟩ => ⟨by rw [he, hv], hB⟩
  have hd := al_head s u
  simp only [alHead, Bool.and_eq_true] at hd
  obtain ⟨⟨⟨⟨d1, d2⟩, d3⟩, d4⟩, d5⟩ := hd
  obtain ⟨p1, p2, p3, p4, p5, p6, p7, p8, p9⟩ := al_parts s
  have hn : n + r < 100000 := by omega
  have rA := shRows_ok (ν := ν0) (fun j hj => nuAl_S hj) (fun j hj => nuAl_U hj) (xA_text hs (by omega)) (by omega)
  have rB := shRowsB_ok (ν := ν0) (fun j hj => nuAl_SB hj) (fun j hj => nuAl_UB hj) (xB_text hu (by omega)) (by omega)
  have exit2 : ∀ {b : Nat} {Pre : Act → World → Prop} {x : IC} {Q : Act → World → Prop}, Tri Tryd.prog 89 (.loop x) Pre (fun ex a w => ex = .exit b ∧ Q a w) → Tri Tryd.prog 89 (.block b (.loop x)) Pre fun ex a w => ex = .normal ∧ Q a w := fun h => Tri.block h (fun a w h => by cases h.1) (fun a w h => ⟨rfl, h.2⟩) (fun j a w hj h => by
    have := h.1
    simp only [Ex.exit.injEq] at this
    exact (hj this).elim) (fun a w h => by cases h.1)
  refine seqN (runAl (none_f _) (noM _) d1) (seqN (runAl (fB0_hold hs hu h1 h2 h3) (noM _) d2) (seqN (runAl (none_f _) rA d3) (seqN (runAl (none_f _) rB d4) (seqN (runAl (none_f _) rB d5) (seqN (runAl (fG_hold hs hn) (noM _) p1) (seqN (Mid := HoldsX 89 w (nuAl n m r z zb 0 0 0 (g77 (n + r))) glS [] [] [] (alW false s 6 (pA 6) (.s 301) (nmA 303) 0 [])) ?_ (seqN (Mid := HoldsX 89 w (nuAl n m r z zb 0 0 0 (g77 (n + r))) glS [] [] [] (alW false s (tt s) (pA 6) (.s 301) (nmA 303) 0 [])) ?_ (seqN (Mid := HoldsX 89 w (nuAl n m r z zb 0 0 0 (g77 (n + r))) glS [] [] [] (alW true s (tt s) (pA 6) (.s 301) (nmA 303) 0 [])) ?_ (seqN (Mid := HoldsX 89 w (nuAl n m r z zb (n + r) (n + r) 77 (g77 (n + r))) glS [] [] [] (alW true s (tt s) (.s 302) (.s 301) (nmA 303) 0 [])) ?_ ?_)))))))))
  · -- all that is 77
    refine seqN (Mid := HoldsX 89 w (nuAl n m r z zb 0 0 0 (g77 0)) glS [] [] [] (alW false s 6 (.s 302) (.s 301) (nmA 303) (wdB (n + r)) [(10, sI 302)])) ((runAl (none_f _) (noM _) p2).weak (fun _ _ h => h) fun ex a w' h => ⟨h.1, ?_⟩) ((exit2 (al_loop1 hn)).weak (fun _ _ h => h) fun ex a w' h => ⟨h.1, ?_⟩)
    · refine al_move (by decide) (by decide) rfl hn h.2 (nuAl_A (by decide)) nuAl_i (nuAl_A (by decide)) (by unfold wdB; split <;> omega) (fun j _ _ => rfl) (fun j hj => by omega) (fun j hj => ?_) fun p hp => ?_
      · obtain rfl : j = 0 := by unfold wdB at hj; split at hj <;> omega
        exact nuAl_x.trans (show (0 : Int) = g77 0 (0 + 0) from (if_neg (by omega)).symm)
      · simp only [List.mem_cons, List.not_mem_nil, or_false] at hp
        subst hp
        exact ⟨iN 0, .int .i64 0, List.mem_cons_self, rfl, sI_conc nuAl_i⟩
    · exact al_move (by decide) (by decide) rfl hn h.2 nuAl_i (nuAl_A (by decide)) nuAl_W (by omega) (fun j _ _ => rfl) (fun j hj => by omega) (fun j hj => by omega) fun p hp => by cases hp
  · cases s
    · exact runAl (none_f _) (noM _) p5
    · exact runAl (none_f _) (noM _) p5
    · exact runAl (fK_hold hn hs) (noM _) p5
  · have hX : ∀ j, j < 32 → nuAl n m r z zb 0 0 0 (g77 (n + r)) j = sum256 z n j := fun j hj => nuAl_S hj
    have hU : ∀ j, j < 64 → nuAl n m r z zb 0 0 0 (g77 (n + r)) (100 + j) = sum256Q z n j := fun j hj => nuAl_U hj
    have tx : IsText (nuAl n m r z zb 0 0 0 (g77 (n + r))) (hM s) (sM s) n z := isText_win (t := tt s) List.mem_cons_self tt_pos (tg_Ke tt_even) ((nuAl_A (t := 6) (by decide)).trans (nuAl_A tt_pos).symm) (lA_val hs) (by rw [nuAl_L tt_pos, tt_len]; omega) fun j hj => by rw [nuAl_B tt_pos (by omega)]; exact tt_head hs hj
    exact runAl (fMm_hold hs) (shRows_ok hX hU tx (by omega)) p6
  · refine seqN (Mid := HoldsX 89 w (nuAl n m r z zb n n 77 (g77 (n + r))) glS [] [] [] (alW true s (tt s) (.s 302) (.s 301) (nmA 303) (wdB r) [(13, sI 302)])) ((runAl (none_f _) (noM _) p7).weak (fun _ _ h => h) fun ex a w' h => ⟨h.1, ?_⟩) (exit2 (al_loop2 hs hn))
    refine al_move tt_pos tt_even tt_len hn h.2 (nuAl_A (by decide)) nuAl_i nuAl_W (by unfold wdB; split <;> omega) (fun j _ _ => rfl) (fun j hj => by omega) (fun j hj => ?_) fun p hp => ?_
    · have hj1 : j < 1 ∧ 0 < r := by unfold wdB at hj; split at hj <;> omega
      obtain rfl : j = 0 := by omega
      exact nuAl_x.trans (tt_tail hs (by omega) (by omega)).symm
    · simp only [List.mem_cons, List.not_mem_nil, or_false] at hp
      subst hp
      exact ⟨.i .i64 (lA s), .int .i64 n, List.mem_cons_self, by show some (Value.int .i64 ((lA s).val _)) = _; rw [lA_val hs], sI_conc nuAl_i⟩
  · exact (runAl (none_f _) (zRows_ok (X := sum256 z n) (U := sum256Q z n) (fun j hj => nuAl_S hj) (fun j hj => nuAl_U hj)) (al_end s)).weak (fun _ _ h => h) fun ex a w' h => ⟨.inr h.1, _, alY, .b true, [], [], h.2, al_res, fun ρ v _ _ _ hB hv => ⟨by cases hv; rfl, ⟨hB.os, hB.tape, hB.output, hB.size, fun k hk => hB.block k hk fun p hp => by cases hp⟩⟩⟩
/-! what is not played -/
noncomputable def alNo (s u : Hd) (l : List Cm) : Bool := saysB ⟨[], l, []⟩ tree [] glS [] [] (s.gl0 64 ++ u.gl0 65) 66 60 4 5 [s.av0 64 300, u.av0 65 301, sI 302] (.b true)
def cA (b : Bool) : Cm := (.gtr, .s 300, nA 3000, b)
def cB (b : Bool) : Cm := (.gtr, .s 301, nA 3000, b)
def cR (b : Bool) : Cm := (.lss, .s 302, .c 0, b)
def cQ (b : Bool) : Cm := (.gtr, .s 302, nA 200, b)
theorem al_no1 : ∀ u, alNo .c u [cA true] = true := by intro u; cases u <;> kernel_rfl
theorem al_no2 : ∀ s, alNo s .c [cA false, cB true] = true := by intro s; cases s <;> kernel_rfl
theorem al_no3 : ∀ s u, alNo s u [cA false, cB false, cR true] = true := by intro s u; cases s <;> cases u <;> kernel_rfl
theorem al_no4 : ∀ s u, alNo s u [cA false, cB false, cR false, cQ true] = true := by intro s u; cases s <;> cases u <;> kernel_rfl
def nu3 (a b r : Int) : Nat → Int := fun k => if k = 300 then a else if k = 301 then b else r
theorem shaAlone_law {W : World} (hL : Laid glS W) {va : Value} {za : List Int} (hva : ReadsAs W .u8 va za) (hwa : ∀ z ∈ za, (Lit.int .u8 z).wf = true) {vb : Value} {zb : List Int} (hvb : ReadsAs W .u8 vb zb) (hwb : ∀ z ∈ zb, (Lit.int .u8 z).wf = true) (r : Int) (_ : (Lit.int .i64 r).wf = true) :
    Calls Tryd.prog 5 #[va, vb, .int .i64 r] W fun e W' => e = .returned (.bool true) ∧ Below W.heap.size W W' := by
  obtain ⟨s, n, pa, ha, _⟩ := came_of hva hwa
  obtain ⟨u, m, pb, hb, _⟩ := came_of hvb hwb
  have bad : ∀ l : List Cm, alNo s u l = true → (∀ p ∈ l, compare p.1 (p.2.1.val (nu3 n m r)) (p.2.2.1.val (nu3 n m r)) = p.2.2.2) → Calls Tryd.prog 5 #[va, vb, .int .i64 r] W fun e W' => e = .returned (.bool true) ∧ Below W.heap.size W W' := fun l hgo hl => by
    let gp : Nat → Option Pl := fun b => if b = 64 then pa else if b = 65 then pb else none
    obtain ⟨va1, ga1⟩ := ha.here0 (ν := nu3 n m r) (gp := gp) (blk := 64) (k := 300) (by decide) rfl rfl
    obtain ⟨vb1, gb1⟩ := hb.here0 (ν := nu3 n m r) (gp := gp) (blk := 65) (k := 301) (by decide) rfl rfl
    refine yes_ofN (ν := nu3 n m r) (ρ := embF gp) (law_rowN glS_ok (by decide) ⟨fun p hp => (by cases hp), hl, fun p hp => by cases hp⟩ (fun q hq => by cases hq) hgo (fun p hp => (List.mem_append.1 hp).elim (gl0_need (by decide) p) (gl0_need (by decide) p)) ?_) hL (fun p hp => (List.mem_append.1 hp).elim (ga1 p) (gb1 p)) (lr_of (vs := [va, vb, .int .i64 r]) ⟨va1, vb1, .i .i64 (.s 302), trivial⟩)
    cases s <;> cases u <;> rfl
  by_cases c1 : 3000 < n
  · have hsc : s = .c := by
      have := ha.fits
      cases s
      · have h9 : n = 0 := this
        omega
      · have h9 : n = 0 := this
        omega
      · rfl
    subst hsc
    refine bad _ (al_no1 u) fun p hp => ?_
    simp only [List.mem_cons, List.not_mem_nil, or_false] at hp
    subst hp
    exact decide_eq_true (show (n : Int) > ((3000 : Nat) : Int) by omega)
  have f1 : compare (cA false).1 ((cA false).2.1.val (nu3 n m r)) ((cA false).2.2.1.val (nu3 n m r)) = (cA false).2.2.2 := decide_eq_false (show ¬ (n : Int) > ((3000 : Nat) : Int) by omega)
  by_cases c2 : 3000 < m
  · have huc : u = .c := by
      have := hb.fits
      cases u
      · have h9 : m = 0 := this
        omega
      · have h9 : m = 0 := this
        omega
      · rfl
    subst huc
    refine bad _ (al_no2 s) fun p hp => ?_
    simp only [List.mem_cons, List.not_mem_nil, or_false] at hp
    rcases hp with rfl | rfl
    · exact f1
    · exact decide_eq_true (show (m : Int) > ((3000 : Nat) : Int) by omega)
  have f2 : compare (cB false).1 ((cB false).2.1.val (nu3 n m r)) ((cB false).2.2.1.val (nu3 n m r)) = (cB false).2.2.2 := decide_eq_false (show ¬ (m : Int) > ((3000 : Nat) : Int) by omega)
  by_cases c3 : r < 0
  · refine bad _ (al_no3 s u) fun p hp => ?_
    simp only [List.mem_cons, List.not_mem_nil, or_false] at hp
    rcases hp with rfl | rfl | rfl
    · exact f1
    · exact f2
    · exact decide_eq_true c3
  by_cases c4 : 200 < r
  · refine bad _ (al_no4 s u) fun p hp => ?_
    simp only [List.mem_cons, List.not_mem_nil, or_false] at hp
    rcases hp with rfl | rfl | rfl | rfl
    · exact f1
    · exact f2
    · exact decide_eq_false c3
    · exact decide_eq_true (show r > ((200 : Nat) : Int) by omega)
  obtain ⟨k, rfl⟩ : ∃ k : Nat, r = (k : Int) := ⟨r.toNat, by omega⟩
  exact al_call hL ha hb (by omega) (by omega) (by omega)

abbrev shaAloneLaid : List (String × DataW Unit) := Rows.shaAloneRow.laid
theorem shaAlone_met (os : Os) (args : Array Value) : laidMetH Tryd.prog shaAloneLaid ((World.doorLaid Tryd.prog 400 os).forCall (fun _ _ => 0) ⟨#[], args, []⟩).memory :=
  laidMetH_of_parts3 (fuel := 8) (laidMet_of_run' 8 (by kernel_rfl) (by kernel_rfl)) (by kernel_rfl) (by kernel_rfl)

theorem shaAlone_lifted (os : Os) (started : os.Started) (H : Type) (enc : TypeId × Value → H) :
    ReturnsInHanded {} Tryd.checked os 5 .any (fun w args => (Rows.shaAloneSpec.pre enc Tryd.prog Tryd.f5 [] false w args ∧ laidMetH Tryd.prog shaAloneLaid w) ∧ sizedMet enc Tryd.prog Tryd.f5 (OpenSpec.ofChange Rows.shaAloneSpec) false w args)
      (Rows.shaAloneSpec.post enc Tryd.prog Tryd.f5 false true false false) := by
  refine returnsInHanded_of_change_and (C := Tryd.checked) (X := fun w _ => laidMetH Tryd.prog shaAloneLaid w) (fun _ _ _ hh h => h.of_heap hh) own started (by kernel_rfl) Tryd.func5
    (ChangeSpec.witness_shaped (enc := enc) (C := Tryd.checked) (os := os) (X := fun w _ => laidMetH Tryd.prog shaAloneLaid w) false (World.doorLaid Tryd.prog 400 os) #[.slice none 0 0, .slice none 0 0, .int .i64 0] 8 rfl (World.shaped_of_RefB (by kernel_rfl) (by kernel_rfl)) (by kernel_rfl) (by kernel_rfl) (by kernel_rfl) (shaAlone_met os _)) ?_
  intro W base args ds gs before hval0 hW _ _ hL _
  have hval : ∀ (j : Nat) t v, Tryd.f5.params[j]? = some t → args[j]? = some v → Value.okWide Tryd.prog W .any base t v := hval0
  have hW' := hW
  obtain ⟨p, q, hA0, hV, rfl, hfz, hnd⟩ := hW
  have hA : DataW.TrodAll enc Tryd.prog W 0 (fun _ => true) true Tryd.f5.params.toList args.toList ds p := hA0
  rw [Tryd.params5] at hA hval
  obtain ⟨v0, vs0, d0, ds0, p0, q0, hargs, rfl, rfl, h0, r0⟩ := trodAll_cons hA
  obtain ⟨v1, vs1, d1, ds1, p1, q1, rfl, rfl, rfl, h1, r1⟩ := trodAll_cons r0
  obtain ⟨v2, vs2, d2, ds2, p2, q2, rfl, rfl, rfl, h2, r2⟩ := trodAll_cons r1
  obtain ⟨rfl, rfl, rfl⟩ := trodAll_nil r2
  obtain rfl : args = #[v0, v1, v2] := by cases args; simp_all
  obtain ⟨rfl, rfl⟩ := trodVars_none hV
  obtain ⟨z0, k0, w0, _⟩ := reads_open Tryd.underlying22 Tryd.underlying5 cells1 (hval 0 _ v0 rfl rfl) h0
  obtain ⟨z1, k1, w1, _⟩ := reads_open Tryd.underlying22 Tryd.underlying5 cells1 (hval 1 _ v1 rfl rfl) h1
  obtain ⟨a2, rfl, rfl, rfl, b2⟩ := open_int Tryd.underlying3 (hval 2 _ v2 rfl rfl) h2
  have s2 := plain_int (H := H) Tryd.underlying3 b2
  clear hA0 hval0
  simp only [List.append_nil, List.nil_append] at hW'
  have hlt : ∀ x ∈ p0 ++ p1, x.block < W.heap.size := fun x hx => hW'.lt x hx
  refine (shaAlone_law (laidS hL) k0 w0 k1 w1 a2 b2).mono fun e W' ⟨he, hg⟩ => ?_
  subst he
  exact ⟨_, rfl, post_below (pa := p0 ++ p1) (pv := []) hW' (fun _ _ _ => trodAll_cons_mk (shut_bool Tryd.underlying4 _) trodAll_mk0) (fun sp hsp => (by have hh := (trodAll_cons_mk (kept_arg laidOut (by kernel_rfl) (of_decide_eq_true (by kernel_rfl)) h0 hg (fun x hx => hlt x (by simp [hx])) (fun x hx => hsp x (by simp [hx]))) (trodAll_cons_mk (kept_arg laidOut (by kernel_rfl) (of_decide_eq_true (by kernel_rfl)) h1 hg (fun x hx => hlt x (by simp [hx])) (fun x hx => hsp x (by simp [hx]))) (trodAll_cons_mk (s2 _ _ _ _ _) trodAll_mk0))); simp only [List.append_nil] at hh; exact hh)) (fun _ _ => rfl) (by simp)
    hg (ok_one (by kernel_rfl) rfl (okWide_bool_mk Tryd.underlying4 _))⟩

theorem shaAlone_over : Rows.ShaAloneSaid :=
  OpenClaim.holds_of_wide 5 Tryd.f5 rfl rfl rfl rfl rfl rfl rfl ⟨rfl, rfl, rfl, rfl, rfl⟩ rfl rfl rfl rfl rfl (by kernel_rfl) Tryd.func5 (by kernel_rfl)
    (of_decide_eq_true (by kernel_rfl)) (by unfold Func.isWrapper; first | (rw [if_pos (by decide +kernel)]; kernel_rfl) | (rw [if_neg (by decide +kernel)]; exact ⟨rfl, rfl⟩))
    (fun os started H enc _ => shaAlone_lifted os started H enc)

/-- THE STATEMENT. -/
theorem shaAlone_holds : Rows.ShaAloneCardSaid :=
  Claim7.holds_tied_plain_at .later [] [.data, .data, .data, .data] true (true, "eacd4a9b634becba1168d16158cd96469b7c30e91a6ec0f5f91653d0d1963b9e") false
    shaAlone_over (fun _ h => by cases h) (by kernel_rfl) (fun _ h => by cases h) shaAlone_row_tie rfl ⟨rfl, rfl⟩ (by kernel_rfl) rfl
    (fun f fn hf hfn => by
      obtain rfl : f = 5 := Option.some.inj ((show Tryd.prog.funcNamed "tryst/trystlaw01.ShaAlone" = some 5 by kernel_rfl).symm.trans hf) |>.symm
      obtain rfl : fn = Tryd.f5 := (Option.some.inj (Tryd.func5.symm.trans hfn)).symm
      exact ⟨by kernel_rfl, fun j t ht => by
        rw [Tryd.params5] at ht
        have hm : t ∈ [22, 22, 3] := by simpa using Array.mem_of_getElem? ht
        have hall : ([22, 22, 3].all fun u => !Tryd.prog.wantsStandIn u) = true := by kernel_rfl
        exact (show Tryd.prog.wantsStandIn t = false by simpa using List.all_eq_true.1 hall t hm)⟩)
    (by kernel_rfl)
#print axioms shaAlone_holds
end Go.Proofs.YtjdcaipgfolgoaaDoor
