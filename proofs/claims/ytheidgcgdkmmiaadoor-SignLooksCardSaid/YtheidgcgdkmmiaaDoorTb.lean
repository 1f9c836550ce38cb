/-
 sha.words512: what it answers. Own work.
-/
import Derived.Test.YtheidgcgdkmmiaaDoorSq
namespace Go.Proofs.YtheidgcgdkmmiaaDoor
open Go.Sh
open Go.ChangeShapes Go.WideShapes Go.RowKit
set_option maxRecDepth 100000
/-! its pieces -/
def wd2Q : IC := t99.body
def wd2AQ : IC := wd2Q.sub [false]
def wd2BQ : IC := wd2Q.sub [true, false]
def wd2CQ : IC := wd2Q.sub [true, true, false]
def wd2DQ : IC := wd2Q.sub [true, true, true, false, false]
def wd2RQ : IC := wd2Q.sub [true, true, true, false, true, false, false]
def wd2EQ : IC := wd2Q.sub [true, true, true, true]
theorem wd2_shapeQ : t99 = ⟨.seq wd2AQ (.seq wd2BQ (.seq wd2CQ (.seq (.seq wd2DQ (.block 4 (.loop wd2RQ))) wd2EQ))), [.c 2 (some 80)], 82⟩ := by kernel_rfl
def eWQ : Nat := 84
theorem eW_ltQ : eWQ < qac := by decide
def byBQ : Nat × ABlk := (64, ⟨rowC .u8 (fun j => .s j) 128, 0, false⟩)
def or8A (x : AI) (i : Nat) : AI := .e .or .u64 (.e .shl .u64 x (nA 8)) (.w .u64 (.s i))
def word4AQ (j : Nat) : AI := or8A (or8A (or8A (or8A (or8A (or8A (or8A (.e .or .u64 (.c 0) (.w .u64 (.s (8 * j)))) (8 * j + 1)) (8 * j + 2)) (8 * j + 3)) (8 * j + 4)) (8 * j + 5)) (8 * j + 6)) (8 * j + 7)
def w0AQ (j : Nat) : AI := if Nat.blt j 16 then word4AQ j else .c 0
def nowWQ (f : Nat → AI) (l : List (Nat × AV)) : Now := ⟨l ++ [(2, .p 65 0), (3, .p 66 0)], [byBQ, (65, ⟨rowC .u64 zeroA 80, eWQ, true⟩), (66, ⟨rowC .u64 f 80, eWQ, true⟩)], 67⟩
def now65Q : Now := ⟨[(0, .sl 64 0 (nA 128) .any)], [byBQ], 65⟩
def now66Q : Now := ⟨[(0, .sl 64 0 (nA 128) .any), (2, .p 65 0)], [byBQ, (65, ⟨rowC .u64 zeroA 80, eWQ, true⟩)], 66⟩
theorem wd2_goAQ : qaF qae tree [] [] [] [] [] 60 2 wd2AQ now65Q .normal now66Q = true := by kernel_rfl
theorem wd2_goBQ : qaF qae tree [] [] [] [] [] 60 2 wd2BQ now66Q .normal (nowWQ zeroA [(0, .sl 64 0 (nA 128) .any)]) = true := by kernel_rfl
theorem wd2_goCQ : qaF qae tree [] [] [] [] [] 60 2 wd2CQ (nowWQ zeroA [(0, .sl 64 0 (nA 128) .any)]) .normal (nowWQ w0AQ []) = true := by kernel_rfl
theorem wd2_goDQ : qaF qae tree [] [] [] [] [] 60 2 wd2DQ (nowWQ w0AQ []) .normal (nowWQ w0AQ [(7, iN 16)]) = true := by kernel_rfl
noncomputable def wd2GoQ (k : Nat) : Bool := qaF qae tree [] [] [] [] [] 60 3 wd2RQ (nowWQ (nmA 200) [(7, iN (16 + k))]) .normal (nowWQ (setA (nmA 200) (16 + k) (wA p512 (16 + k) 200)) [(7, iN (16 + k + 1))])
theorem wd2_goesQ : (List.range 64).all wd2GoQ = true := by kernel_rfl
theorem wd2_endsQ : qaF qae tree [] [] [] [] [] 60 3 wd2RQ (nowWQ (nmA 200) [(7, iN 80)]) (.exit 4) (nowWQ (nmA 200) []) = true := by kernel_rfl
def now2EQ : Now := ⟨[(2, .p 65 0)], [byBQ, (65, ⟨rowC .u64 (nmA 200) 80, eWQ, true⟩)], 67⟩
theorem wd2_goEQ : qaF qae tree [] [] [] [] [] 60 3 wd2EQ (nowWQ (nmA 200) []) .ret now2EQ = true := by kernel_rfl
def nuWQ (m W : Wd) : Nat → Int := two (fun j => if j < 128 then m j else 0) 200 W
def w0IQ (m : Wd) : Wd := fun j => (w0AQ j).val m
theorem nuW_loQ {m W : Wd} {j : Nat} (h : j < 128) : nuWQ m W j = m j := by
 unfold nuWQ
 rw [qbq (by omega), if_pos h]
theorem nuW_hiQ {m W : Wd} (j : Nat) : nuWQ m W (200 + j) = W j := two_hi j
theorem word4_sameQ {ν ν' : Nat → Int} {j : Nat} (h : ∀ i, i < 128 → ν i = ν' i) (hj : j < 16) : (word4AQ j).val ν = (word4AQ j).val ν' := by
 simp only [word4AQ, or8A, nA, AI.val]
 rw [h _ (by omega), h _ (by omega), h _ (by omega), h _ (by omega), h _ (by omega), h _ (by omega), h _ (by omega), h _ (by omega)]
theorem w0A_sameQ {ν ν' : Nat → Int} {j : Nat} (h : ∀ i, i < 128 → ν i = ν' i) : (w0AQ j).val ν = (w0AQ j).val ν' := by
 unfold w0AQ
 split
 ·rename_i hj
  exact word4_sameQ h (by simpa using hj)
 ·rfl
section
variable {w0 : World} {m : Wd} {L fx : List (Nat × Pl)} {kp : List (Nat × Obj)}
theorem get64Q (f : Nat → AI) (l : List (Nat × AV)) : (qam ((nowWQ f l).H ++ []) 67).get 64 = some byBQ.2 := by kernel_rfl
theorem get65Q (f : Nat → AI) (l : List (Nat × AV)) : (qam ((nowWQ f l).H ++ []) 67).get 65 = some ⟨rowC .u64 zeroA 80, eWQ, true⟩ := by kernel_rfl
theorem get66Q (f : Nat → AI) (l : List (Nat × AV)) : (qam ((nowWQ f l).H ++ []) 67).get 66 = some ⟨rowC .u64 f 80, eWQ, true⟩ := by kernel_rfl
theorem wd2_namedQ {f : Nat → AI} {W W' : Wd} {t : Nat} {a : Act} {w : World} (hfx : ∀ p ∈ fx, p.1 < 67) (h : HoldsX 82 w0 (nuWQ m W) [] L fx kp (nowWQ f [(7, iN t)]) a w) (hf : ∀ j, j < 80 → (f j).val (nuWQ m W) = W' j) : HoldsX 82 w0 (nuWQ m W') [] L fx kp (nowWQ (nmA 200) [(7, iN t)]) a w := by
 refine renumX (P := Tryd.prog) qbG h (by decide) hfx (fun p hp => ⟨p.2, hp, ?_⟩) fun p hp => ?_
 ·simp only [List.mem_append, List.mem_cons, List.not_mem_nil, or_false] at hp
  rcases hp with rfl | rfl | rfl
  ·exact qaT.conc (u := .int .i64 t) rfl rfl
  ·exact qaT.p _ (by decide) rfl
  ·exact qaT.p _ (by decide) rfl
 ·simp only [List.mem_cons, List.not_mem_nil, or_false] at hp
  rcases hp with rfl | rfl | rfl
  ·exact ⟨by decide, by decide, _, get64Q f [], rfl, qaS (by decide) fun j hj => (nuW_loQ hj).trans (nuW_loQ hj).symm⟩
  ·exact ⟨by decide, by decide, _, get65Q f [], rfl, qaS eW_ltQ fun j hj => rfl⟩
  ·exact ⟨by decide, by decide, _, get66Q f [], rfl, qaS eW_ltQ fun j hj => (hf j hj).trans (nuW_hiQ j).symm⟩
theorem wA_valQ (p : Pr) (m W : Wd) (t : Nat) : (wA p t 200).val (nuWQ m W) = wI p W t := by
 show adI p (adI p (adI p (sgI p p.s1 (nuWQ m W (200 + (t - 2)))) (nuWQ m W (200 + (t - 7)))) (sgI p p.s0 (nuWQ m W (200 + (t - 15))))) (nuWQ m W (200 + (t - 16))) = _
 rw [nuW_hiQ, nuW_hiQ, nuW_hiQ, nuW_hiQ]
 rfl
theorem wd2_loopQ (hfx : ∀ p ∈ fx, p.1 < 67) : Tri Tryd.prog 82 (.loop wd2RQ) (fun a w => HoldsX 82 w0 (nuWQ m (wst p512 (w0IQ m) 0)) [] L fx kp (nowWQ (nmA 200) [(7, iN 16)]) a w) fun ex a w => ex = .exit 4 ∧ HoldsX 82 w0 (nuWQ m (wst p512 (w0IQ m) 64)) [] L fx kp (nowWQ (nmA 200) []) a w := by
 have key := Tri.loop (P := Tryd.prog) (N := 82) (x := wd2RQ) (J := fun i a w => i ≤ 64 ∧ HoldsX 82 w0 (nuWQ m (wst p512 (w0IQ m) (64 - i))) [] L fx kp (nowWQ (nmA 200) [(7, iN (80 - i))]) a w) (Post := fun ex a w => ex = .exit 4 ∧ HoldsX 82 w0 (nuWQ m (wst p512 (w0IQ m) 64)) [] L fx kp (nowWQ (nmA 200) []) a w) 64 ?_ ?_
 ·exact key.weak (fun a w h => ⟨Nat.le_refl _, h⟩) (fun _ _ _ h => h)
 ·intro i c hc a w ⟨hi, hp⟩
  have e1 : 80 - (i + 1) = 16 + (64 - (i + 1)) := by omega
  have e2 : 16 + (64 - (i + 1)) + 1 = 80 - i := by omega
  have e3 : 64 - i = 64 - (i + 1) + 1 := by omega
  rw [e1] at hp
  have hg : wd2GoQ (64 - (i + 1)) = true := List.all_eq_true.1 wd2_goesQ _ (List.mem_range.2 (by omega))
  refine ((Tri.runX (L := L) (fx := fx) (kp := kp) (w0 := w0) (qaP _) qak qaf qbG (fun r hr => by cases hr) (fun r hr => by cases hr) (fun r hr => by cases hr) (fun r hr => by cases hr) hg).weak (fun _ _ h => h) (fun ex a w h => ?_)) c hc a w hp
  refine .inl ⟨h.1, by omega, ?_⟩
  have h2 := h.2
  rw [e2] at h2
  rw [e3]
  refine wd2_namedQ hfx h2 fun j hj => ?_
  unfold setA
  show _ = if j = 16 + (64 - (i + 1)) then _ else _
  by_cases hq : j = 16 + (64 - (i + 1))
  ·rw [if_pos hq, if_pos (by rw [hq]; exact Nat.beq_refl _)]
   exact wA_valQ _ _ _ _
  ·rw [if_neg hq, if_neg (fun h => hq (Nat.eq_of_beq_eq_true h))]
   exact nuW_hiQ j
 ·refine (Tri.runX (i := nowWQ (nmA 200) [(7, iN 80)]) (qaP _) qak qaf qbG (fun r hr => by cases hr) (fun r hr => by cases hr) (fun r hr => by cases hr) (fun r hr => by cases hr) wd2_endsQ).weak (fun a w h => h.2) (fun ex a w h => ⟨by rw [h.1]; simp, h.1, h.2⟩)
end
theorem words256_okQ {w : World} {cb o c : Nat} {m : Wd} (hb : qaZ w .u8 cb o 128 m) (hc : 128 ≤ c) :
  (∃ fn, Tryd.prog.funcs[99]? = some fn ∧ fn.body.isSome = true ∧ (fn.name == "runtime.NumGoroutine") = false) ∧
  Calls Tryd.prog 99 #[.slice (some ⟨cb, o, none⟩) 128 c] w fun e w' => e = .returned (aggI .u64 80 (wst p512 (w0IQ m) 64)) ∧ Below w.heap.size w w' := by
 have hbr : BR (nuWQ m (w0IQ m)) (embF (at1 64 ⟨cb, o, 0⟩)) w byBQ.2 ⟨cb, o, 0⟩ := hb.br (by decide) fun j hj => nuW_loQ hj
 have start := qa2 (N := 82) (ν := nuWQ m (w0IQ m)) (L := []) (fx := []) (kp := []) (vs := #[.slice (some ⟨cb, o, none⟩) 128 c]) (e0 := now65Q.e) (H0 := now65Q.H) (n0 := 65) qbG (w := w) (fun p hp => by cases hp) (at1 64 ⟨cb, o, 0⟩) (by show 1 ≤ 82; decide) (by decide) (fun b hb => at1_none (by omega)) (fun p hp => by cases hp)
  (fun p hp => by
   simp only [now65Q, List.mem_cons, List.not_mem_nil, or_false] at hp
   subst hp
   exact ⟨_, rfl, .sl 64 0 _ .any ⟨cb, o, 0⟩ 128 c (at1_at (by decide)) rfl trivial hc⟩)
  (fun p hp => by
   simp only [now65Q, List.mem_cons, List.not_mem_nil, or_false] at hp
   subst hp
   exact ⟨by decide, _, if_pos rfl, hbr, fun h => by cases h⟩)
  (fun p hp => by cases hp)
 refine And.imp id (fun h2 => h2.mono fun e w' ⟨v, he, hv, hBQ⟩ => ⟨by rw [he, hv], hBQ⟩) (callsX (L := []) (gl := []) (Q := fun v w' => v = aggI .u64 80 (wst p512 (w0IQ m) 64) ∧ Below w.heap.size w w') qaf (by kernel_rfl) wd2_shapeQ start ?_)
 have run : ∀ {ic : IC} {i o : Now} {ex : Ex} {d : Nat}, qaF qae tree [] [] [] [] [] 60 d ic i ex o = true → ∀ ν, Tri Tryd.prog 82 ic (HoldsX 82 w ν [] [] [] [] i) fun ex' a w' => ex' = ex ∧ HoldsX 82 w ν [] [] [] [] o a w' := fun h ν =>
  Tri.runX (qaP _) qak qaf qbG (fun r hr => by cases hr) (fun r hr => by cases hr) (fun r hr => by cases hr) (fun r hr => by cases hr) h
 refine seqN (run wd2_goAQ _) (seqN (run wd2_goBQ _) (seqN (run wd2_goCQ _) (seqN (Mid := HoldsX 82 w (nuWQ m (wst p512 (w0IQ m) 64)) [] [] [] [] (nowWQ (nmA 200) [])) ?_ ?_)))
 ·refine seqN (Mid := HoldsX 82 w (nuWQ m (wst p512 (w0IQ m) 0)) [] [] [] [] (nowWQ (nmA 200) [(7, iN 16)])) ((run wd2_goDQ _).weak (fun _ _ h => h) fun ex a w' h => ⟨h.1, wd2_namedQ (fun p hp => by cases hp) h.2 fun j hj => w0A_sameQ fun i hi => nuW_loQ hi⟩) ?_
  refine Tri.block (wd2_loopQ fun p hp => by cases hp) (fun a w h => by cases h.1) (fun a w h => ⟨rfl, h.2⟩) (fun j a w hj h => ?_) (fun a w h => by cases h.1)
  have := h.1
  simp only [Ex.exit.injEq] at this
  exact (hj this).elim
 ·refine (run wd2_goEQ _).weak (fun _ _ h => h) fun ex a w' h => ⟨.inr h.1, _, now2EQ, .ag (rowC .u64 (nmA 200) 80), [], [], h.2, by kernel_rfl, fun ρ v _ _ _ hBQ hv => ?_⟩
  have hc : qag (nuWQ m (wst p512 (w0IQ m) 64)) (.ag (rowC .u64 (nmA 200) 80)) = some (aggI .u64 80 (wst p512 (w0IQ m) 64)) := by
   rw [conc2_row]
   exact congrArg some (aggI_congr fun j _ => nuW_hiQ j)
  exact ⟨(qaK hc).2 v hv, ⟨hBQ.os, hBQ.tape, hBQ.output, hBQ.size, fun k hk => hBQ.block k hk fun p hp => by cases hp⟩⟩
end Go.Proofs.YtheidgcgdkmmiaaDoor
