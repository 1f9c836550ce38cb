/-
  ChachaMixes: for all its arguments the law returns true. Conditions: none.
-/
import Derived.Test.YtakegcfpbacefaaQj
namespace Go.Proofs.Ytakegcfpbacefaa
open Go.Sh
open Go.ChangeShapes Go.WideShapes Go.ChangeAt Go.RowKit
set_option maxRecDepth 100000

def mx : IC := t5.body
def mxA : IC := mx.sub [false]
def mxB : IC := mx.sub [true, false]
def mxC : IC := mx.sub [true, true, false]
def mxD : IC := mx.sub [true, true, true, false]
def mxE : IC := mx.sub [true, true, true, true, false]
def mxI : IC := mx.sub [true, true, true, true, true, false, false]
def mxR : IC := mx.sub [true, true, true, true, true, false, true, false, false]
def mxZ : IC := mx.sub [true, true, true, true, true, true]
theorem mx_shape : t5 = ⟨.seq mxA (.seq mxB (.seq mxC (.seq mxD (.seq mxE (.seq (.seq mxI (.block 0 (.loop mxR))) mxZ))))), [.t 10], 90⟩ := by kernel_rfl
def bk6 : Nat × ABlk := (66, ⟨rowC .u8 (nmA 0) 32, e32, true⟩)
def bn7 : Nat × ABlk := (67, ⟨rowC .u8 (nmA 32) 12, e12, true⟩)
def lA (t : Nat) : AI := .s (pinL (tg t))
def mx0 : Now := ⟨[(0, kyS), (1, ctS), (2, noS), (3, ps 64 2), (4, ps 65 4)], [pn 64 2, pn 65 4], 66⟩
def mx1 (l : List (Nat × AV)) : Now := ⟨l ++ [(1, ctS), (3, ps 64 2), (4, ps 65 4), (5, .p 66 0), (7, .p 67 0)], [pn 64 2, pn 65 4, bk6, bn7], 68⟩
def mMin (q : Bool) : AV := .i .i64 (if q then lA 4 else lA 2)
def mx2 (q : Bool) (l : List (Nat × AV)) : Now := ⟨l ++ [(1, ctS), (3, ps 64 2), (4, ps 65 4), (5, .p 66 0), (7, .p 67 0), (11, mMin q), (12, ps 68 6), (13, ps 69 8)], [pn 64 2, pn 65 4, bk6, bn7, pn 68 6, pn 69 8], 70⟩
def mxRows : List RowM := [rowXor 10 (nmA 0) (nmA 32) (.s 44) (ps 64 2) [pn 64 2] (tg 6), rowXor 10 (nmA 0) (nmA 32) (.s 44) (ps 65 4) [pn 65 4] (tg 8)]
def fMx (q : Bool) : Facts := ⟨[], [(.gtr, lA 2, nA 2000, false), (.gtr, lA 4, nA 2000, false), (.lss, lA 4, lA 2, q), (.neq, lA 6, lA 2, false), (.neq, lA 8, lA 4, false)], []⟩
noncomputable def mxHead (q : Bool) : Bool := goesX noFacts tree [] [] [] [] [] 60 4 mxA mx0 .normal (mx1 []) && (goesX (fMx q) tree [] [] [] [] [] 60 4 mxB (mx1 []) .normal (mx1 []) && (goesX (fMx q) tree [] [] [] [] [] 60 4 mxC (mx1 []) .normal (mx1 [(11, mMin q)]) && (goesX (fMx q) tree [] [] [] mxRows [] 60 4 mxD (mx1 [(11, mMin q)]) .normal (mx2 q []) && (goesX (fMx q) tree [] [] [] [] [] 60 4 mxE (mx2 q []) .normal (mx2 q []) && goesX (fMx q) tree [] [] [] [] [] 60 4 mxI (mx2 q []) .normal (mx2 q [(14, iN 0)])))))
theorem mx_head : ∀ q, mxHead q = true := by intro q; cases q <;> kernel_rfl
def wM (b wd l : Nat) : AV := .slw b 1 (.s 303) wd (.s l) .any
def mxF (wd : Nat) (i : AI) : Now := ⟨[(1, ctS), (3, wM 64 wd 301), (4, wM 65 wd 302), (5, .p 66 0), (7, .p 67 0), (11, sI 304), (12, wM 68 wd 301), (13, wM 69 wd 302), (14, .i .i64 i)], [wT 64 2 400 wd false, wT 65 4 401 wd false, bk6, bn7, wT 68 6 402 wd false, wT 69 8 403 wd false], 70⟩
def fMr : Facts := ⟨[], [(.lss, .s 303, .s 304, true), (.neq, .e .xor .u8 (.s 402) (.s 403), .e .xor .u8 (.s 400) (.s 401), false)], []⟩
theorem mx_goR : goesX fMr tree [] [] [] [] [] 60 4 mxR (mxF 1 (.s 303)) .normal (mxF 1 (.e .add .i64 (.s 303) (nA 1))) = true := by kernel_rfl
theorem mx_goRe : goesX ⟨[], [(.lss, .s 303, .s 304, false)], []⟩ tree [] [] [] [] [] 60 4 mxR (mxF 0 (.s 303)) (.exit 0) (mxF 0 (.s 303)) = true := by kernel_rfl
def fMz : Facts := ⟨[], [(.geq, .s 304, .c 0, true), (.leq, .s 303, .s 304, true), (.leq, .s 304, .s 301, true)], []⟩
def wN (b t : Nat) : Nat × ABlk := (b, ⟨[], wg t, false⟩)
def pM (b : Nat) : AV := .slw b 1 (.s 303) 0 (.s 304) .any
def mxRz : List RowM := [rowXor 10 (nmA 0) (nmA 32) (.s 44) (pM 64) [wN 64 2] (tg 10), rowEq (ps 70 10) (pM 68) [pn 70 10, wN 68 6]]
def mxY : Now := ⟨[(10, .b true)], [], 71⟩
theorem mx_goZ : goesX fMz tree [rowWk] [] [] mxRz [] 60 4 mxZ (mxF 0 (.s 303)) .ret mxY = true := by kernel_rfl
theorem mx_res : resA (trL mxY.e) (heapL (mxY.H ++ []) mxY.n) [.t 10] = some (.b true) := by kernel_rfl
/-! of nothing, and what is not played -/
def mxArgs (x y : AV) : List AV := [kyS, ctS, noS, x, y]
def rX (s : Hd) (b t T : Nat) : List RowM := match s with | .c => [rowXor 10 (nmA 0) (nmA 32) (.s 44) (ps b t) [pn b t] (tg T)] | _ => []
abbrev Cm := BinOp × AI × AI × Bool
def fX (s : Hd) (t T : Nat) (l : List Cm) : List Cm := match s with | .c => [(.gtr, lA t, nA 2000, false), (.neq, lA T, lA t, false), (.leq, .c 0, lA t, true), (.leq, .c 0, lA T, true)] ++ l | _ => []
def fNo (s u : Hd) : Facts := ⟨[], fX s 2 6 [(.lss, .c 0, lA 2, true)] ++ fX u 4 8 [(.lss, lA 4, .c 0, false)], []⟩
noncomputable def mxNo (s u : Hd) : Bool := saysB (fNo s u) tree [rowWk] [] [] (rX s 64 2 6 ++ rX u 65 4 8) (s.gl 64 (tg 2) ++ u.gl 65 (tg 4)) 66 60 4 5 (mxArgs (s.av 64 (tg 2)) (u.av 65 (tg 4))) (.b true)
def Hd.both : Hd → Hd → Bool
  | .c, .c => true
  | _, _ => false
theorem mx_no : ∀ s u, s.both u = false → mxNo s u = true := by
  intro s u h
  cases s <;> cases u <;> first | (cases h; done) | kernel_rfl
noncomputable def mxO1 (u : Hd) : Bool := saysB ⟨[], [(.gtr, .s 301, nA 2000, true)], []⟩ tree [] [] [] [] (Hd.c.gl0 64 ++ u.gl0 65) 66 60 4 5 (mxArgs (Hd.c.av0 64 301) (u.av0 65 302)) (.b true)
noncomputable def mxO2 (s : Hd) : Bool := saysB ⟨[], (match s with | .c => [(.gtr, .s 301, nA 2000, false)] | _ => []) ++ [(.gtr, .s 302, nA 2000, true)], []⟩ tree [] [] [] [] (s.gl0 64 ++ Hd.c.gl0 65) 66 60 4 5 (mxArgs (s.av0 64 301) (Hd.c.av0 65 302)) (.b true)
theorem mx_o1 : ∀ u, mxO1 u = true := by intro u; cases u <;> kernel_rfl
theorem mx_o2 : ∀ s, mxO2 s = true := by intro s; cases s <;> kernel_rfl
/-! names -/
def loM (K : Wd) (c : Int) (Nn : Wd) (na : Nat) (za : Wd) (nb : Nat) (zb : Wd) (i : Nat) : Nat → Int := fun k => if k < 32 then K k else if k < 44 then Nn (k - 32) else if k = 44 then c else if k = 301 then (na : Int) else if k = 302 then (nb : Int) else if k = 303 then (i : Int) else if k = 304 then ((min na nb : Nat) : Int) else if k = 400 then za i else if k = 401 then zb i else if k = 402 then xorW K c Nn za i else xorW K c Nn zb i
def lnM (na nb t : Nat) : Nat := if t = 2 then na else if t = 4 then nb else if t = 6 then na else if t = 8 then nb else min na nb
def zM (K : Wd) (c : Int) (Nn za zb : Wd) (t : Nat) : Wd := if t = 2 then za else if t = 4 then zb else if t = 8 then xorW K c Nn zb else xorW K c Nn za
def nuM (K : Wd) (c : Int) (Nn : Wd) (na : Nat) (za : Wd) (nb : Nat) (zb : Wd) (i : Nat) : Nat → Int := nuR (loM K c Nn na za nb zb i) (lnM na nb) (fun _ => i) (zM K c Nn za zb)
section
variable {K Nn za zb : Wd} {c : Int} {na nb i : Nat}
theorem nuM_K {j : Nat} (h : j < 32) : nuM K c Nn na za nb zb i j = K j := (nuR_lo (by omega)).trans (if_pos h)
theorem nuM_N {j : Nat} (h : j < 12) : nuM K c Nn na za nb zb i (32 + j) = Nn j := by
  refine (nuR_lo (by omega)).trans ?_
  unfold loM
  rw [if_neg (by omega), if_pos (by omega), Nat.add_sub_cancel_left]
theorem nuM_c : nuM K c Nn na za nb zb i 44 = c := (nuR_lo (by decide)).trans rfl
theorem nuM_a : nuM K c Nn na za nb zb i 301 = na := (nuR_lo (by decide)).trans rfl
theorem nuM_b : nuM K c Nn na za nb zb i 302 = nb := (nuR_lo (by decide)).trans rfl
theorem nuM_i : nuM K c Nn na za nb zb i 303 = i := (nuR_lo (by decide)).trans rfl
theorem nuM_m : nuM K c Nn na za nb zb i 304 = ((min na nb : Nat) : Int) := (nuR_lo (by decide)).trans rfl
theorem nuM_0 : nuM K c Nn na za nb zb i 400 = za i := (nuR_lo (by decide)).trans rfl
theorem nuM_1 : nuM K c Nn na za nb zb i 401 = zb i := (nuR_lo (by decide)).trans rfl
theorem nuM_2 : nuM K c Nn na za nb zb i 402 = xorW K c Nn za i := (nuR_lo (by decide)).trans rfl
theorem nuM_3 : nuM K c Nn na za nb zb i 403 = xorW K c Nn zb i := (nuR_lo (by decide)).trans rfl
theorem nuM_L {t : Nat} (ht : 0 < t) : nuM K c Nn na za nb zb i (pinL (tg t)) = (lnM na nb t : Int) := nuR_L ht
theorem nuM_A {t : Nat} (ht : 0 < t) : nuM K c Nn na za nb zb i (pinA (tg t)) = (i : Int) := nuR_A ht
theorem nuM_B {t j : Nat} (ht : 0 < t) (hj : j < 1099511627774) : nuM K c Nn na za nb zb i (pinB (tg t) j) = zM K c Nn za zb t j := nuR_B ht hj
theorem mx2_get (q : Bool) : ∀ p ∈ (mx2 q [(14, iN 0)]).H, (heapL ((mx2 q [(14, iN 0)]).H ++ []) 70).get p.1 = some p.2 := by
  intro p hp
  simp only [mx2, List.mem_cons, List.not_mem_nil, or_false] at hp
  cases q <;> rcases hp with rfl | rfl | rfl | rfl | rfl | rfl <;> kernel_rfl
theorem mxF_get (wd : Nat) (it : AI) : ∀ p ∈ (mxF wd it).H, (heapL ((mxF wd it).H ++ []) 70).get p.1 = some p.2 := by
  intro p hp
  simp only [mxF, List.mem_cons, List.not_mem_nil, or_false] at hp
  rcases hp with rfl | rfl | rfl | rfl | rfl | rfl <;> kernel_rfl
def mxD6 : List Nat := [64, 65, 66, 67, 68, 69]
theorem mxD6_ok : ∀ b ∈ mxD6, gmax ≤ b ∧ b < 70 := fun b hb => by
  simp only [mxD6, List.mem_cons, List.not_mem_nil, or_false] at hb
  rcases hb with rfl | rfl | rfl | rfl | rfl | rfl <;> exact ⟨by decide, by decide⟩
def fmM (i i' : Nat) (b : Nat) (pl : Pl) : Pl := if b = 66 ∨ b = 67 then pl else mv i i' pl
theorem fmM_w {i i' b : Nat} (h : ¬ (b = 66 ∨ b = 67)) (pl : Pl) : fmM i i' b pl = mv i i' pl := if_neg h
theorem fmM_k {i i' b : Nat} (h : b = 66 ∨ b = 67) (pl : Pl) : fmM i i' b pl = pl := if_pos h
theorem mx_open {w0 : World} {q : Bool} {ac : Act} {w : World} (ha : 0 < na) (hb : 0 < nb) (hna : na ≤ 2000) (hnb : nb ≤ 2000) (hq : q = decide (nb < na)) (h : HoldsX 90 w0 (nuM K c Nn na za nb zb 0) [] [] [] [] (mx2 q [(14, iN 0)]) ac w) : HoldsX 90 w0 (nuM K c Nn na za nb zb 0) [] [] [] [] (mxF 1 (.s 303)) ac w := by
  have gt := mx2_get q
  have z1 : ∀ {j : Nat}, j < 1 → j = 0 := fun hj => by omega
  refine HoldsX.re mxD6 (fun b => b) (fmM 0 0) gl0_ok h (by decide) (fun b pl => ?_) mxD6_ok (fun b hb b' hb' e => e) (fun p hp => ?_) (fun p hp => ?_)
  · unfold fmM
    split <;> rfl
  · simp only [mxF, List.mem_cons, List.not_mem_nil, or_false] at hp
    rcases hp with rfl | rfl | rfl | rfl | rfl | rfl | rfl | rfl | rfl
    · exact ⟨ctS, by simp [mx2], SlotR.conc (u := .int .u32 c) (by show some (Value.int .u32 (nuM K c Nn na za nb zb 0 44)) = _; rw [nuM_c]) (by show some (Value.int .u32 (nuM K c Nn na za nb zb 0 44)) = _; rw [nuM_c])⟩
    · exact ⟨ps 64 2, by simp [mx2], SlotR.unpin (b := 64) (m := na) (a' := 0) (by simp [mxD6]) rfl (fmM_w (by decide)) nuM_i (nuM_L (by decide)) nuM_a (by omega) (by omega)⟩
    · exact ⟨ps 65 4, by simp [mx2], SlotR.unpin (b := 65) (m := nb) (a' := 0) (by simp [mxD6]) rfl (fmM_w (by decide)) nuM_i (nuM_L (by decide)) nuM_b (by omega) (by omega)⟩
    · exact ⟨.p 66 0, by simp [mx2], SlotR.p (by simp [mxD6]) rfl (fmM_k (by decide))⟩
    · exact ⟨.p 67 0, by simp [mx2], SlotR.p (by simp [mxD6]) rfl (fmM_k (by decide))⟩
    · refine ⟨mMin q, by simp [mx2], SlotR.conc (u := .int .i64 ((min na nb : Nat) : Int)) ?_ (sI_conc nuM_m)⟩
      unfold mMin
      cases q
      · refine (sI_conc (k := pinL (tg 2)) (nuM_L (by decide))).trans ?_
        have : ¬ nb < na := by simpa using hq.symm
        show some (Value.int .i64 ((na : Nat) : Int)) = _
        rw [Nat.min_eq_left (by omega)]
      · refine (sI_conc (k := pinL (tg 4)) (nuM_L (by decide))).trans ?_
        have : nb < na := by simpa using hq.symm
        show some (Value.int .i64 ((nb : Nat) : Int)) = _
        rw [Nat.min_eq_right (by omega)]
    · exact ⟨ps 68 6, by simp [mx2], SlotR.unpin (b := 68) (m := na) (a' := 0) (by simp [mxD6]) rfl (fmM_w (by decide)) nuM_i (nuM_L (by decide)) nuM_a (by omega) (by omega)⟩
    · exact ⟨ps 69 8, by simp [mx2], SlotR.unpin (b := 69) (m := nb) (a' := 0) (by simp [mxD6]) rfl (fmM_w (by decide)) nuM_i (nuM_L (by decide)) nuM_b (by omega) (by omega)⟩
    · exact ⟨iN 0, by simp, SlotR.conc (u := .int .i64 ((0 : Nat) : Int)) rfl (sI_conc nuM_i)⟩
  · have win : ∀ (b t x m : Nat) (z : Wd), ¬ (b = 66 ∨ b = 67) → 0 < t → t < 1000 → t % 2 = 0 → lnM na nb t = m → 1 ≤ m → m ≤ 2000 → zM K c Nn za zb t = z → nuM K c Nn na za nb zb 0 x = z 0 → BlkR (nuM K c Nn na za nb zb 0) (nuM K c Nn na za nb zb 0) (fmM 0 0 b) ⟨[], tg t, false⟩ ⟨rowC .u8 (nmA x) 1, wg t, false⟩ := by
      intro b t x m z h1 h2 h3 h4 h5 h6 h9 h7 h8
      rw [show fmM 0 0 b = mv 0 0 from funext (fmM_w h1)]
      exact BlkR.unpin (t' := t) (m := m) (a' := 0) (g := z) (tgT h2 h3) h2 (tg_Ke h4) (tg_Ke h4) ((nuM_L h2).trans (by rw [h5])) (nuM_A h2) ((nuM_L h2).trans (by rw [h5])) (fun j hj => (nuM_B h2 (by omega)).trans (by rw [h7])) (fun j hj _ => (nuM_B h2 (by omega)).trans (by rw [h7])) (fun j hj => by rw [z1 hj]; exact h8) (by omega)
    simp only [mxF, List.mem_cons, List.not_mem_nil, or_false] at hp
    rcases hp with rfl | rfl | rfl | rfl | rfl | rfl
    · exact ⟨by simp [mxD6, wT], _, gt (pn 64 2) (by simp [mx2]), (fun h => by cases h), win 64 2 400 na za (by decide) (by decide) (by decide) (by decide) rfl (by omega) hna rfl nuM_0⟩
    · exact ⟨by simp [mxD6, wT], _, gt (pn 65 4) (by simp [mx2]), (fun h => by cases h), win 65 4 401 nb zb (by decide) (by decide) (by decide) (by decide) rfl (by omega) hnb rfl nuM_1⟩
    · refine ⟨by simp [mxD6, bk6], _, gt bk6 (by simp [mx2]), id, ?_⟩
      rw [show fmM 0 0 bk6.1 = fun pl => pl from funext (fmM_k (.inl rfl))]
      exact BlkR.row (by decide) fun j hj => rfl
    · refine ⟨by simp [mxD6, bn7], _, gt bn7 (by simp [mx2]), id, ?_⟩
      rw [show fmM 0 0 bn7.1 = fun pl => pl from funext (fmM_k (.inr rfl))]
      exact BlkR.row (by decide) fun j hj => rfl
    · exact ⟨by simp [mxD6, wT], _, gt (pn 68 6) (by simp [mx2]), (fun h => by cases h), win 68 6 402 na _ (by decide) (by decide) (by decide) (by decide) rfl (by omega) hna rfl nuM_2⟩
    · exact ⟨by simp [mxD6, wT], _, gt (pn 69 8) (by simp [mx2]), (fun h => by cases h), win 69 8 403 nb _ (by decide) (by decide) (by decide) (by decide) rfl (by omega) hnb rfl nuM_3⟩
theorem mx_move {w0 : World} {wd' : Nat} {it : AI} {ac : Act} {w : World} (hna : na ≤ 2000) (hnb : nb ≤ 2000) (hfit : i + 1 ≤ min na nb) (hw : i + 1 + wd' ≤ min na nb) (hwd : wd' ≤ 1) (hit : it.val (nuM K c Nn na za nb zb i) = ((i + 1 : Nat) : Int)) (h : HoldsX 90 w0 (nuM K c Nn na za nb zb i) [] [] [] [] (mxF 1 it) ac w) : HoldsX 90 w0 (nuM K c Nn na za nb zb (i + 1)) [] [] [] [] (mxF wd' (.s 303)) ac w := by
  have gt := mxF_get 1 it
  have z1 : ∀ {j : Nat}, j < 1 → j = 0 := fun hj => by omega
  have z2 : ∀ {j : Nat}, j < wd' → j = 0 := fun hj => by omega
  refine HoldsX.re mxD6 (fun b => b) (fmM i (i + 1)) gl0_ok h (by decide) (fun b pl => ?_) mxD6_ok (fun b hb b' hb' e => e) (fun p hp => ?_) (fun p hp => ?_)
  · unfold fmM
    split <;> rfl
  · simp only [mxF, List.mem_cons, List.not_mem_nil, or_false] at hp
    rcases hp with rfl | rfl | rfl | rfl | rfl | rfl | rfl | rfl | rfl
    · exact ⟨ctS, by simp [mxF], SlotR.conc (u := .int .u32 c) (by show some (Value.int .u32 (nuM K c Nn na za nb zb i 44)) = _; rw [nuM_c]) (by show some (Value.int .u32 (nuM K c Nn na za nb zb (i + 1) 44)) = _; rw [nuM_c])⟩
    · exact ⟨wM 64 1 301, by simp [mxF], SlotR.win (b := 64) (a := i) (a' := i + 1) (m := na) (by simp [mxD6]) rfl (fmM_w (by decide)) nuM_i nuM_i nuM_a nuM_a (by omega)⟩
    · exact ⟨wM 65 1 302, by simp [mxF], SlotR.win (b := 65) (a := i) (a' := i + 1) (m := nb) (by simp [mxD6]) rfl (fmM_w (by decide)) nuM_i nuM_i nuM_b nuM_b (by omega)⟩
    · exact ⟨.p 66 0, by simp [mxF], SlotR.p (by simp [mxD6]) rfl (fmM_k (by decide))⟩
    · exact ⟨.p 67 0, by simp [mxF], SlotR.p (by simp [mxD6]) rfl (fmM_k (by decide))⟩
    · exact ⟨sI 304, by simp [mxF], SlotR.conc (u := .int .i64 ((min na nb : Nat) : Int)) (sI_conc nuM_m) (sI_conc nuM_m)⟩
    · exact ⟨wM 68 1 301, by simp [mxF], SlotR.win (b := 68) (a := i) (a' := i + 1) (m := na) (by simp [mxD6]) rfl (fmM_w (by decide)) nuM_i nuM_i nuM_a nuM_a (by omega)⟩
    · exact ⟨wM 69 1 302, by simp [mxF], SlotR.win (b := 69) (a := i) (a' := i + 1) (m := nb) (by simp [mxD6]) rfl (fmM_w (by decide)) nuM_i nuM_i nuM_b nuM_b (by omega)⟩
    · refine ⟨.i .i64 it, by simp [mxF], SlotR.conc (u := .int .i64 ((i + 1 : Nat) : Int)) ?_ (sI_conc nuM_i)⟩
      show some (Value.int .i64 (it.val _)) = _
      rw [hit]
  · have win : ∀ (b t x m : Nat) (z : Wd), ¬ (b = 66 ∨ b = 67) → 0 < t → t % 2 = 0 → lnM na nb t = m → min na nb ≤ m → m ≤ 2000 → zM K c Nn za zb t = z → (∀ i, nuM K c Nn na za nb zb i x = z i) → BlkR (nuM K c Nn na za nb zb i) (nuM K c Nn na za nb zb (i + 1)) (fmM i (i + 1) b) ⟨rowC .u8 (nmA x) 1, wg t, false⟩ ⟨rowC .u8 (nmA x) wd', wg t, false⟩ := by
      intro b t x m z h1 h2 h4 h5 h6 h9 h7 h8
      rw [show fmM i (i + 1) b = mv i (i + 1) from funext (fmM_w h1)]
      exact BlkR.winF (t := t) (t' := t) (a := i) (a' := i + 1) (m := m) (g := z) h2 h2 (tg_Ke h4) (tg_Ke h4) (nuM_A h2) ((nuM_L h2).trans (by rw [h5])) (nuM_A h2) ((nuM_L h2).trans (by rw [h5])) (fun j hj _ => (nuM_B h2 (by omega)).trans (by rw [h7])) (fun j hj => by rw [z1 hj]; exact h8 i) (fun j hj _ => (nuM_B h2 (by omega)).trans (by rw [h7])) (fun j hj => by rw [z2 hj]; exact h8 (i + 1)) (by omega)
    simp only [mxF, List.mem_cons, List.not_mem_nil, or_false] at hp
    rcases hp with rfl | rfl | rfl | rfl | rfl | rfl
    · exact ⟨by simp [mxD6, wT], _, gt (wT 64 2 400 1 false) (by simp [mxF]), id, win 64 2 400 na za (by decide) (by decide) (by decide) rfl (Nat.min_le_left _ _) hna rfl (fun i => nuM_0)⟩
    · exact ⟨by simp [mxD6, wT], _, gt (wT 65 4 401 1 false) (by simp [mxF]), id, win 65 4 401 nb zb (by decide) (by decide) (by decide) rfl (Nat.min_le_right _ _) hnb rfl (fun i => nuM_1)⟩
    · refine ⟨by simp [mxD6, bk6], _, gt bk6 (by simp [mxF]), id, ?_⟩
      rw [show fmM i (i + 1) bk6.1 = fun pl => pl from funext (fmM_k (.inl rfl))]
      exact BlkR.row (by decide) fun j hj => by rw [nm_val, nm_val, Nat.zero_add, nuM_K hj, nuM_K hj]
    · refine ⟨by simp [mxD6, bn7], _, gt bn7 (by simp [mxF]), id, ?_⟩
      rw [show fmM i (i + 1) bn7.1 = fun pl => pl from funext (fmM_k (.inr rfl))]
      exact BlkR.row (by decide) fun j hj => by rw [nm_val, nm_val, nuM_N hj, nuM_N hj]
    · exact ⟨by simp [mxD6, wT], _, gt (wT 68 6 402 1 false) (by simp [mxF]), id, win 68 6 402 na _ (by decide) (by decide) (by decide) rfl (Nat.min_le_left _ _) hna rfl (fun i => nuM_2)⟩
    · exact ⟨by simp [mxD6, wT], _, gt (wT 69 8 403 1 false) (by simp [mxF]), id, win 69 8 403 nb _ (by decide) (by decide) (by decide) rfl (Nat.min_le_right _ _) hnb rfl (fun i => nuM_3)⟩
theorem of_xor (a b : Int) : BitVec.ofInt 8 (arith .xor .u8 a b) = BitVec.ofInt 8 a ^^^ BitVec.ofInt 8 b := by
  show BitVec.ofInt 8 (IntKind.u8.wrap (((BitVec.ofInt 8 a ^^^ BitVec.ofInt 8 b).toNat : Nat) : Int)) = _
  rw [w_u8, Nat.mod_eq_of_lt (BitVec.isLt _)]
  generalize BitVec.ofInt 8 a ^^^ BitVec.ofInt 8 b = v
  simp
theorem xor_pair (a b k : Int) : arith .xor .u8 (arith .xor .u8 a k) (arith .xor .u8 b k) = arith .xor .u8 a b := by
  show IntKind.u8.wrap (((BitVec.ofInt 8 (arith .xor .u8 a k) ^^^ BitVec.ofInt 8 (arith .xor .u8 b k)).toNat : Nat) : Int) = IntKind.u8.wrap (((BitVec.ofInt 8 a ^^^ BitVec.ofInt 8 b).toNat : Nat) : Int)
  rw [of_xor, of_xor]
  congr 3
  generalize BitVec.ofInt 8 a = x
  generalize BitVec.ofInt 8 b = y
  generalize BitVec.ofInt 8 k = z
  rw [BitVec.xor_assoc, BitVec.xor_comm y z, ← BitVec.xor_assoc z z y, BitVec.xor_self, BitVec.zero_xor]
theorem mx_loop {w0 : World} (hna : na ≤ 2000) (hnb : nb ≤ 2000) : Tri Try.prog 90 (.loop mxR) (fun a w => HoldsX 90 w0 (nuM K c Nn na za nb zb 0) [] [] [] [] (mxF (wdB (min na nb)) (.s 303)) a w) fun ex a w => ex = .exit 0 ∧ HoldsX 90 w0 (nuM K c Nn na za nb zb (min na nb)) [] [] [] [] (mxF 0 (.s 303)) a w := by
  generalize hn : min na nb = n
  have key := Tri.loop (P := Try.prog) (N := 90) (x := mxR) (J := fun k a w => k ≤ n ∧ HoldsX 90 w0 (nuM K c Nn na za nb zb (n - k)) [] [] [] [] (mxF (wdB k) (.s 303)) a w) (Post := fun ex a w => ex = .exit 0 ∧ HoldsX 90 w0 (nuM K c Nn na za nb zb n) [] [] [] [] (mxF 0 (.s 303)) a w) n ?_ ?_
  · exact key.weak (fun a w h => ⟨Nat.le_refl _, by rw [Nat.sub_self]; exact h⟩) (fun _ _ _ h => h)
  · intro k cc hc a w ⟨hk, hp⟩
    rw [show wdB (k + 1) = 1 from if_neg (by omega)] at hp
    have e2 : n - k = n - (k + 1) + 1 := by omega
    have hlt : n - (k + 1) < n := by omega
    have hwd : n - k + wdB k ≤ n := by unfold wdB; split <;> omega
    have hw1 : wdB k ≤ 1 := by unfold wdB; split <;> omega
    rw [e2] at hwd ⊢
    generalize n - (k + 1) = i at *
    refine ((Tri.runX (L := []) (fx := []) (kp := []) (w0 := w0) (F := fMr) ⟨fun p hp => (by cases hp), fun p hp => ?_, fun p hp => by cases hp⟩ mixed tab_ok gl0_ok (fun r hr => by cases hr) (fun r hr => by cases hr) (fun r hr => by cases hr) (fun r hr => by cases hr) mx_goR).weak (fun _ _ h => h) (fun ex a w h => .inl ⟨h.1, by omega, mx_move hna hnb (by omega) (by omega) hw1 ?_ h.2⟩)) cc hc a w hp
    · simp only [fMr, List.mem_cons, List.not_mem_nil, or_false] at hp
      rcases hp with rfl | rfl
      · show decide (nuM K c Nn na za nb zb i 303 < nuM K c Nn na za nb zb i 304) = true
        rw [nuM_i, nuM_m]
        exact decide_eq_true (by omega)
      · show (arith .xor .u8 (nuM K c Nn na za nb zb i 402) (nuM K c Nn na za nb zb i 403) != arith .xor .u8 (nuM K c Nn na za nb zb i 400) (nuM K c Nn na za nb zb i 401)) = false
        rw [nuM_0, nuM_1, nuM_2, nuM_3]
        unfold xorW
        rw [xor_pair]
        simp
    · show IntKind.i64.wrap (nuM K c Nn na za nb zb i 303 + ((1 : Nat) : Int)) = _
      rw [nuM_i, i64_small (by omega) (by omega)]
      omega
  · intro cc hc a w ⟨_, hp⟩
    rw [Nat.sub_zero, show wdB 0 = 0 from rfl] at hp
    refine ((Tri.runX (L := []) (fx := []) (kp := []) (w0 := w0) ⟨fun p hp => (by cases hp), fun p hp => ?_, fun p hp => by cases hp⟩ mixed tab_ok gl0_ok (fun r hr => by cases hr) (fun r hr => by cases hr) (fun r hr => by cases hr) (fun r hr => by cases hr) mx_goRe).weak (fun _ _ h => h) (fun ex a w h => ⟨by rw [h.1]; simp, h⟩)) cc hc a w hp
    simp only [List.mem_cons, List.not_mem_nil, or_false] at hp
    subst hp
    show decide (nuM K c Nn na za nb zb n 303 < nuM K c Nn na za nb zb n 304) = false
    rw [nuM_i, nuM_m]
    exact decide_eq_false (by omega)
theorem mx_xr {b t T n : Nat} {z : Wd} (h1 : 0 < t) (h2 : t < 1000) (h3 : t % 2 = 0) (h4 : 0 < T) (h5 : T < 1000) (h6 : T % 2 = 0) (hl : lnM na nb t = n) (hl' : lnM na nb T = n) (h0 : 0 < n) (hn : n ≤ 2000) (hz : zM K c Nn za zb t = z) (hz' : zM K c Nn za zb T = xorW K c Nn z) :
    (rowXor 10 (nmA 0) (nmA 32) (.s 44) (ps b t) [pn b t] (tg T)).Ok (nuM K c Nn na za nb zb i) Try.prog [] := by
  refine rowXor_ok xorC (isText_pin List.mem_cons_self (tgT h1 h2) (tg_Ke h3) h0 ((nuM_L h1).trans (by rw [hl])) fun j hj => (nuM_B h1 (by omega)).trans (by rw [hz])) h0 (by omega) (tgT h4 h5) (tg_Ke h6) ((nuM_L h4).trans (by rw [hl'])) fun j hj => ?_
  rw [nuM_B h4 (by omega), hz']
  exact xorW_congr (fun j hj => by rw [nm_val, Nat.zero_add, nuM_K hj]) nuM_c.symm (fun j hj => by rw [nm_val, nuM_N hj]) rfl
theorem mxRz_ok (ha : 0 < na) (hb : 0 < nb) (hna : na ≤ 2000) (hnb : nb ≤ 2000) : ∀ r ∈ mxRz, r.Ok (nuM K c Nn na za nb zb (min na nb)) Try.prog [] := by
  have h0 : 0 < min na nb := by omega
  have hle : min na nb ≤ na := Nat.min_le_left _ _
  intro r hr
  simp only [mxRz, List.mem_cons, List.not_mem_nil, or_false] at hr
  rcases hr with rfl | rfl
  · refine rowXor_ok xorC (n := min na nb) (z := za) (isText_win (t := 2) List.mem_cons_self (by decide) (tg_Ke (by decide)) (nuM_i.trans (nuM_A (by decide)).symm) nuM_m ?_ fun j hj => nuM_B (by decide) (by omega)) h0 (by omega) (tgT (by decide) (by decide)) (tg_Ke (by decide)) (nuM_L (by decide)) fun j hj => ?_
    · rw [nuM_L (by decide)]
      show ((min na nb : Nat) : Int) ≤ ((na : Nat) : Int)
      omega
    · rw [nuM_B (by decide) (by omega)]
      exact xorW_congr (fun j hj => by rw [nm_val, Nat.zero_add, nuM_K hj]) nuM_c.symm (fun j hj => by rw [nm_val, nuM_N hj]) rfl
  · refine rowEq_T (n := min na nb) (z := xorW K c Nn za) (isText_pin (b := 70) (own := false) (by simp [pn]) (tgT (by decide) (by decide)) (tg_Ke (by decide)) h0 (nuM_L (by decide)) fun j hj => nuM_B (by decide) (by omega)) (isText_win (t := 6) (own := false) (by simp [wN]) (by decide) (tg_Ke (by decide)) (nuM_i.trans (nuM_A (by decide)).symm) nuM_m ?_ fun j hj => nuM_B (by decide) (by omega)) h0 (by omega)
    rw [nuM_L (by decide)]
    show ((min na nb : Nat) : Int) ≤ ((na : Nat) : Int)
    omega
end
theorem mx_both {W : World} {va vb : Value} {K Nn za zb : Wd} {c : Int} {na nb : Nat} {pa pb : Option Pl} (hca : Came W va .c na za pa) (hcb : Came W vb .c nb zb pb) (hna : na ≤ 2000) (hnb : nb ≤ 2000) :
    Calls Try.prog 5 #[aggI .u8 32 K, .int .u32 c, aggI .u8 12 Nn, va, vb] W fun e W' => e = .returned (.bool true) ∧ Below W.heap.size W W' := by
  have ha : 0 < na := hca.fits
  have hb : 0 < nb := hcb.fits
  let ν0 := nuM K c Nn na za nb zb 0
  let gp : Nat → Option Pl := fun b => if b = 64 then pa else if b = 65 then pb else none
  obtain ⟨va1, ga1⟩ := hca.here (ν := ν0) (gp := gp) (blk := 64) (T := tg 2) (by decide) rfl (tgT (by decide) (by decide)) (tg_Ke (by decide)) (nuM_L (by decide)) fun j hj => nuM_B (by decide) (by omega)
  obtain ⟨vb1, gb1⟩ := hcb.here (ν := ν0) (gp := gp) (blk := 65) (T := tg 4) (by decide) rfl (tgT (by decide) (by decide)) (tg_Ke (by decide)) (nuM_L (by decide)) fun j hj => nuM_B (by decide) (by omega)
  have start := holdsX_start (N := 90) (ν := ν0) (L := []) (fx := []) (kp := []) (vs := #[aggI .u8 32 K, .int .u32 c, aggI .u8 12 Nn, va, vb]) (e0 := mx0.e) (H0 := mx0.H) (n0 := 66) gl0_ok (w := W) (fun p hp => by cases hp) gp (by show 5 ≤ 90; decide) (by decide) (fun b hb => by show (if b = 64 then pa else if b = 65 then pb else none) = none; rw [if_neg (by omega), if_neg (by omega)]) (fun p hp => by cases hp)
    (fun p hp => by
      simp only [mx0, List.mem_cons, List.not_mem_nil, or_false] at hp
      rcases hp with rfl | rfl | rfl | rfl | rfl
      · exact ⟨_, rfl, (conc2_vr (keyS_val fun j hj => nuM_K hj)).1⟩
      · refine ⟨.int .u32 c, rfl, ?_⟩
        have e : (AI.s 44).val ν0 = c := nuM_c
        rw [← e]
        exact .i _ _
      · exact ⟨_, rfl, (conc2_vr (nonS_val fun j hj => nuM_N hj)).1⟩
      · exact ⟨_, rfl, va1⟩
      · exact ⟨_, rfl, vb1⟩)
    (fun p hp => by
      simp only [mx0, List.mem_cons, List.not_mem_nil, or_false] at hp
      rcases hp with rfl | rfl
      · obtain ⟨_, _, pl, q3, q4⟩ := ga1 (pn 64 2) List.mem_cons_self
        exact ⟨show gmax ≤ 64 by decide, pl, q3, q4, fun h => by cases h⟩
      · obtain ⟨_, _, pl, q3, q4⟩ := gb1 (pn 65 4) List.mem_cons_self
        exact ⟨show gmax ≤ 65 by decide, pl, q3, q4, fun h => by cases h⟩)
    (fun p hp => by cases hp)
  refine ((callsX (L := []) (gl := []) (Q := fun v w' => v = .bool true ∧ Below W.heap.size W w') tab_ok (by kernel_rfl) mx_shape start ?_).2).mono fun e w' ⟨v, he, hv, hB⟩ => ⟨by rw [he, hv], hB⟩
  have run : ∀ {ic : IC} {i o : Now} {ex : Ex} {ν : Nat → Int} {F : Facts} {T : List Row} {TM : List RowM}, F.Hold ν → (∀ r ∈ T, r.Ok ν Try.prog) → (∀ r ∈ TM, r.Ok ν Try.prog []) → goesX F tree T [] [] TM [] 60 4 ic i ex o = true → Tri Try.prog 90 ic (HoldsX 90 W ν [] [] [] [] i) fun ex' a w' => ex' = ex ∧ HoldsX 90 W ν [] [] [] [] o a w' := fun hF hT hTM h =>
    Tri.runX hF mixed tab_ok gl0_ok hT (fun r hr => by cases hr) hTM (fun r hr => by cases hr) h
  have noT : ∀ ν, ∀ r ∈ ([] : List Row), r.Ok ν Try.prog := fun ν r hr => by cases hr
  have noM : ∀ ν, ∀ r ∈ ([] : List RowM), r.Ok ν Try.prog [] := fun ν r hr => by cases hr
  generalize hq : decide (nb < na) = q
  have hd := mx_head q
  simp only [mxHead, Bool.and_eq_true] at hd
  obtain ⟨d1, d2, d3, d4, d5, d6⟩ := hd
  have hF : (fMx q).Hold ν0 := by
    refine ⟨fun p hp => (by cases hp), fun p hp => ?_, fun p hp => by cases hp⟩
    have e2 : (lA 2).val ν0 = (na : Int) := nuM_L (by decide)
    have e4 : (lA 4).val ν0 = (nb : Int) := nuM_L (by decide)
    have e6 : (lA 6).val ν0 = (na : Int) := nuM_L (by decide)
    have e8 : (lA 8).val ν0 = (nb : Int) := nuM_L (by decide)
    simp only [fMx, List.mem_cons, List.not_mem_nil, or_false] at hp
    rcases hp with rfl | rfl | rfl | rfl | rfl
    · show decide ((lA 2).val ν0 > ((2000 : Nat) : Int)) = false
      rw [e2]; exact decide_eq_false (by omega)
    · show decide ((lA 4).val ν0 > ((2000 : Nat) : Int)) = false
      rw [e4]; exact decide_eq_false (by omega)
    · show decide ((lA 4).val ν0 < (lA 2).val ν0) = q
      rw [e2, e4, ← hq]
      by_cases h9 : nb < na
      · rw [decide_eq_true h9, decide_eq_true (show (nb : Int) < na by omega)]
      · rw [decide_eq_false h9, decide_eq_false (show ¬ (nb : Int) < na by omega)]
    · show ((lA 6).val ν0 != (lA 2).val ν0) = false
      rw [e6, e2]; simp
    · show ((lA 8).val ν0 != (lA 4).val ν0) = false
      rw [e8, e4]; simp
  have hR : ∀ r ∈ mxRows, r.Ok ν0 Try.prog [] := fun r hr => by
    simp only [mxRows, List.mem_cons, List.not_mem_nil, or_false] at hr
    rcases hr with rfl | rfl
    · exact mx_xr (n := na) (z := za) (by decide) (by decide) (by decide) (by decide) (by decide) (by decide) rfl rfl ha hna rfl rfl
    · exact mx_xr (n := nb) (z := zb) (by decide) (by decide) (by decide) (by decide) (by decide) (by decide) rfl rfl hb hnb rfl rfl
  refine seqN (run (none_f _) (noT _) (noM _) d1) (seqN (run hF (noT _) (noM _) d2) (seqN (run hF (noT _) (noM _) d3) (seqN (run hF (noT _) hR d4) (seqN (run hF (noT _) (noM _) d5) (seqN (Mid := HoldsX 90 W (nuM K c Nn na za nb zb (min na nb)) [] [] [] [] (mxF 0 (.s 303))) ?_ ?_)))))
  · refine seqN (Mid := HoldsX 90 W ν0 [] [] [] [] (mxF (wdB (min na nb)) (.s 303))) ((run hF (noT _) (noM _) d6).weak (fun _ _ h => h) fun ex a w' h => ⟨h.1, ?_⟩) ?_
    · rw [show wdB (min na nb) = 1 from if_neg (by omega)]
      exact mx_open ha hb hna hnb hq.symm h.2
    · refine Tri.block (mx_loop hna hnb) (fun a w h => by cases h.1) (fun a w h => ⟨rfl, h.2⟩) (fun j a w hj h => ?_) (fun a w h => by cases h.1)
      have := h.1
      simp only [Ex.exit.injEq] at this
      exact (hj this).elim
  · refine (run (F := fMz) ⟨fun p hp => (by cases hp), fun p hp => ?_, fun p hp => by cases hp⟩ (fun r hr => ?_) (mxRz_ok ha hb hna hnb) mx_goZ).weak (fun _ _ h => h) fun ex a w' h => ⟨.inr h.1, _, mxY, .b true, [], [], h.2, mx_res, fun ρ v _ _ _ hB hv => ⟨by cases hv; rfl, ⟨hB.os, hB.tape, hB.output, hB.size, fun k hk => hB.block k hk fun p hp => by cases hp⟩⟩⟩
    · simp only [fMz, List.mem_cons, List.not_mem_nil, or_false] at hp
      rcases hp with rfl | rfl | rfl
      · show decide (nuM K c Nn na za nb zb (min na nb) 304 ≥ 0) = true
        rw [nuM_m]; exact decide_eq_true (by omega)
      · show decide (nuM K c Nn na za nb zb (min na nb) 303 ≤ nuM K c Nn na za nb zb (min na nb) 304) = true
        rw [nuM_m, nuM_i]; exact decide_eq_true (by omega)
      · show decide (nuM K c Nn na za nb zb (min na nb) 304 ≤ nuM K c Nn na za nb zb (min na nb) 301) = true
        rw [nuM_m, nuM_a]; exact decide_eq_true (by omega)
    · simp only [List.mem_cons, List.not_mem_nil, or_false] at hr
      subst hr
      exact rowWk_ok
theorem two_need {ν : Nat → Int} {gp : Nat → Option Pl} {w : World} {A B : Gl} (ha : NeedOk ν (embF gp) w A) (hb : NeedOk ν (embF gp) w B) : NeedOk ν (embF gp) w (A ++ B) := fun p hp => (List.mem_append.1 hp).elim (ha p) (hb p)
theorem here_need {ν : Nat → Int} {gp : Nat → Option Pl} {w : World} {G : Gl} {blk : Nat} (hb : gmax ≤ blk) (h : ∀ p ∈ G, p.1 = blk ∧ p.2.own = false ∧ ∃ pl', gp blk = some pl' ∧ BR ν (embF gp) w p.2 pl') : NeedOk ν (embF gp) w G := fun p hp => by
  obtain ⟨q1, q2, pl', q3, q4⟩ := h p hp
  refine ⟨pl', by rw [q1]; exact (embF_other hb).trans q3, ?_⟩
  have : p.2.shut = p.2 := by
    rcases p with ⟨b, ⟨cs, e, o⟩⟩
    simp only at q2
    subst q2
    rfl
  rw [this]
  exact q4
theorem gl_need {s : Hd} {blk n t : Nat} (h : blk < n) (ht : mapTag < tg t) : ∀ p ∈ s.gl blk (tg t), p.1 < n ∧ p.2.elem ≠ mapTag ∧ ∃ us, ∀ ν, concL ν p.2.cells = some us := fun p hp => by
  cases s
  · cases hp
  · cases hp
  · simp only [Hd.gl, List.mem_cons, List.not_mem_nil, or_false] at hp
    subst hp
    exact ⟨h, Nat.ne_of_gt ht, [], fun _ => rfl⟩
theorem gtr_not {x : AI} {ν : Nat → Int} {n m : Nat} (h : x.val ν = (n : Int)) (hm : n ≤ m) : compare .gtr (x.val ν) ((nA m).val ν) = false := by
  rw [h]
  exact decide_eq_false (show ¬ (n : Int) > (m : Int) by omega)
theorem neq_same {x y : AI} {ν : Nat → Int} {n : Int} (h : x.val ν = n) (h' : y.val ν = n) : compare .neq (x.val ν) (y.val ν) = false := by
  rw [h, h']
  show (n != n) = false
  simp
theorem leq_c0 {x : AI} {ν : Nat → Int} {n : Nat} (h : x.val ν = (n : Int)) : compare .leq ((AI.c 0).val ν) (x.val ν) = true := by
  rw [h]
  exact decide_eq_true (Int.natCast_nonneg n)
theorem chachaMixes_law {W : World} {va vb : Value} {zsa zsb : List Int} (hva : ReadsAs W .u8 va zsa) (hwa : ∀ z ∈ zsa, (Lit.int .u8 z).wf = true) (hvb : ReadsAs W .u8 vb zsb) (hwb : ∀ z ∈ zsb, (Lit.int .u8 z).wf = true) (zk : List Int) (lk : zk.length = 32) (c : Int) (zn : List Int) (ln : zn.length = 12) (_ : ∀ z ∈ zk, (Lit.int .u8 z).wf = true) (_ : (Lit.int .u32 c).wf = true) (_ : ∀ z ∈ zn, (Lit.int .u8 z).wf = true) :
    Calls Try.prog 5 #[.agg (zk.map (Value.int .u8)).toArray, .int .u32 c, .agg (zn.map (Value.int .u8)).toArray, va, vb] W fun e W' => e = .returned (.bool true) ∧ Below W.heap.size W W' := by
  obtain ⟨s, na, pa, hca, _⟩ := came_of hva hwa
  obtain ⟨u, nb, pb, hcb, _⟩ := came_of hvb hwb
  rw [aggI_of lk, aggI_of ln]
  generalize (fun i => zsa.getD i 0) = za at hca
  generalize (fun i => zsb.getD i 0) = zb at hcb
  generalize (fun j => zk.getD j 0) = K
  generalize (fun j => zn.getD j 0) = Nn
  let ν := nuM K c Nn na za nb zb 0
  let gp : Nat → Option Pl := fun b => if b = 64 then pa else if b = 65 then pb else none
  have hct : ∀ ρ, VR ν ρ ctS (.int .u32 c) := fun ρ => by
    have e : (AI.s 44).val ν = c := nuM_c
    have h : VR ν ρ ctS (.int .u32 ((AI.s 44).val ν)) := .i _ _
    rw [e] at h
    exact h
  have args : ∀ {ρ : Emb} {x y : AV}, VR ν ρ x va → VR ν ρ y vb → LR ν ρ (mxArgs x y) #[aggI .u8 32 K, .int .u32 c, aggI .u8 12 Nn, va, vb] := fun hx hy => lr_of (vs := [_, _, _, _, _]) ⟨(conc2_vr (keyS_val fun j hj => nuM_K hj)).1, hct _, (conc2_vr (nonS_val fun j hj => nuM_N hj)).1, hx, hy, trivial⟩
  obtain ⟨a0, n0⟩ := hca.here0 (ν := ν) (gp := gp) (blk := 64) (k := 301) (by decide) rfl nuM_a
  obtain ⟨b0, m0⟩ := hcb.here0 (ν := ν) (gp := gp) (blk := 65) (k := 302) (by decide) rfl nuM_b
  have nd0 : ∀ p ∈ s.gl0 64 ++ u.gl0 65, p.1 < 66 ∧ p.2.elem ≠ mapTag ∧ ∃ us, ∀ ν, concL ν p.2.cells = some us := fun p hp => (List.mem_append.1 hp).elim (gl0_need (by decide) p) (gl0_need (by decide) p)
  by_cases h1 : 2000 < na
  · cases s
    · have : na = 0 := hca.2.1
      omega
    · have : na = 0 := hca.2.1
      omega
    · refine yes_ofN (law_rowT (by decide) ⟨fun p hp => (by cases hp), fun p hp => ?_, fun p hp => by cases hp⟩ (fun r hr => by cases hr) (fun r hr => by cases hr) (mx_o1 u) nd0 (by cases u <;> kernel_rfl)) (fun p hp => by cases hp) (two_need n0 m0) (args a0 b0)
      simp only [List.mem_cons, List.not_mem_nil, or_false] at hp
      subst hp
      show decide (nuM K c Nn na za nb zb 0 301 > ((2000 : Nat) : Int)) = true
      rw [nuM_a]
      exact decide_eq_true (by omega)
  by_cases h2 : 2000 < nb
  · cases u
    · have : nb = 0 := hcb.2.1
      omega
    · have : nb = 0 := hcb.2.1
      omega
    · refine yes_ofN (law_rowT (by decide) ⟨fun p hp => (by cases hp), fun p hp => ?_, fun p hp => by cases hp⟩ (fun r hr => by cases hr) (fun r hr => by cases hr) (mx_o2 s) nd0 (by cases s <;> kernel_rfl)) (fun p hp => by cases hp) (two_need n0 m0) (args a0 b0)
      rcases List.mem_append.1 hp with hp | hp
      · cases s
        · cases hp
        · cases hp
        · simp only [List.mem_cons, List.not_mem_nil, or_false] at hp
          subst hp
          show decide (nuM K c Nn na za nb zb 0 301 > ((2000 : Nat) : Int)) = false
          rw [nuM_a]
          exact decide_eq_false (by omega)
      · simp only [List.mem_cons, List.not_mem_nil, or_false] at hp
        subst hp
        show decide (nuM K c Nn na za nb zb 0 302 > ((2000 : Nat) : Int)) = true
        rw [nuM_b]
        exact decide_eq_true (by omega)
  cases hsu : s.both u with
  | true =>
    have hs : s = .c := by cases s <;> cases u <;> first | rfl | cases hsu
    have hu : u = .c := by cases s <;> cases u <;> first | rfl | cases hsu
    subst hs hu
    exact mx_both hca hcb (by omega) (by omega)
  | false =>
    obtain ⟨a1, g1⟩ := hca.here (ν := ν) (gp := gp) (blk := 64) (T := tg 2) (by decide) rfl (tgT (by decide) (by decide)) (tg_Ke (by decide)) (nuM_L (by decide)) fun j hj => nuM_B (by decide) (by omega)
    obtain ⟨b1, g2⟩ := hcb.here (ν := ν) (gp := gp) (blk := 65) (T := tg 4) (by decide) rfl (tgT (by decide) (by decide)) (tg_Ke (by decide)) (nuM_L (by decide)) fun j hj => nuM_B (by decide) (by omega)
    have e2 : (lA 2).val ν = (na : Int) := nuM_L (by decide)
    have e4 : (lA 4).val ν = (nb : Int) := nuM_L (by decide)
    have e6 : (lA 6).val ν = (na : Int) := nuM_L (by decide)
    have e8 : (lA 8).val ν = (nb : Int) := nuM_L (by decide)
    have fx : ∀ (s : Hd) (t T n : Nat) (l : List Cm), s.Fits n → n ≤ 2000 → (lA t).val ν = (n : Int) → (lA T).val ν = (n : Int) → (0 < n → ∀ p ∈ l, compare p.1 (p.2.1.val ν) (p.2.2.1.val ν) = p.2.2.2) → ∀ p ∈ fX s t T l, compare p.1 (p.2.1.val ν) (p.2.2.1.val ν) = p.2.2.2 := by
      intro s t T n l hs hn ht hT hl p hp
      cases s
      · cases hp
      · cases hp
      · have h0 : 0 < n := hs
        rcases List.mem_append.1 hp with hp | hp
        · simp only [List.mem_cons, List.not_mem_nil, or_false] at hp
          rcases hp with rfl | rfl | rfl | rfl
          · exact gtr_not ht hn
          · exact neq_same hT ht
          · exact leq_c0 ht
          · exact leq_c0 hT
        · exact hl h0 p hp
    refine yes_ofN (law_rowT (T := [rowWk]) (by decide) (F := fNo s u) ⟨fun p hp => (by cases hp), fun p hp => ?_, fun p hp => by cases hp⟩ (fun r hr => ?_) (fun r hr => ?_) (mx_no s u hsu) (fun p hp => (List.mem_append.1 hp).elim (gl_need (by decide) (tgT (by decide) (by decide)).1 p) (gl_need (by decide) (tgT (by decide) (by decide)).1 p)) (by cases s <;> cases u <;> kernel_rfl)) (fun p hp => by cases hp) (two_need (here_need (by decide) g1) (here_need (by decide) g2)) (args a1 b1)
    · rcases List.mem_append.1 hp with hp | hp
      · refine fx s 2 6 na _ hca.fits (by omega) e2 e6 (fun h0 p hp => ?_) p hp
        simp only [List.mem_cons, List.not_mem_nil, or_false] at hp
        subst hp
        show decide (0 < (lA 2).val ν) = true
        rw [e2]; exact decide_eq_true (by omega)
      · refine fx u 4 8 nb _ hcb.fits (by omega) e4 e8 (fun h0 p hp => ?_) p hp
        simp only [List.mem_cons, List.not_mem_nil, or_false] at hp
        subst hp
        show decide ((lA 4).val ν < 0) = false
        rw [e4]; exact decide_eq_false (by omega)
    · simp only [List.mem_cons, List.not_mem_nil, or_false] at hr
      subst hr
      exact rowWk_ok
    · rcases List.mem_append.1 hr with hr | hr
      · cases s
        · cases hr
        · cases hr
        · simp only [rX, List.mem_cons, List.not_mem_nil, or_false] at hr
          subst hr
          exact mx_xr (n := na) (z := za) (by decide) (by decide) (by decide) (by decide) (by decide) (by decide) rfl rfl hca.fits (by omega) rfl rfl
      · cases u
        · cases hr
        · cases hr
        · simp only [rX, List.mem_cons, List.not_mem_nil, or_false] at hr
          subst hr
          exact mx_xr (n := nb) (z := zb) (by decide) (by decide) (by decide) (by decide) (by decide) (by decide) rfl rfl hcb.fits (by omega) rfl rfl

theorem chachaMixes_lifted (os : Os) (started : os.Started) (H : Type) (enc : TypeId × Value → H) :
    ReturnsInHanded {} Try.checked os 5 .any (Rows.chachaMixesSpec.pre6 enc Try.prog Try.f5 Rows.chachaMixesRow.domain false) (Rows.chachaMixesSpec.post enc Try.prog Try.f5 false true false false) := by
  refine returnsInHanded_of_change (C := Try.checked) own started (by kernel_rfl) Try.func5
    (ChangeSpec.witness6 (enc := enc) (C := Try.checked) false ⟨#[], #[(.agg (List.replicate 32 (.int .u8 0)).toArray), .int .u32 0, (.agg (List.replicate 12 (.int .u8 0)).toArray), .slice none 0 0, .slice none 0 0], []⟩ 8 (by kernel_rfl) (by kernel_rfl) (by kernel_rfl) (by kernel_rfl)) ?_
  intro W base args ds gs before hval0 hW hcnd _
  have hval : ∀ (j : Nat) t v, Try.f5.params[j]? = some t → args[j]? = some v → Value.okWide Try.prog W .any base t v := hval0
  have hW' := hW
  obtain ⟨p, q, hA0, hV, rfl, hfz, hnd⟩ := hW
  have hA : DataW.TrodAll enc Try.prog W 0 (fun _ => true) true Try.f5.params.toList args.toList ds p := hA0
  rw [Try.params5] at hA hval
  obtain ⟨v0, vs0, d0, ds0, p0, q0, hargs, rfl, rfl, h0, r0⟩ := trodAll_cons hA
  obtain ⟨v1, vs1, d1, ds1, p1, q1, rfl, rfl, rfl, h1, r1⟩ := trodAll_cons r0
  obtain ⟨v2, vs2, d2, ds2, p2, q2, rfl, rfl, rfl, h2, r2⟩ := trodAll_cons r1
  obtain ⟨v3, vs3, d3, ds3, p3, q3, rfl, rfl, rfl, h3, r3⟩ := trodAll_cons r2
  obtain ⟨v4, vs4, d4, ds4, p4, q4, rfl, rfl, rfl, h4, r4⟩ := trodAll_cons r3
  obtain ⟨rfl, rfl, rfl⟩ := trodAll_nil r4
  obtain rfl : args = #[v0, v1, v2, v3, v4] := by cases args; simp_all
  obtain ⟨rfl, rfl⟩ := trodVars_none hV
  obtain ⟨z0, l0, rfl, b0, rfl, s0⟩ := open_array Try.underlying22 Try.underlying5 cells1 (by kernel_rfl) (hval 0 _ v0 rfl rfl) h0
  obtain ⟨a1, rfl, rfl, rfl, b1⟩ := open_int Try.underlying23 (hval 1 _ v1 rfl rfl) h1
  have s1 := plain_int (H := H) Try.underlying23 b1
  obtain ⟨z2, l2, rfl, b2, rfl, s2⟩ := open_array Try.underlying24 Try.underlying5 cells1 (by kernel_rfl) (hval 2 _ v2 rfl rfl) h2
  obtain ⟨z3, k3, w3, _⟩ := reads_open Try.underlying25 Try.underlying5 cells1 (hval 3 _ v3 rfl rfl) h3
  obtain ⟨z4, k4, w4, _⟩ := reads_open Try.underlying25 Try.underlying5 cells1 (hval 4 _ v4 rfl rfl) h4
  clear hA0 hval0
  simp only [List.append_nil] at hW'
  have hlt : ∀ x ∈ p3 ++ p4, x.block < W.heap.size := fun x hx => hW'.lt x hx
  refine (chachaMixes_law k3 w3 k4 w4 z0 l0 a1 z2 l2 b0 b1 b2).mono fun e W' ⟨he, hg⟩ => ?_
  subst he
  exact ⟨_, rfl, post_below (pa := p3 ++ p4) (pv := []) hW' (fun _ _ _ => trodAll_cons_mk (shut_bool Try.underlying4 _) trodAll_mk0) (fun sp hsp => (by have hh := (trodAll_cons_mk (s0 _ _ _ _ _) (trodAll_cons_mk (s1 _ _ _ _ _) (trodAll_cons_mk (s2 _ _ _ _ _) (trodAll_cons_mk (kept_arg laidOut (by kernel_rfl) (of_decide_eq_true (by kernel_rfl)) h3 hg (fun x hx => hlt x (by simp [hx])) (fun x hx => hsp x (by simp [hx]))) (trodAll_cons_mk (kept_arg laidOut (by kernel_rfl) (of_decide_eq_true (by kernel_rfl)) h4 hg (fun x hx => hlt x (by simp [hx])) (fun x hx => hsp x (by simp [hx]))) trodAll_mk0))))); simp only [List.append_nil] at hh; exact hh)) (fun _ _ => rfl) (by simp)
    hg (ok_one (by kernel_rfl) rfl (okWide_bool_mk Try.underlying4 _))⟩

/-- THE STATEMENT. -/
theorem chachaMixes_holds : Rows.ChachaMixesSaid :=
  OpenClaim.holds_of_wide 5 Try.f5 rfl rfl rfl rfl rfl rfl rfl ⟨rfl, rfl, rfl, rfl, rfl⟩ rfl rfl rfl rfl rfl (by kernel_rfl) Try.func5 (by kernel_rfl)
    (of_decide_eq_true (by kernel_rfl)) (by unfold Func.isWrapper; first | (rw [if_pos (by decide +kernel)]; kernel_rfl) | (rw [if_neg (by decide +kernel)]; exact ⟨rfl, rfl⟩))
    (fun os started H enc _ => chachaMixes_lifted os started H enc)
#print axioms chachaMixes_holds
end Go.Proofs.Ytakegcfpbacefaa
