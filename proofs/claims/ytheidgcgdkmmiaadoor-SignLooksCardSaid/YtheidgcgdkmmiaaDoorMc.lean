/-
 THE PAGE's side: Kc. Own work.
-/
import Derived.Test.YtheidgcgdkmmiaaDoorMb
namespace Go.Proofs.YtheidgcgdkmmiaaDoor
open Go.Sh
open Go.ChangeShapes Go.WideShapes Go.ChangeAt Go.RowKit
set_option maxRecDepth 100000
/-! names: a number's bytes, then words -/
def nux (n : Nat) (l : List Nat) : Nat → Int := fun k => if k < 32 then nub [n] k else nuw l (k - 32)
theorem nux_b (n : Nat) (l : List Nat) : ∀ i, i < 32 → nux n l (0 + i) = (((byL n).getD i 0 : Nat) : Int) := by
 intro i hi
 have h := qbj [n] 0 i hi
 rw [Nat.mul_zero, List.getD_cons_zero] at h
 unfold nux
 rw [if_pos (by omega)]
 exact h
theorem nux_w (n : Nat) (l : List Nat) (k : Nat) : nux n l (32 + k) = nuw l k := by
 unfold nux
 rw [if_neg (by omega), Nat.add_sub_cancel_left]
theorem nux_wel (n : Nat) (l : List Nat) (j : Nat) : qap (nux n l) (wel (8 + j)) = some ((numL (l.getD j 0)).map u64) := by
 have h : qai (nuw l) (wel j) = some (welV (l.getD j 0)) := nuw_wel l j
 have e : ∀ i, nux n l (4 * (8 + j) + i) = nuw l (4 * j + i) := by
  intro i
  rw [show 4 * (8 + j) + i = 32 + (4 * j + i) by omega, nux_w]
 show some [Value.int .u64 (nux n l (4 * (8 + j) + 0)), .int .u64 (nux n l (4 * (8 + j) + 1)), .int .u64 (nux n l (4 * (8 + j) + 2)), .int .u64 (nux n l (4 * (8 + j) + 3))] = _
 rw [e, e, e, e]
 exact h
theorem qbi (n : Nat) (l : List Nat) (j : Nat) : qag (nux n l) (rw4 (8 + j)) = some (num (l.getD j 0)) := by
 show (qap (nux n l) (wel (8 + j))).map (fun vs => Value.agg vs.toArray) = _
 rw [nux_wel]
 rfl
theorem nux_rwc (n : Nat) (l : List Nat) (j : Nat) : conc (nux n l) (rw4 (8 + j)) = some (num (l.getD j 0)) := qbi n l j
theorem nux_rw8 (n : Nat) (l : List Nat) : qag (nux n l) (rw8 0) = some (byt n) := by
 have e := mid_conc (ν := nux n l) (j := 0) 32 (byL n) (nux_b n l) rfl [] [] rfl
 rw [List.append_nil, List.append_nil] at e
 show (qap (nux n l) ((List.range 32).map fun i => bt (0 + i))).map (fun vs => Value.agg vs.toArray) = _
 rw [e]
 rfl
theorem nux_pl (n : Nat) (l : List Nat) : qag (nux n l) (.ag (plB 0)) = some (byt (qaD n)) := plB_val _ _ _ (pl_conc (nux_b n l))
/-! less -/
theorem lessY_says : says qae tree [⟨87, [rw4 0, rw4 1], .tp [rw4 2, .i .u64 (.c (.ofNat 1))]⟩] 100 3 62 [rw4 0, rw4 1] (qaA [] gmax) (.b true) = true := by kernel_rfl
theorem lessN_says : says qae tree [⟨87, [rw4 0, rw4 1], .tp [rw4 2, .i .u64 (.c (.ofNat 0))]⟩] 100 3 62 [rw4 0, rw4 1] (qaA [] gmax) (.b false) = true := by kernel_rfl
theorem less_val (x y s : Nat) (k : Nat) : conc (nuw [x, y, s]) (.tp [rw4 2, .i .u64 (.c (.ofNat k))]) = some (.tuple #[num s, u64 k]) := by
 show (qai (nuw [x, y, s]) [rw4 2, .i .u64 (.c (.ofNat k))]).map (fun vs => Value.tuple vs.toArray) = _
 simp only [qai, nuwR [x, y, s] 2]
 rfl
theorem less_core (x y s k : Nat) (b : Bool) (h : Pure Tryd.prog 87 [num x, num y] (.tuple #[num s, u64 k])) (hs : says qae tree [⟨87, [rw4 0, rw4 1], .tp [rw4 2, .i .u64 (.c (.ofNat k))]⟩] 100 3 62 [rw4 0, rw4 1] (qaA [] gmax) (.b b) = true) : Pure Tryd.prog 62 [num x, num y] (.bool b) := by
 refine qan (ν := nuw [x, y, s]) (args := [rw4 0, rw4 1]) (qab _) qak qaf (fun r hr => ?_) hs (by simp [qai, nuwR]) rfl
 simp only [List.mem_cons, List.not_mem_nil, or_false] at hr
 subst hr
 exact ⟨[num x, num y], _, by simp [qai, nuwR], less_val x y s k, h⟩
theorem less_yes {x y : Nat} (hy : y < B4) (h : x < y) : Pure Tryd.prog 62 [num x, num y] (.bool true) := less_core x y _ 1 true (rsub_lt x y hy h) lessY_says
theorem less_no {x y : Nat} (hx : x < B4) (h : ¬ x < y) : Pure Tryd.prog 62 [num x, num y] (.bool false) := less_core x y _ 0 false (rsub_ge x y hx (Nat.le_of_not_lt h)) lessN_says
/-! rows -/
theorem rowOfP {ν : Nat → Int} {p r : AV} {x : Nat} (h1 : qag ν p = some (byt x)) (h2 : conc ν r = some (num x)) : Row.Ok ν Tryd.prog ⟨53, [p], r⟩ := ⟨[byt x], num x, by simp [qai, h1], h2, Of_ok x⟩
theorem rowInvW {ν : Nat → Int} {p r : AV} {x : Nat} (hx : x < B4) (h1 : qag ν p = some (num x)) (h3 : conc ν r = some (num (x ^ qbg % qaa))) : Row.Ok ν Tryd.prog ⟨67, [p], r⟩ := ⟨[num x], _, by simp [qai, h1], h3, rInv_ok x hx⟩
theorem rowRootWY {ν : Nat → Int} {p r : AV} {x y : Nat} (hx : x < B4) (hy : qaL e8 e4 x = some y) (h1 : qag ν p = some (num x)) (h3 : qag ν r = some (num y)) : Row.Ok ν Tryd.prog ⟨65, [p], .tp [r, .b true]⟩ :=
 ⟨[num x], rootN (some y), by simp [qai, h1], tp2 true h3, hy ▸ rRoot_ok x hx⟩
theorem rowRootWN {ν : Nat → Int} {p r : AV} {x : Nat} (hx : x < B4) (hy : qaL e8 e4 x = none) (h1 : qag ν p = some (num x)) (h3 : qag ν r = some (num 0)) : Row.Ok ν Tryd.prog ⟨65, [p], .tp [r, .b false]⟩ :=
 ⟨[num x], rootN none, by simp [qai, h1], tp2 false h3, hy ▸ rRoot_ok x hx⟩
theorem rowLess {ν : Nat → Int} {p q : AV} {x y : Nat} (b : Bool) (h : Pure Tryd.prog 62 [num x, num y] (.bool b)) (h1 : qag ν p = some (num x)) (h2 : qag ν q = some (num y)) : Row.Ok ν Tryd.prog ⟨62, [p, q], .b b⟩ := ⟨[num x, num y], _, by simp [qai, h1, h2], rfl, h⟩
theorem rowD {ν : Nat → Int} : Row.Ok ν Tryd.prog ⟨69, [], kN dNat⟩ := ⟨[], _, rfl, kN_valc _ _, d_ok⟩
/-! Decode -/
def dcNo : AV := .tp [.ag z16, .b false]
def geR (b : Bool) : BinOp × AI × AI × Bool := (.geq, .s 31, .c (.ofNat 128), b)
def wne (i : Nat) : BinOp × AI × AI × Bool := (.eql, .s (60 + i), .c (.ofNat 0), false)
def dcA : List Row := [⟨53, [.ag (plB 0)], rw4 8⟩, ⟨62, [rw4 8, kN qaa], .b false⟩]
def dcB : List Row := [⟨53, [.ag (plB 0)], rw4 8⟩, ⟨62, [rw4 8, kN qaa], .b true⟩, ⟨64, [rw4 8, rw4 8], rw4 9⟩, ⟨66, [rw4 9, kN 1], rw4 10⟩, ⟨69, [], kN dNat⟩, ⟨64, [kN dNat, rw4 9], rw4 11⟩, ⟨68, [rw4 11, kN 1], rw4 12⟩, ⟨67, [rw4 12], rw4 13⟩, ⟨64, [rw4 10, rw4 13], rw4 14⟩]
def dcN : List Row := dcB ++ [⟨65, [rw4 14], .tp [kN 0, .b false]⟩]
def dcZ : List Row := dcB ++ [⟨65, [rw4 14], .tp [kN 0, .b true]⟩, ⟨64, [kN 0, rw4 8], kN 0⟩]
def dcR : List Row := dcB ++ [⟨65, [rw4 14], .tp [rw4 15, .b true]⟩]
def dcE : List Row := dcR ++ [⟨64, [rw4 15, rw4 8], rw4 16⟩]
def dcO : List Row := dcR ++ [⟨66, [kN 0, rw4 15], rw4 16⟩, ⟨64, [rw4 16, rw4 8], rw4 17⟩]
theorem dcA_says (b : Bool) : says ⟨[], [geR b], []⟩ tree dcA 200 4 36 [rw8 0] (qaA [] gmax) dcNo = true := by cases b <;> kernel_rfl
theorem dcN_says (b : Bool) : says ⟨[], [geR b], []⟩ tree dcN 200 4 36 [rw8 0] (qaA [] gmax) dcNo = true := by cases b <;> kernel_rfl
theorem dcZo_says : says ⟨[], [geR true], []⟩ tree dcZ 200 4 36 [rw8 0] (qaA [] gmax) dcNo = true := by kernel_rfl
theorem dcZe_says : says ⟨[], [geR false], []⟩ tree dcZ 200 4 36 [rw8 0] (qaA [] gmax) (.tp [.ag (cN 0 ++ (wel 8 ++ (cN 1 ++ cN 0))), .b true]) = true := by kernel_rfl
noncomputable def dcEgo (i : Nat) : Bool := says ⟨[], [geR false, wne i], []⟩ tree dcE 200 4 36 [rw8 0] (qaA [] gmax) (.tp [.ag (wel 15 ++ (wel 8 ++ (cN 1 ++ wel 16))), .b true])
noncomputable def dcOgo (i : Nat) : Bool := says ⟨[], [geR true, wne i], []⟩ tree dcO 200 4 36 [rw8 0] (qaA [] gmax) (.tp [.ag (wel 16 ++ (wel 8 ++ (cN 1 ++ wel 17))), .b true])
theorem dcE_says : (List.range 4).all (fun i => dcEgo i) = true := by kernel_rfl
theorem dcO_says : (List.range 4).all (fun i => dcOgo i) = true := by kernel_rfl
theorem geR_hold {n : Nat} {l : List Nat} (hn : n < B4) (b : Bool) (hb : decide (n / qay = 1) = b) : qaE (geR b).1 ((geR b).2.1.val (nux n l)) ((geR b).2.2.1.val (nux n l)) = (geR b).2.2.2 := by
 show (decide (nux n l 31 ≥ ((128 : Nat) : Int))) = b
 have h31 := nux_b n l 31 (by decide)
 rw [byL_get n 31 (by decide)] at h31
 have h31' : nux n l 31 = ((n / 2 ^ (8 * 31) % 256 : Nat) : Int) := h31
 rw [h31', ← hb]
 have e1 : (2 ^ (8 * 31) : Nat) = 452312848583266388373324160190187140051835877600158453279131187530910662656 := by decide
 rw [e1]
 unfold qay
 unfold B4 at hn
 have : (((n / 452312848583266388373324160190187140051835877600158453279131187530910662656 % 256 : Nat) : Int) ≥ ((128 : Nat) : Int)) ↔ (n / 57896044618658097711785492504343953926634992332820282019728792003956564819968 = 1) := by omega
 simp only [this]
theorem numL_zero {x : Nat} (hx : x < B4) (h : ∀ i, i < 4 → (numL x).getD i 0 = 0) : x = 0 := by
 obtain ⟨a0, a1, a2, a3⟩ := w_lt x
 have s1 := qbr x
 rw [Nat.div_eq_of_lt hx] at s1
 have h0 := h 0 (by decide)
 have h1 := h 1 (by decide)
 have h2 := h 2 (by decide)
 have h3 := h 3 (by decide)
 simp only [numL, List.getD_cons_zero, List.getD_cons_succ] at h0 h1 h2 h3
 rw [h0, h1, h2, h3] at s1
 simpa using s1
theorem wne_hold {n x : Nat} {l : List Nat} (hx : x < B4) (h0 : x ≠ 0) (hl : l.getD 7 0 = x) : ∃ i, i < 4 ∧ qaE (wne i).1 ((wne i).2.1.val (nux n l)) ((wne i).2.2.1.val (nux n l)) = (wne i).2.2.2 := by
 by_cases h : ∃ i, i < 4 ∧ (numL x).getD i 0 ≠ 0
 ·obtain ⟨i, hi, hne⟩ := h
  refine ⟨i, hi, ?_⟩
  show (nux n l (60 + i) == ((0 : Nat) : Int)) = false
  rw [show 60 + i = 32 + (28 + i) by omega, nux_w]
  have e : nuw l (28 + i) = (((numL x).getD i 0 : Nat) : Int) := by
   unfold nuw
   rw [show (28 + i) / 4 = 7 by omega, show (28 + i) % 4 = i by omega, hl]
  rw [e]
  simpa using hne
 ·exact absurd (numL_zero hx fun i hi => by
   by_cases hc : (numL x).getD i 0 = 0
   ·exact hc
   ·exact absurd ⟨i, hi, hc⟩ h) h0
theorem dcB_ok {n y yy o dy u i xx : Nat} (k : RdN n y yy o dy u i xx) (m : Nat) (l : List Nat) : ∀ r ∈ dcB, r.Ok (nux n (y :: yy :: o :: dy :: u :: i :: xx :: m :: l)) Tryd.prog := by
 obtain ⟨hy, hyp, hyy, ho, hdy, hu, hi, hxx⟩ := k
 have hp := nux_pl n (y :: yy :: o :: dy :: u :: i :: xx :: m :: l)
 rw [hy] at hp
 have by' := pBl hyp
 have byy : yy < B4 := hyy ▸ qah _
 have bo : o < B4 := ho ▸ qah _
 have bdy : dy < B4 := hdy ▸ qah _
 have bu : u < B4 := hu ▸ qah _
 have bi : i < B4 := hi ▸ qah _
 intro r hr
 simp only [dcB, List.mem_cons, List.not_mem_nil, or_false] at hr
 rcases hr with rfl | rfl | rfl | rfl | rfl | rfl | rfl | rfl | rfl
 ·exact rowOfP hp (nux_rwc _ _ 0)
 ·exact rowLess (x := y) (y := qaa) true (less_yes (by decide) hyp) (qbi _ _ 0) (qbk _ _)
 ·exact qaH by' by' (qbi _ _ 0) (qbi _ _ 0) (by rw [hyy]; exact nux_rwc _ _ 1)
 ·exact rowSubP' (x := yy) (y := 1) byy (by decide) (qbi _ _ 1) (qbk _ 1) (by rw [ho]; exact nux_rwc _ _ 2)
 ·exact rowD
 ·exact qaH (x := dNat) (y := yy) (by decide) byy (qbk _ dNat) (qbi _ _ 1) (by rw [hdy]; exact nux_rwc _ _ 3)
 ·exact rowAddR' (x := dy) (y := 1) bdy (by decide) (qbi _ _ 3) (qbk _ 1) (by rw [hu]; exact nux_rwc _ _ 4)
 ·exact rowInvW bu (qbi _ _ 4) (by rw [hi]; exact nux_rwc _ _ 5)
 ·exact qaH bo bi (qbi _ _ 2) (qbi _ _ 5) (by rw [hxx]; exact nux_rwc _ _ 6)
def decNo : Value := .tuple #[ptn 0 0 0 0, .bool false]
theorem dcNo_val (ν : Nat → Int) : conc ν dcNo = some decNo := by kernel_rfl
theorem cN_val (ν : Nat → Int) (x : Nat) : qap ν (cN x) = some ((numL x).map u64) := by kernel_rfl
theorem dc_hyp {n : Nat} {l : List Nat} (hn : n < B4) {b : Bool} (hb : decide (n / qay = 1) = b) : Facts.Hold ⟨[], [geR b], []⟩ (nux n l) :=
 ⟨fun q hq => (by cases hq), fun q hq => (by
  simp only [List.mem_cons, List.not_mem_nil, or_false] at hq
  subst hq
  exact geR_hold hn b hb), fun q hq => by cases hq⟩
theorem decode_A (n : Nat) (hn : n < B4) (h : ¬ qaD n < qaa) : Pure Tryd.prog 36 [byt n] decNo := by
 refine qan (ν := nux n [qaD n]) (args := [rw8 0]) (dc_hyp hn rfl) qak qaf (fun r hr => ?_) (dcA_says _) (by simp [qai, nux_rw8]) (dcNo_val _)
 simp only [dcA, List.mem_cons, List.not_mem_nil, or_false] at hr
 rcases hr with rfl | rfl
 ·exact rowOfP (nux_pl n _) (nux_rwc _ _ 0)
 ·exact rowLess (x := qaD n) (y := qaa) false (less_no (pmask_lt n) h) (qbi _ _ 0) (qbk _ _)
theorem decode_N {n y yy o dy u i xx : Nat} (hn : n < B4) (k : RdN n y yy o dy u i xx) (hr : qaL e8 e4 xx = none) : Pure Tryd.prog 36 [byt n] decNo := by
 refine qan (ν := nux n (y :: yy :: o :: dy :: u :: i :: xx :: 0 :: [])) (args := [rw8 0]) (dc_hyp hn rfl) qak qaf (fun r hr' => ?_) (dcN_says _) (by simp [qai, nux_rw8]) (dcNo_val _)
 rcases List.mem_append.1 hr' with h | h
 ·exact dcB_ok k 0 [] r h
 ·simp only [List.mem_cons, List.not_mem_nil, or_false] at h
  subst h
  exact rowRootWN (pBl (qbb k).2) hr (qbi _ _ 6) (qbk _ 0)
theorem dcZ_ok {n y yy o dy u i xx : Nat} (k : RdN n y yy o dy u i xx) (hr : qaL e8 e4 xx = some 0) : ∀ r ∈ dcZ, r.Ok (nux n (y :: yy :: o :: dy :: u :: i :: xx :: 0 :: [])) Tryd.prog := by
 intro r hr'
 rcases List.mem_append.1 hr' with h | h
 ·exact dcB_ok k 0 [] r h
 ·simp only [List.mem_cons, List.not_mem_nil, or_false] at h
  rcases h with rfl | rfl
  ·exact rowRootWY (pBl (qbb k).2) hr (qbi _ _ 6) (qbk _ 0)
  ·exact qaH (x := 0) (y := y) (by decide) (pBl k.hyp) (qbk _ 0) (qbi _ _ 0) (by rw [Nat.zero_mul]; exact kN_valc _ 0)
theorem decode_Zo {n y yy o dy u i xx : Nat} (hn : n < B4) (k : RdN n y yy o dy u i xx) (hr : qaL e8 e4 xx = some 0) (ho : n / qay = 1) : Pure Tryd.prog 36 [byt n] decNo :=
 qan (ν := nux n (y :: yy :: o :: dy :: u :: i :: xx :: 0 :: [])) (args := [rw8 0]) (dc_hyp hn (decide_eq_true ho)) qak qaf (dcZ_ok k hr) dcZo_says (by simp [qai, nux_rw8]) (dcNo_val _)
theorem decode_Ze {n y yy o dy u i xx : Nat} (hn : n < B4) (k : RdN n y yy o dy u i xx) (hr : qaL e8 e4 xx = some 0) (ho : n / qay ≠ 1) : Pure Tryd.prog 36 [byt n] (.tuple #[ptn 0 y 1 0, .bool true]) :=
 qan (ν := nux n (y :: yy :: o :: dy :: u :: i :: xx :: 0 :: [])) (args := [rw8 0]) (dc_hyp hn (decide_eq_false ho)) qak qaf (dcZ_ok k hr) dcZe_says (by simp [qai, nux_rw8]) (tp2 true (ptn_of (cN_val _ 0) (nux_wel n _ 0) (cN_val _ 1) (cN_val _ 0) ⟨_, _, _, rfl⟩))
theorem dc_hyp2 {n i : Nat} {l : List Nat} (hn : n < B4) {b : Bool} (hb : decide (n / qay = 1) = b) (hw : qaE (wne i).1 ((wne i).2.1.val (nux n l)) ((wne i).2.2.1.val (nux n l)) = (wne i).2.2.2) : Facts.Hold ⟨[], [geR b, wne i], []⟩ (nux n l) :=
 ⟨fun q hq => (by cases hq), fun q hq => (by
  simp only [List.mem_cons, List.not_mem_nil, or_false] at hq
  rcases hq with rfl | rfl
  ·exact geR_hold hn b hb
  ·exact hw), fun q hq => by cases hq⟩
theorem decode_E {n y yy o dy u i xx x t : Nat} (hn : n < B4) (k : RdN n y yy o dy u i xx) (hr : qaL e8 e4 xx = some x) (h0 : x ≠ 0) (lx : x < qaa) (ht : x * y % qaa = t) (ho : n / qay ≠ 1) : Pure Tryd.prog 36 [byt n] (.tuple #[ptn x y 1 t, .bool true]) := by
 obtain ⟨j, hj, hw⟩ := wne_hold (n := n) (l := y :: yy :: o :: dy :: u :: i :: xx :: x :: [t]) (pBl lx) h0 rfl
 have hs : dcEgo j = true := List.all_eq_true.1 dcE_says j (List.mem_range.2 hj)
 refine qan (ν := nux n (y :: yy :: o :: dy :: u :: i :: xx :: x :: [t])) (args := [rw8 0]) (dc_hyp2 hn (decide_eq_false ho) hw) qak qaf (fun r hr' => ?_) hs (by simp [qai, nux_rw8]) (tp2 true (ptn_of (nux_wel n _ 7) (nux_wel n _ 0) (cN_val _ 1) (nux_wel n _ 8) ⟨_, _, _, rfl⟩))
 rcases List.mem_append.1 hr' with h | h
 ·rcases List.mem_append.1 h with h | h
  ·exact dcB_ok k x [t] r h
  ·simp only [List.mem_cons, List.not_mem_nil, or_false] at h
   subst h
   exact rowRootWY (pBl (qbb k).2) hr (qbi _ _ 6) (qbi _ _ 7)
 ·simp only [List.mem_cons, List.not_mem_nil, or_false] at h
  subst h
  exact qaH (pBl lx) (pBl k.hyp) (qbi _ _ 7) (qbi _ _ 0) (by rw [ht]; exact nux_rwc _ _ 8)
theorem decode_O {n y yy o dy u i xx x x' t : Nat} (hn : n < B4) (k : RdN n y yy o dy u i xx) (hr : qaL e8 e4 xx = some x) (h0 : x ≠ 0) (lx : x < qaa) (hx : (0 + (qaa - x % qaa)) % qaa = x') (ht : x' * y % qaa = t) (ho : n / qay = 1) : Pure Tryd.prog 36 [byt n] (.tuple #[ptn x' y 1 t, .bool true]) := by
 obtain ⟨j, hj, hw⟩ := wne_hold (n := n) (l := y :: yy :: o :: dy :: u :: i :: xx :: x :: [x', t]) (pBl lx) h0 rfl
 have hs : dcOgo j = true := List.all_eq_true.1 dcO_says j (List.mem_range.2 hj)
 have lx' : x' < qaa := hx ▸ qar _
 refine qan (ν := nux n (y :: yy :: o :: dy :: u :: i :: xx :: x :: [x', t])) (args := [rw8 0]) (dc_hyp2 hn (decide_eq_true ho) hw) qak qaf (fun r hr' => ?_) hs (by simp [qai, nux_rw8]) (tp2 true (ptn_of (nux_wel n _ 8) (nux_wel n _ 0) (cN_val _ 1) (nux_wel n _ 9) ⟨_, _, _, rfl⟩))
 rcases List.mem_append.1 hr' with h | h
 ·rcases List.mem_append.1 h with h | h
  ·exact dcB_ok k x [x', t] r h
  ·simp only [List.mem_cons, List.not_mem_nil, or_false] at h
   subst h
   exact rowRootWY (pBl (qbb k).2) hr (qbi _ _ 6) (qbi _ _ 7)
 ·simp only [List.mem_cons, List.not_mem_nil, or_false] at h
  rcases h with rfl | rfl
  ·exact rowSubP' (x := 0) (y := x) (by decide) (pBl lx) (qbk _ 0) (qbi _ _ 7) (by rw [hx]; exact nux_rwc _ _ 8)
  ·exact qaH (pBl lx') (pBl k.hyp) (qbi _ _ 8) (qbi _ _ 0) (by rw [ht]; exact nux_rwc _ _ 9)
end Go.Proofs.YtheidgcgdkmmiaaDoor
