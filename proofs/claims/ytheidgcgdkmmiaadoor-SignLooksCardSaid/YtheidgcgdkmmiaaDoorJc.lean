/-
 THE CURVE: what its functions answer of points; how a law is told whose row lists the curve's variables. Own work.
-/
import Derived.Test.YtheidgcgdkmmiaaDoorJb
import Derived.Test.YtheidgcgdkmmiaaDoorCards
import Derived.Test.YtheidgcgdkmmiaaDoorTie
import Derived.LaidMore
import Derived.Stop.Joined
import Derived.MakeChecks
namespace Go.Proofs.YtheidgcgdkmmiaaDoor
open Go.Sh
open Go.ChangeShapes Go.WideShapes Go.ChangeAt Go.RowKit
set_option maxRecDepth 100000
/-! read, of points and of others -/
theorem enc_parts (P : Pt) : qaD (enc P) = P.y.val ∧ enc P / qay = P.x.val % 2 := by
 have h := val_lt P.y
 unfold enc qaD qay
 unfold qaa at h
 omega
theorem root_of_sq {x : F} {xx : Nat} (h : em xx = x * x) (hx : x ≠ 0) : ∃ r, qaL e8 e4 xx = some r := by
 refine root_there (pow_half_sq (z := x.val) ?_ ?_)
 ·have e : em (x.val * x.val % qaa) = em xx := by rw [qaW, em_val, h]
  have := em_eq.1 e
  rwa [Nat.mod_mod] at this
 ·intro h0
  have : em xx = 0 := em_is_zero.2 h0
  rw [h] at this
  rcases fz this with h1 | h1 <;> exact hx h1
theorem root_em {xx r : Nat} (h : qaL e8 e4 xx = some r) : em r * em r = em xx ∧ r < qaa ∧ r % 2 = 0 := by
 obtain ⟨h1, h2, h3⟩ := root_some h
 refine ⟨?_, h1, h2⟩
 rw [← qaW, h3, em_mod]
theorem read_yes (P : Pt) : qa4 Tryd.prog glC 39 [byt (enc P)] (readY P) := by
 obtain ⟨e1, e2⟩ := enc_parts P
 obtain ⟨yy, o, dy, u, i, xx, k⟩ := rdN_is (enc P) (by rw [e1]; exact val_lt _)
 obtain ⟨k1, k2⟩ := qbb k
 have hxx : em xx = P.x * P.x := by
  rw [k1, e1, em_val]
  exact on_xx.symm
 by_cases hx : P.x = 0
 ·have h0 : xx = 0 := by
   have : em xx = 0 := by
    rw [hxx, hx]
    rfl
   have := em_is_zero.1 this
   rwa [Nat.mod_eq_of_lt k2] at this
  have hr : qaL e8 e4 xx = some 0 := root_zero (by rw [h0]; rfl)
  have h := read_Ze (enc_lt P) k hr (by rw [e2, hx]; decide)
  have a1 : P.x.val = 0 := by rw [hx]; rfl
  have a2 : (P.x * P.y).val = 0 := by
   have : P.x * P.y = 0 := by
    rw [hx]
    grobner
   rw [this]; rfl
  unfold readY
  rw [a1, a2, ← e1]
  exact h
 ·obtain ⟨r, hr⟩ := root_of_sq hxx hx
  obtain ⟨r1, r2, r3⟩ := root_em hr
  have hr0 : r ≠ 0 := fun h0 => by
   rw [h0] at r1
   have : P.x * P.x = 0 := by
    rw [← hxx, ← r1]
    rfl
   rcases fz this with h1 | h1 <;> exact hx h1
  rcases sq_same (r1.trans hxx) with h | h
  ·have hv : r = P.x.val := of_em r2 h
   have ht : r * qaD (enc P) % qaa = (P.x * P.y).val := of_em (qar _) (by rw [qaW, e1, em_val, h])
   have h3 := read_E (enc_lt P) k hr hr0 r2 ht (by rw [e2, ← hv, r3]; decide)
   unfold readY
   rw [← hv, ← e1]
   exact h3
  ·have hv : r = (-P.x).val := of_em r2 h
   rw [neg_val hx] at hv
   have hpl := val_lt P.x
   have hodd : P.x.val % 2 = 1 := by
    unfold qaa at hv hpl
    omega
   have hx' : (0 + (qaa - r % qaa)) % qaa = P.x.val := of_em (qar _) (by
    rw [em_sub, h, em_zero]
    generalize P.x = x
    grobner)
   have ht : P.x.val * qaD (enc P) % qaa = (P.x * P.y).val := of_em (qar _) (by rw [qaW, e1, em_val, em_val])
   have h3 := read_O (enc_lt P) k hr hr0 r2 hx' ht (by rw [e2, hodd])
   unfold readY
   rw [← e1]
   exact h3
theorem read_no {n : Nat} (hn : n < B4) (h : ∀ P, enc P ≠ n) : qa4 Tryd.prog glC 39 [byt n] readNo := by
 by_cases hy : qaD n < qaa
 ·obtain ⟨yy, o, dy, u, i, xx, k⟩ := rdN_is n hy
  obtain ⟨k1, k2⟩ := qbb k
  cases hr : qaL e8 e4 xx with
  | none => exact read_N k hr
  | some r =>
    obtain ⟨r1, r2, r3⟩ := root_em hr
    have hsplit : n = qaD n + qay * (n / qay) := by
     unfold qaD qay
     omega
    have hq : n / qay = 0 ∨ n / qay = 1 := by
     unfold qay
     unfold B4 at hn
     omega
    have hyv : (em (qaD n)).val = qaD n := Nat.mod_eq_of_lt hy
    by_cases hz : n / qay = 1
    ·by_cases h0 : r = 0
     ·subst h0
      exact read_Zo hn k hr hz
     ·exfalso
      have hx0 : em r ≠ 0 := fun hc => h0 (by
       have := em_is_zero.1 hc
       rwa [Nat.mod_eq_of_lt r2] at this)
      have hs : (-em r) * (-em r) = (em (qaD n) * em (qaD n) - 1) * inv (dE * (em (qaD n) * em (qaD n)) + 1) := by
       rw [← k1, ← r1]
       generalize em r = e
       grobner
      refine h ⟨-em r, em (qaD n), xx_on hs (den_all _)⟩ ?_
      unfold enc
      simp only
      rw [hyv, neg_val hx0]
      have e : (em r).val = r := Nat.mod_eq_of_lt r2
      rw [e]
      have : (qaa - r) % 2 = 1 := by
       unfold qaa at *
       omega
      rw [this, ← hz]
      exact hsplit.symm
    ·exfalso
     have hs : em r * em r = (em (qaD n) * em (qaD n) - 1) * inv (dE * (em (qaD n) * em (qaD n)) + 1) := by rw [← k1, ← r1]
     refine h ⟨em r, em (qaD n), xx_on hs (den_all _)⟩ ?_
     unfold enc
     simp only
     have e : (em r).val = r := Nat.mod_eq_of_lt r2
     rw [hyv, e, r3]
     have h5 := hq.resolve_right hz
     rw [h5] at hsplit
     exact hsplit.symm
 ·exact read_A n hy
/-! rows of these -/
theorem rep_read (P : Pt) : Rep (em4 P.x.val P.y.val 1 (P.x * P.y).val) P := by
 unfold em4
 rw [em_val, em_val, em_val]
 refine ⟨by show em 1 ≠ 0; decide +kernel, ?_, ?_, ?_⟩
 ·show P.x = P.x * em 1
  have : em 1 = 1 := rfl
  rw [this]
  grobner
 ·show P.y = P.y * em 1
  have : em 1 = 1 := rfl
  rw [this]
  grobner
 ·show P.x * P.y = P.x * P.y * em 1
  have : em 1 = 1 := rfl
  rw [this]
  grobner
theorem em4_of (p : P4) : em4 p.x.val p.y.val p.z.val p.t.val = p := by
 unfold em4
 rw [em_val, em_val, em_val, em_val]
def z128v : AV := .ag z128
theorem z128_val (ν : Nat → Int) : qag ν z128v = some (ptv 0 0 0 0) := by kernel_rfl
theorem rowReadY {ν : Nat → Int} {p r : AV} (P : Pt) (h1 : qag ν p = some (byt (enc P))) (h2 : qag ν r = some (ptv P.x.val P.y.val 1 (P.x * P.y).val)) : Row.OkG ν Tryd.prog glC ⟨39, [p], .tp [r, .b true]⟩ := ⟨[byt (enc P)], _, by simp [qai, h1], tp2 true h2, read_yes P⟩
theorem rowReadN {ν : Nat → Int} {p : AV} {n : Nat} (hn : n < B4) (h : ∀ P, enc P ≠ n) (h1 : qag ν p = some (byt n)) : Row.OkG ν Tryd.prog glC ⟨39, [p], .tp [z128v, .b false]⟩ := ⟨[byt n], _, by simp [qai, h1], tp2 false (z128_val ν), read_no hn h⟩
theorem rowLayG {ν : Nat → Int} {p r : AV} {a b c d : Nat} (la : a < B4) (lb : b < B4) (lc : c < B4) {P : Pt} (h : Rep (em4 a b c d) P) (h1 : qag ν p = some (ptv a b c d)) (h2 : conc ν r = some (byt (enc P))) : Row.OkG ν Tryd.prog glB ⟨45, [p], r⟩ := ⟨[ptv a b c d], _, by simp [qai, h1], h2, layP_ok la lb lc h⟩
theorem vB (x : F) : x.val < B4 := pBl (val_lt x)
/-! Check -/
def eOKg : AV := .i .i64 (.c (.ofNat 0))
def ePoint : AV := .i .i64 (.c (.ofNat 4))
/-! Add -/
def adY : List Row := [⟨39, [rw8 0], .tp [rwP 2 3 4 5, .b true]⟩, ⟨39, [rw8 1], .tp [rwP 6 7 8 9, .b true]⟩, ⟨61, [rwP 2 3 4 5, rwP 6 7 8 9], rwP 10 11 12 13⟩, ⟨45, [rwP 10 11 12 13], rw8 14⟩]
theorem adY_says : saysG qae tree [] glC adY 100 3 34 [rw8 0, rw8 1] (.tp [rw8 14, eOKg]) = true := by kernel_rfl
theorem tpE {ν : Nat → Int} {a : AV} {v : Value} (n : Nat) (h : qag ν a = some v) : conc ν (.tp [a, .i .i64 (.c (.ofNat n))]) = some (.tuple #[v, .int .i64 n]) := by
 show (qai ν [a, .i .i64 (.c (.ofNat n))]).map (fun vs => Value.tuple vs.toArray) = _
 have hb : qag ν (.i .i64 (.c (.ofNat n))) = some (.int .i64 n) := rfl
 simp only [qai, h, hb]
 rfl
theorem addC_core (n m a b c d a' b' c' d' X Y Z T e : Nat) (r1 : qa4 Tryd.prog glC 39 [byt n] (.tuple #[ptv a b c d, .bool true])) (r2 : qa4 Tryd.prog glC 39 [byt m] (.tuple #[ptv a' b' c' d', .bool true])) (r3 : qa4 Tryd.prog glB 61 [ptv a b c d, ptv a' b' c' d'] (ptv X Y Z T))
  (r4 : qa4 Tryd.prog glB 45 [ptv X Y Z T] (byt e)) : qa4 Tryd.prog glC 34 [byt n, byt m] (.tuple #[byt e, .int .i64 0]) := by
 refine qaY (ν := nub [n, m, a, b, c, d, a', b', c', d', X, Y, Z, T, e]) (args := [rw8 0, rw8 1]) (qab _) qak qaf glC_ok (fun r hr => by cases hr) (fun r hr => ?_) adY_says (by simp [qai, qax]) (tpE 0 (qax _ 14))
 simp only [adY, List.mem_cons, List.not_mem_nil, or_false] at hr
 rcases hr with rfl | rfl | rfl | rfl
 ·exact ⟨[byt n], _, by simp [qai, qax], tp2 true (nubP _ 2 3 4 5), r1⟩
 ·exact ⟨[byt m], _, by simp [qai, qax], tp2 true (nubP _ 6 7 8 9), r2⟩
 ·exact OkG_up upC (rowAddG r3 (nubP _ 2 3 4 5) (nubP _ 6 7 8 9) (nubPc _ 10 11 12 13))
 ·exact ⟨[ptv X Y Z T], _, by simp [qai, nubP], qaN _ 14, pureG_up upC r4⟩
theorem read_yes' (P : Pt) : qa4 Tryd.prog glC 39 [byt (enc P)] (.tuple #[ptv P.x.val P.y.val 1 (P.x * P.y).val, .bool true]) := read_yes P
theorem Add_yes (P Q : Pt) : qa4 Tryd.prog glC 34 [byt (enc P), byt (enc Q)] (.tuple #[byt (enc (P.add Q)), .int .i64 0]) := by
 obtain ⟨X, Y, Z, T, lX, lY, lZ, lT, e1, r1⟩ := addP_ok P.x.val P.y.val 1 (P.x * P.y).val Q.x.val Q.y.val 1 (Q.x * Q.y).val (vB _) (vB _) (by decide) (vB _) (vB _) (vB _) (by decide) (vB _)
 have hrep : Rep (em4 X Y Z T) (P.add Q) := by
  rw [e1]
  exact fadd_rep (rep_read P) (rep_read Q)
 exact addC_core _ _ _ _ _ _ _ _ _ _ _ _ _ _ _ (read_yes' P) (read_yes' Q) r1 (layP_ok (pBl lX) (pBl lY) (pBl lZ) hrep)
/-! Times -/
def tiY : List Row := [⟨39, [rw8 1], .tp [rwP 2 3 4 5, .b true]⟩, ⟨46, [rw8 0, rwP 2 3 4 5], rwP 6 7 8 9⟩, ⟨45, [rwP 6 7 8 9], rw8 10⟩]
theorem tiY_says : saysG qae tree [] glC tiY 100 3 33 [rw8 0, rw8 1] (.tp [rw8 10, eOKg]) = true := by kernel_rfl
theorem rowTimesG {ν : Nat → Int} {p q r : AV} {n a b c d : Nat} (la : a < B4) (lb : b < B4) (lc : c < B4) (ld : d < B4) {s : P4} (h : qaM (em4 a b c d) n 256 = s) (h1 : qag ν p = some (byt n)) (h2 : qag ν q = some (ptv a b c d)) (h3 : conc ν r = some (ptv s.x.val s.y.val s.z.val s.t.val)) : Row.OkG ν Tryd.prog glB ⟨46, [p, q], r⟩ := ⟨[byt n, ptv a b c d], _, by simp [qai, h1, h2], h3, timesP_ok n a b c d la lb lc ld s h⟩
theorem B4_is : B4 = 2 ^ 256 := by decide
theorem times_core (n : Nat) (P : Pt) (s : P4) (hs : qaM (em4 P.x.val P.y.val 1 (P.x * P.y).val) n 256 = s) (R : Pt) (hR : Rep s R) : qa4 Tryd.prog glC 33 [byt n, byt (enc P)] (.tuple #[byt (enc R), .int .i64 0]) := by
 have hR' : Rep (em4 s.x.val s.y.val s.z.val s.t.val) R := by rw [em4_of]; exact hR
 refine qaY (ν := nub [n, enc P, P.x.val, P.y.val, 1, (P.x * P.y).val, s.x.val, s.y.val, s.z.val, s.t.val, enc R]) (args := [rw8 0, rw8 1]) (qab _) qak qaf glC_ok (fun r hr => by cases hr) (fun r hr => ?_) tiY_says (by simp [qai, qax]) (tpE 0 (qax _ 10))
 simp only [tiY, List.mem_cons, List.not_mem_nil, or_false] at hr
 rcases hr with rfl | rfl | rfl
 ·exact rowReadY P (qax _ 1) (nubP _ 2 3 4 5)
 ·exact OkG_up upC (rowTimesG (vB _) (vB _) (by decide) (vB _) hs (qax _ 0) (nubP _ 2 3 4 5) (nubPc _ 6 7 8 9))
 ·exact OkG_up upC (rowLayG (vB _) (vB _) (vB _) hR' (nubP _ 6 7 8 9) (qaN _ 10))
theorem Times_yes (n : Nat) (hn : n < B4) (P : Pt) : qa4 Tryd.prog glC 33 [byt n, byt (enc P)] (.tuple #[byt (enc (smul n P)), .int .i64 0]) :=
 times_core n P _ rfl _ (ftimes_all (rep_read P) (by rw [← B4_is]; exact hn))
/-! Base -/
def bXn : Nat := 15112221349535400772501151409588531511454012693041857206046113283949847762202
def bYn : Nat := 46316835694926478169428394003475163141307993866256225615783033603165251855960
def bTn : Nat := 46827403850823179245072216630277197565144205554125654976674165829533817101731
def bPt : AV := .ag (c8 bXn ++ (c8 bYn ++ (c8 1 ++ c8 bTn)))
def bsT : List Row := [⟨72, [kB bXn, kB bYn], kB bTn⟩]
theorem bs_says : saysG qae tree bsT glB [] 100 3 47 [] bPt = true := by kernel_rfl
theorem bPt_val (ν : Nat → Int) : qag ν bPt = some (ptv bXn bYn 1 bTn) := ptv_of (c8_val _ bXn) (c8_val _ bYn) (c8_val _ 1) (c8_val _ bTn) ⟨_, _, _, rfl⟩
theorem base_ok : qa4 Tryd.prog glB 47 [] (ptv bXn bYn 1 bTn) := by
 refine qaY (ν := nub []) (args := []) (qab _) qak qaf glB_ok (fun r hr => ?_) (fun r hr => by cases hr) bs_says rfl (bPt_val _)
 simp only [bsT, List.mem_cons, List.not_mem_nil, or_false] at hr
 subst hr
 exact qba (x := bXn) (y := bYn) (by decide) (by decide) (qbz _ _) (qbz _ _) (by rw [show bXn * bYn % qaa = bTn by decide +kernel]; exact kB_valc _ _)
theorem rep_base : Rep (em4 bXn bYn 1 bTn) pB0 := by
 refine ⟨by decide +kernel, by decide +kernel, by decide +kernel, by decide +kernel⟩
def baT : List Row := [⟨47, [], bPt⟩, ⟨46, [rw8 0, bPt], rwP 1 2 3 4⟩, ⟨45, [rwP 1 2 3 4], rw8 5⟩]
theorem ba_says : saysG qae tree [] glB baT 100 3 23 [rw8 0] (rw8 5) = true := by kernel_rfl
theorem base_core (n : Nat) (s : P4) (hs : qaM (em4 bXn bYn 1 bTn) n 256 = s) (R : Pt) (hR : Rep s R) : qa4 Tryd.prog glB 23 [byt n] (byt (enc R)) := by
 have hR' : Rep (em4 s.x.val s.y.val s.z.val s.t.val) R := by rw [em4_of]; exact hR
 refine qaY (ν := nub [n, s.x.val, s.y.val, s.z.val, s.t.val, enc R]) (args := [rw8 0]) (qab _) qak qaf glB_ok (fun r hr => by cases hr) (fun r hr => ?_) ba_says (by simp [qai, qax]) (qaN _ 5)
 simp only [baT, List.mem_cons, List.not_mem_nil, or_false] at hr
 rcases hr with rfl | rfl | rfl
 ·exact ⟨[], _, rfl, bPt_val _, base_ok⟩
 ·exact rowTimesG (by decide) (by decide) (by decide) (by decide) hs (qax _ 0) (bPt_val _) (nubPc _ 1 2 3 4)
 ·exact rowLayG (vB _) (vB _) (vB _) hR' (nubP _ 1 2 3 4) (qaN _ 5)
theorem Base_ok (n : Nat) (hn : n < B4) : qa4 Tryd.prog glB 23 [byt n] (byt (enc (smul n pB0))) :=
 base_core n _ rfl _ (ftimes_all rep_base (by rw [← B4_is]; exact hn))
/-! wakes -/
theorem rowBase {ν : Nat → Int} {p r : AV} {n e : Nat} (hn : n < B4) (he : enc (smul n pB0) = e) (h1 : qag ν p = some (byt n)) (h2 : conc ν r = some (byt e)) : Row.OkG ν Tryd.prog glB ⟨23, [p], r⟩ := ⟨[byt n], _, by simp [qai, h1], by rw [he]; exact h2, Base_ok n hn⟩
theorem rowTimesPt {ν : Nat → Int} {p q r : AV} {n m e : Nat} (hn : n < B4) {P : Pt} (hp : enc P = m) (he : enc (smul n P) = e) (h1 : qag ν p = some (byt n)) (h2 : qag ν q = some (byt m)) (h3 : qag ν r = some (byt e)) : Row.OkG ν Tryd.prog glC ⟨33, [p, q], .tp [r, eOKg]⟩ := by
 have h := Times_yes n hn P
 rw [hp, he] at h
 exact ⟨[byt n, byt m], _, by simp [qai, h1, h2], tpE 0 h3, h⟩
theorem rowAddPt {ν : Nat → Int} {p q r : AV} {n m e : Nat} {P Q : Pt} (hp : enc P = n) (hq : enc Q = m) (he : enc (P.add Q) = e) (h1 : qag ν p = some (byt n)) (h2 : qag ν q = some (byt m)) (h3 : qag ν r = some (byt e)) : Row.OkG ν Tryd.prog glC ⟨34, [p, q], .tp [r, eOKg]⟩ := by
 have h := Add_yes P Q
 rw [hp, hq, he] at h
 exact ⟨[byt n, byt m], _, by simp [qai, h1, h2], tpE 0 h3, h⟩
theorem gD : Tryd.prog.globalNamed "tryst/curve.d" = some 0 := by kernel_rfl
theorem gT : Tryd.prog.globalNamed "tryst/curve.twiceD" = some 5 := by kernel_rfl
theorem gX : Tryd.prog.globalNamed "tryst/curve.baseX" = some 2 := by kernel_rfl
theorem gY : Tryd.prog.globalNamed "tryst/curve.baseY" = some 3 := by kernel_rfl
theorem tD : (Tryd.prog.globals[0]?).map (·.type) = some 22 := by kernel_rfl
theorem tT : (Tryd.prog.globals[5]?).map (·.type) = some 22 := by kernel_rfl
theorem tX : (Tryd.prog.globals[2]?).map (·.type) = some 22 := by kernel_rfl
theorem tY : (Tryd.prog.globals[3]?).map (·.type) = some 22 := by kernel_rfl
def zsOf (x : Nat) : List Int := (byL x).map fun n => ((n : Nat) : Int)
theorem lD {H : Type} : (Rows.laid_tryst_curve_d : DataW H) = .agg ((zsOf dNat).map fun z => .lit (.int .u8 z)) := by kernel_rfl
theorem lT {H : Type} : (Rows.laid_tryst_curve_twiceD : DataW H) = .agg ((zsOf twD).map fun z => .lit (.int .u8 z)) := by kernel_rfl
theorem lX {H : Type} : (Rows.laid_tryst_curve_baseX : DataW H) = .agg ((zsOf bXn).map fun z => .lit (.int .u8 z)) := by kernel_rfl
theorem lY {H : Type} : (Rows.laid_tryst_curve_baseY : DataW H) = .agg ((zsOf bYn).map fun z => .lit (.int .u8 z)) := by kernel_rfl
theorem var_br {W : World} {nm : String} {g t : Nat} {cs : Array Value} {x fuel : Nat} {q : List MemPlace} {d : DataW Unit} (hg0 : Tryd.prog.globalNamed nm = some g) (ht0 : (Tryd.prog.globals[g]?).map (·.type) = some 22) (hl : d = .agg ((zsOf x).map fun z => .lit (.int .u8 z))) {g' : Nat} (hg : Tryd.prog.globalNamed nm = some g') (ht : (Tryd.prog.globals[g']?).map (·.type) = some t) (hv : W.var? Tryd.prog nm = some cs)
  (hd : DataW.trod (fun _ => ()) Tryd.prog W 0 (fun _ => true) false fuel t cs.toList = some (d, q)) (e : Nat) (he : e < qac) : ∀ ν ρ, BR ν ρ W (ABlk.shut ⟨(byL x).map fun n => .i .u8 (.c (.ofNat n)), e, true⟩) ⟨g, 0, 0⟩ := by
 intro ν ρ
 obtain rfl := Option.some.inj (hg0.symm.trans hg)
 obtain rfl := Option.some.inj (ht0.symm.trans ht)
 rw [hl] at hd
 refine br_cells (by intro h; have := congrArg List.length h; simp [qaX] at this) (by rw [Bool.eq_false_iff]; intro h; exact absurd (Nat.le_of_ble_eq_true h) (Nat.not_le_of_lt he)) fun j c hc => ?_
 simp only [List.getElem?_map, Option.map_eq_some_iff] at hc
 obtain ⟨z, hz, rfl⟩ := hc
 have hzz : (zsOf x)[j]? = some (z : Int) := by
  unfold zsOf
  rw [List.getElem?_map, hz]
  rfl
 have hcell := array_cells Tryd.underlying22 Tryd.underlying5 cells1 hd j z hzz
 refine ⟨.int .u8 (z : Int), ?_, .i _ (.c (.ofNat z))⟩
 rw [Nat.zero_add, World.var?_cell hg hv j]
 simpa using hcell
end Go.Proofs.YtheidgcgdkmmiaaDoor
