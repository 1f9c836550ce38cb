/-
 SIGNATURES: what a signature's rows answer. Own work.
-/
import Derived.Test.YtheidgcgdkmmiaaDoorRb
namespace Go.Proofs.YtheidgcgdkmmiaaDoor
open Go.Sh
open Go.ChangeShapes Go.WideShapes Go.ChangeAt Go.RowKit
set_option maxRecDepth 100000
/-! A SIGNATURE, as numbers -/
def zS (x : Nat) : Wd := fun j => (((byL x).getD j 0 : Nat) : Int)
def zR (x : Nat) (zz : Nat → Nat) : Wd := fun j => if j < 32 then (dgt (zS x) 32 (32 + j) : Int) else (zz (j - 32) : Int)
def zK (p q : Nat) (zz : Nat → Nat) : Wd := fun j => if j < 32 then (((byL p).getD j 0 : Nat) : Int) else if j < 64 then (((byL q).getD (j - 32) 0 : Nat) : Int) else (zz (j - 64) : Int)
structure Sg where
 x : Nat
 a : Nat
 d1 : Nat
 d2 : Nat
 p : Nat
 r1 : Nat
 r2 : Nat
 r : Nat
 pl : Nat
 k1 : Nat
 k2 : Nat
 k : Nat
 s : Nat
structure Sg.Ok (g : Sg) (n : Nat) (zz : Nat → Nat) : Prop where
 h1 : g.d1 = dLo (zS g.x) 32
 h2 : g.d2 = dHi (zS g.x) 32
 ha : clN (dgt (zS g.x) 32) = g.a
 hp : enc (smul g.a pB0) = g.p
 h5 : g.r1 = dLo (zR g.x zz) (32 + n)
 h6 : g.r2 = dHi (zR g.x zz) (32 + n)
 hr : wS (dgt (zR g.x zz) (32 + n)) 64 % ordL = g.r
 hpl : enc (smul g.r pB0) = g.pl
 h9 : g.k1 = dLo (zK g.pl g.p zz) (64 + n)
 h10 : g.k2 = dHi (zK g.pl g.p zz) (64 + n)
 hk : wS (dgt (zK g.pl g.p zz) (64 + n)) 64 % ordL = g.k
 hs : (g.k * g.a + g.r) % ordL = g.s
structure Ex where
 ex : List Nat
 ey : List Nat
 zx : Nat → Wd
def ex0 : Ex := ⟨[], [], fun _ _ => 0⟩
def sgX (g : Sg) (e : Ex) : List Nat := g.x :: g.d1 :: g.d2 :: 0 :: g.p :: g.r1 :: g.r2 :: g.r :: g.pl :: g.k1 :: g.k2 :: g.k :: g.s :: e.ex
abbrev sgL (g : Sg) : List Nat := sgX g ex0
def sgN (n : Nat) (t : Nat) : Nat := if t ≤ 4 then n else if t = 6 ∨ t = 10 then 32 + n else 64 + n
def sgZ (g : Sg) (e : Ex) (zz : Nat → Nat) (t : Nat) : Wd := if t ≤ 4 then fun j => (zz j : Int) else if t = 6 ∨ t = 10 then zR g.x zz else if t ≤ 12 then zK g.pl g.p zz else e.zx t
def nuX9 (g : Sg) (e : Ex) (n : Nat) (zz : Nat → Nat) : Nat → Int := nu9 (sgX g e) (g.r :: g.k :: e.ey) (n : Int) (sgN n) (sgZ g e zz)
abbrev nuS9 (g : Sg) (n : Nat) (zz : Nat → Nat) : Nat → Int := nuX9 g ex0 n zz
section
variable {g : Sg} {e : Ex} {n : Nat} {zz : Nat → Nat}
theorem Sg.Ok.aB (H : g.Ok n zz) : g.a < B4 := by rw [← H.ha]; exact wS_B4 (clF_lt (dgt_lt _ _))
theorem Sg.Ok.rB (H : g.Ok n zz) : g.r < B4 := by rw [← H.hr]; exact modB _
theorem Sg.Ok.kB (H : g.Ok n zz) : g.k < B4 := by rw [← H.hk]; exact modB _
theorem sg_cl (H : g.Ok n zz) : qag (nuX9 g e n zz) clV = some (byt g.a) := by
 rw [← H.ha]
 exact clV_val (L := sgX g e) (z := zS g.x) (n := 32) H.h1 H.h2
theorem sgT_ok : ∀ r ∈ sgT, r.Ok (nuX9 g e n zz) Tryd.prog := by
 intro r hr
 simp only [sgT, List.mem_cons, List.not_mem_nil, or_false] at hr
 rcases hr with rfl | rfl
 ·exact rowLayS (x := g.r) (nu9_w 0 (by decide)) (nu9_bc 7 (by decide))
 ·exact rowLayS (x := g.k) (nu9_w 1 (by decide)) (nu9_bc 11 (by decide))
theorem wag {j k : Nat} {z : Wd} (hj : j + 1 < 125) (h0 : (sgX g e).getD j 0 = dLo z k) (h1 : (sgX g e).getD (j + 1) 0 = dHi z k) : qag (nuX9 g e n zz) (wAG (32 * j) 64) = some (num8 (wS (dgt z k) 64)) :=
 wAG_val (dgt_lt z k) fun i hi => (nu9_dg hj h0 h1 hi).trans (dgt_val z k i).1
theorem sgG_ok (H : g.Ok n zz) : ∀ r ∈ sgG, r.OkG (nuX9 g e n zz) Tryd.prog gl9 := by
 intro r hr
 simp only [sgG, List.mem_cons, List.not_mem_nil, or_false] at hr
 rcases hr with rfl | rfl | rfl | rfl | rfl
 ·exact OkG_up upB9 (rowBase H.aB H.hp (sg_cl H) (nu9_bc 4 (by decide)))
 ·exact OkG_up upO9 (rowRed (T := wS (dgt (zR g.x zz) (32 + n)) 64) (wS_B8 (dgt_lt _ _)) H.hr (wag (j := 5) (by decide) H.h5 H.h6) (nu9_wc 0 (by decide)))
 ·exact OkG_up upB9 (rowBase H.rB H.hpl (qbC 7 (by decide)) (nu9_bc 8 (by decide)))
 ·exact OkG_up upO9 (rowRed (T := wS (dgt (zK g.pl g.p zz) (64 + n)) 64) (wS_B8 (dgt_lt _ _)) H.hk (wag (j := 9) (by decide) H.h9 H.h10) (nu9_wc 1 (by decide)))
 ·exact OkG_up upO9 (rowMu H.kB H.aB H.rB H.hs (qbC 11 (by decide)) (sg_cl H) (qbC 7 (by decide)) (nu9_bc 12 (by decide)))
theorem sgN_le (t : Nat) : sgN n t ≤ 64 + n := by
 unfold sgN
 split
 ·omega
 ·split <;> omega
theorem pf_val (H : g.Ok n zz) {j : Nat} (hj : j < 32) : nuX9 g e n zz (64 + j) = zR g.x zz j := by
 unfold zR
 rw [if_pos hj, show 64 + j = 32 * 1 + (32 + j) by omega]
 exact (nu9_dg (L := sgX g e) (j := 1) (n := 32) (z := zS g.x) (by decide) H.h1 H.h2 (by omega)).trans (dgt_val _ _ _).1
theorem pl_val9 {j : Nat} (hj : j < 64) : (plA j).val (nuX9 g e n zz) = zK g.pl g.p zz j := by
 unfold plA zK
 by_cases c : j < 32
 ·rw [if_pos (by simpa using c), if_pos c]
  exact nu9_at (j := 8) (by decide) c
 ·rw [if_neg (by simpa using c), if_neg c, if_pos hj]
  exact nu9_at (j := 4) (by decide) (by omega)
theorem sg1E_ok (H : g.Ok 0 zz) {b : Nat} : (sg1E b).Ok (nuX9 g e 0 zz) Tryd.prog gl9 := by
 refine rowSum_ok (n := 32) (z := zR g.x zz) (isText_row (off := 0) (n := 32) List.mem_cons_self (by decide) (by decide) (by decide) fun j hj => ?_) (by decide) fun j hj => nu9_dg (L := sgX g e) (j := 5) (by decide) H.h5 H.h6 hj
 rw [Nat.zero_add]
 exact pf_val H hj
theorem sg2E_ok (H : g.Ok 0 zz) {b : Nat} : (sg2E b).Ok (nuX9 g e 0 zz) Tryd.prog gl9 := by
 refine rowSum_ok (n := 64) (z := zK g.pl g.p zz) (isText_row (off := 0) (n := 64) List.mem_cons_self (by decide) (by decide) (by decide) fun j hj => ?_) (by decide) fun j hj => nu9_dg (L := sgX g e) (j := 9) (by decide) H.h9 H.h10 hj
 rw [Nat.zero_add]
 exact pl_val9 hj
/-! facts -/
def catK (t T : Nat) : Nat × List AI × Nat × Nat := (0, clB, tg t, tg T)
def ltF (t : Nat) : BinOp × AI × AI × Bool := (.lss, .s (pinL (tg t)), .c 1099511627776, true)
def gtF (t : Nat) : BinOp × AI × AI × Bool := (.gtr, .s (pinL (tg t)), .c 0, true)
def eqF (t : Nat) : BinOp × AI × AI × Bool := (.eql, .s (pinA (tg t)), .s (pinL (tg t)), true)
def mxF (t k : Nat) : BinOp × AI × AI × Bool := (.gtr, .s (pinL (tg t)), nA k, false)
theorem ltF_ok {t : Nat} (ht : 0 < t) (hn : n < 1000000000) : qaE (ltF t).1 ((ltF t).2.1.val (nuX9 g e n zz)) ((ltF t).2.2.1.val (nuX9 g e n zz)) = true := by
 have h : nuX9 g e n zz (pinL (tg t)) = (sgN n t : Int) := nu9_L ht
 have := sgN_le (n := n) t
 show decide (nuX9 g e n zz (pinL (tg t)) < 1099511627776) = true
 rw [h]
 exact decide_eq_true (by omega)
theorem gtF_ok {t : Nat} (ht : t = 2 ∨ t = 4) (h0 : 0 < n) : qaE (gtF t).1 ((gtF t).2.1.val (nuX9 g e n zz)) ((gtF t).2.2.1.val (nuX9 g e n zz)) = true := by
 have h : nuX9 g e n zz (pinL (tg t)) = (sgN n t : Int) := nu9_L (by omega)
 have q : sgN n t = n := by unfold sgN; rw [if_pos (by omega)]
 show decide (nuX9 g e n zz (pinL (tg t)) > 0) = true
 rw [h, q]
 exact decide_eq_true (by omega)
theorem eqF_ok {t : Nat} (ht : 0 < t) : qaE (eqF t).1 ((eqF t).2.1.val (nuX9 g e n zz)) ((eqF t).2.2.1.val (nuX9 g e n zz)) = true := by
 have h : nuX9 g e n zz (pinL (tg t)) = (sgN n t : Int) := nu9_L ht
 have q2 : nuX9 g e n zz (pinA (tg t)) = (sgN n t : Int) := nu9_A ht
 show (nuX9 g e n zz (pinA (tg t)) == nuX9 g e n zz (pinL (tg t))) = true
 rw [h, q2]
 exact beq_self_eq_true _
theorem mxF_ok {t k : Nat} (ht : t = 2 ∨ t = 4) (hk : n ≤ k) : qaE (mxF t k).1 ((mxF t k).2.1.val (nuX9 g e n zz)) ((mxF t k).2.2.1.val (nuX9 g e n zz)) = false := by
 have h : nuX9 g e n zz (pinL (tg t)) = (sgN n t : Int) := nu9_L (by omega)
 have q : sgN n t = n := by unfold sgN; rw [if_pos (by omega)]
 show decide (nuX9 g e n zz (pinL (tg t)) > ((k : Nat) : Int)) = false
 rw [h, q]
 exact decide_eq_false (by omega)
theorem catK_ok {t T : Nat} (ht : t = 2 ∨ t = 4) (hT : T = 8 ∨ T = 12) (hn : n < 1000000000) : 0 ≤ nuX9 g e n zz (pinL (tg T)) ∧ lst (nuX9 g e n zz) (tg T) = lst0 (nuX9 g e n zz) 0 ++ clB.map (AI.val (nuX9 g e n zz)) ++ lst0 (nuX9 g e n zz) (tg t) := by
 have e1 : sgN n T = 64 + n := by unfold sgN; rw [if_neg (by omega), if_neg (by omega)]
 have e2 : sgN n t = n := by unfold sgN; rw [if_pos (by omega)]
 have hL : nuX9 g e n zz (pinL (tg T)) = ((64 + n : Nat) : Int) := by rw [← e1]; exact nu9_L (t := T) (by omega)
 have hl : nuX9 g e n zz (pinL (tg t)) = (n : Int) := (nu9_L (t := t) (by omega)).trans (congrArg (fun n : Nat => (n : Int)) e2)
 have zT : ∀ j, j < 1099511627774 → nuX9 g e n zz (pinB (tg T) j) = zK g.pl g.p zz j := fun j hj => (nu9_B (by omega) hj).trans (by unfold sgZ; rw [if_neg (by omega), if_neg (by omega), if_pos (by omega)])
 have zt : ∀ j, j < 1099511627774 → nuX9 g e n zz (pinB (tg t) j) = (zz j : Int) := fun j hj => (nu9_B (by omega) hj).trans (by unfold sgZ; rw [if_pos (by omega)])
 refine ⟨by rw [hL]; omega, ?_⟩
 rw [lst0_zero, List.nil_append, lst0_row _ (tgT (t := t) (by omega) (by omega)).1]
 refine lst_pre (cells := clB) hL hl (fun j y hy => ?_) fun j hj => ?_
 ·have hj : j < 64 := by
   have := (List.getElem?_eq_some_iff.1 hy).1
   simpa [clB] using this
  rw [zT j (by omega)]
  simp only [clB, List.getElem?_map, List.getElem?_range hj, Option.map_some, Option.some.injEq] at hy
  rw [← hy]
  exact (pl_val9 hj).symm
 ·rw [show clB.length = 64 from rfl, zT _ (by omega), zt j (by omega)]
  unfold zK
  rw [if_neg (by omega), if_neg (by omega), Nat.add_sub_cancel_left]
theorem tx_text {b t : Nat} {need : Gl} (hm : pn b t ∈ need) (ht : t = 2 ∨ t = 4) (h0 : 0 < n) (hn : n < 1000000000) : IsText (nuX9 g e n zz) need (ps b t) n (fun j => (zz j : Int)) := by
 have e2 : sgN n t = n := by unfold sgN; rw [if_pos (by omega)]
 refine isText_pin hm (tgT (by omega) (by omega)) (tg_Ke (by omega)) h0 ?_ fun j hj => ?_
 ·have h : nuX9 g e n zz (pinL (tg t)) = (sgN n t : Int) := nu9_L (by omega)
  rw [h, e2]
 ·exact (nu9_B (by omega) (by omega)).trans (by unfold sgZ; rw [if_pos (by omega)])
end
end Go.Proofs.YtheidgcgdkmmiaaDoor
