/-
  mac.Expand: its runs. Own work.
-/
import Derived.Test.YtjdcaipgfolgoaaDoorXi
namespace Go.Proofs.YtjdcaipgfolgoaaDoor
open Go.Sh
open Go.ChangeShapes Go.WideShapes Go.ChangeAt Go.RowKit
set_option maxRecDepth 100000

/-- A text of a row of one's own with a window at its end. -/
theorem isText_winG {ν : Nat → Int} {need : Gl} {b t a wd : Nat} {own : Bool} {cap : Cap} {k l : AI} {h : Nat → AI} {z : Wd} (hm : (b, ⟨rowC .u8 h wd, wg t, own⟩) ∈ need) (ht : 0 < t) (hK : pinK (tg t) = .u8) (hk : k.val ν = ν (pinA (tg t))) (hA : ν (pinA (tg t)) = (a : Int)) (hL : ν (pinL (tg t)) = (a : Int)) (hl : l.val ν = ((a + wd : Nat) : Int)) (hz1 : ∀ j, j < a → ν (pinB (tg t) j) = z j) (hz2 : ∀ j, j < wd → (h j).val ν = z (a + j)) (h0 : 0 < a + wd) : IsText ν need (.slw b 1 k wd l cap) (a + wd) z := by
  intro ρ w u hnd hu
  obtain ⟨pl, q1, q2⟩ := hnd _ hm
  have q1 : ρ b = some pl := q1
  have q2 : BR ν ρ w ⟨rowC .u8 h wd, wg t, false⟩ pl := q2
  obtain ⟨C, ty, fz, c1, c2, _⟩ := q2.cells (wg_no t)
  have hp := br_win (wg_map t) (wg_big ht) (wg_sub t) q2
  obtain ⟨C2, ty2, fz2, o, a2, r1, r2, r3, r4⟩ := hp
  rw [c1] at r1
  cases r1
  have ea : a2 = a := by rw [hA] at r2; omega
  subst ea
  cases hu
  rename_i q o' a1 n' cc h7 h8 h1 h3 h2 h4 h5 h6
  have h1 : ρ b = some q := h1
  rw [q1] at h1
  cases h1
  have e1 : a1 = a2 := by rw [hk, hA] at h2; omega
  subst e1
  have e2 : o' = o := by omega
  subst e2
  have e3 : n' = a1 + wd := by rw [hl] at h5; omega
  subst e3
  refine .inr ⟨h0, pl.cb, o', cc, rfl, h7, C, ty, fz, c1, fun j hj => ?_⟩
  by_cases hja : j < a1
  · rw [r4 j (by rw [hL]; omega) (.inl hja), hK, hz1 j hja]
  · obtain ⟨v, u1, u2⟩ := c2 (j - a1) (.i .u8 (h (j - a1))) (by simp [rowC, show j - a1 < wd by omega])
    cases u2
    rw [show pl.co + (j - a1) = o' + j by omega] at u1
    rw [u1, hz2 _ (by omega), show a1 + (j - a1) = j by omega]
/-! what is expanded -/
def lq (k : Nat) : Nat := if k = 0 then 0 else 32
/-- A round's text: the sum ahead of it, the info, the round's number. -/
def xtW (k : Nat) (prev : Wd) (ni : Nat) (zi : Wd) : Wd := fun j => if j < lq k then prev j else if j < lq k + ni then zi (j - lq k) else IntKind.u8.wrap ((k + 1 : Nat) : Int)
def exT (K : Wd) (ni : Nat) (zi : Wd) : Nat → Wd
  | 0 => fun _ => 0
  | k + 1 => hmac K (lq k + ni + 1) (xtW k (exT K ni zi k) ni zi)
def exW (K : Wd) (ni : Nat) (zi : Wd) : Wd := fun j => exT K ni zi (j / 32 + 1) (j % 32)
theorem exT_succ (K : Wd) (ni : Nat) (zi : Wd) (k : Nat) : exT K ni zi (k + 1) = hmac K (lq k + ni + 1) (xtW k (exT K ni zi k) ni zi) := rfl
/-! its pieces -/
def ex : IC := t23.body
def exA : IC := ex.sub [false]
def exB : IC := ex.sub [true, false]
def exC : IC := ex.sub [true, true, false]
def exD : IC := ex.sub [true, true, true, false]
def exI : IC := ex.sub [true, true, true, true, false, false]
def exR : IC := ex.sub [true, true, true, true, false, true, false, false]
def exZ : IC := ex.sub [true, true, true, true, true]
theorem ex_shape : t23 = ⟨.seq exA (.seq exB (.seq exC (.seq exD (.seq (.seq exI (.block 0 (.loop exR))) exZ)))), [.t 6, .t 7], 57⟩ := by kernel_rfl
def kA' (s : Hd) : AV := s.av 64 (tg 2)
def iA' (u : Hd) : AV := u.av 65 (tg 4)
def kiH (s u : Hd) : Gl := s.gl 64 (tg 2) ++ u.gl 65 (tg 4)
def ex0 (s u : Hd) : Now := ⟨[(0, kA' s), (1, iA' u), (2, sI 301)], kiH s u, 66⟩
def ex1 (s u : Hd) (l : List (Nat × AV)) : Now := ⟨l ++ [(0, kA' s), (1, iA' u), (2, sI 301), (8, .sl 66 0 (nA 0) (.own 1))], kiH s u ++ [(66, ⟨rowC .u8 (nmA 400) 0, eU, true⟩)], 67⟩
def lastA (q : Bool) (b : Nat) : AV := if q then slO b else .nsl
def lastB (q : Bool) (b : Nat) (o : Nat) : Gl := if q then [(b, ⟨rowC .u8 (nmA o) 32, eO, true⟩)] else []
def pAe (t : Nat) : AI := .s (pinA (tg t))
def exN (q : Bool) (s u : Hd) (l : List (Nat × AV)) : Now := ⟨l ++ [(0, kA' s), (1, iA' u), (2, sI 301), (8, .slw 66 1 (pAe 6) 0 (pAe 6) (.own 1)), (9, lastA q 67)], kiH s u ++ ((66, ⟨rowC .u8 (nmA 400) 0, wg 6, true⟩) :: lastB q 67 200), if q then 68 else 67⟩
def nxE (q : Bool) (u : Hd) : Nat := (if q then 68 else 67) + (match u with | .c => if q then 7 else 6 | _ => 4)
def exM1 (q : Bool) (s u : Hd) : Now := ⟨[(0, kA' s), (1, iA' u), (2, sI 301), (8, .slw (nxE q u - 1) 1 (pAe 6) 32 (lenE (pAe 6) 32) (.own 1)), (9, slO (nxE q u - 2)), (10, .i .i64 (.e .add .i64 (.s 302) (nA 1)))], kiH s u ++ [(nxE q u - 1, ⟨rowC .u8 (nmA 400) 32, wg 6, true⟩), (nxE q u - 2, ⟨rowC .u8 (nmA 400) 32, eO, true⟩)], nxE q u⟩
def roE : AI := .e .add .i64 (.s 301) (nA 32)
def fXb : Facts := ⟨[], [(.lss, .s 301, .c 0, false), (.gtr, .s 301, nA 8160, false)], []⟩
def fXc : Facts := ⟨[], [(.geq, roE, .c 0, true), (.lss, roE, .c 1099511627776, true)], []⟩
def lxE (q : Bool) : AI := .e .add .i64 (.e .add .i64 (nA (if q then 32 else 0)) (.s (pinL (tg 4)))) (nA 1)
def fXr (q : Bool) (u : Hd) : Facts := ⟨[], [(.lss, pAe 6, .s 301, true), (.eql, pAe 6, .s (pinL (tg 6)), true), (.lss, .s (pinL (tg 6)), .c 1099511627776, true)] ++ (match u with | .c => [(.geq, lxE q, .c 0, true), (.lss, lxE q, .c 1099511627776, true), (.gtr, .s (pinL (tg 4)), .c 0, true), (.lss, .s (pinL (tg 4)), .c 1099511627776, true), (.eql, pAe 8, .s (pinL (tg 8)), true), (.lss, .s (pinL (tg 8)), .c 1099511627776, true)] | _ => []), match u with | .c => [(0, (List.range (if q then 32 else 0)).map (nmA 200), tg 4, tg 8)] | _ => []⟩
def byEx : AI := .w .u8 (.s 302)
/-- The round's text, as the machine has it. -/
def exTx (q : Bool) (u : Hd) : AV := match u with
  | .c => .slw (nxE q u - 3) 1 (pAe 8) 1 (lenE (pAe 8) 1) (.own 1)
  | _ => .sl (nxE q u - 4) 0 (nA (if q then 33 else 1)) (.ex (if q then 33 else 1))
def exTf (q : Bool) (j : Nat) : AI := if q then (if Nat.blt j 32 then .s (200 + j) else byEx) else byEx
def exTb (q : Bool) (u : Hd) : Gl := match u with
  | .c => [(nxE q u - 3, ⟨rowC .u8 (fun _ => byEx) 1, wg 8, true⟩)]
  | _ => [(nxE q u - 4, ⟨rowC .u8 (exTf q) (if q then 33 else 1), eU, true⟩)]
def exMr (q : Bool) (s u : Hd) : List RowM := [⟨20, [kA' s, exTx q u], s.gl 64 (tg 2) ++ exTb q u, [.v (.ag (rowC .u8 (nmA 400) 32))]⟩]
def exQ : Now := ⟨[(2, sI 301), (8, .slw 66 1 (pAe 10) 0 (.s (pinL (tg 10))) (.own 1))], [(66, ⟨rowC .u8 (nmA 400) 0, wg 10, true⟩)], 67⟩
def fXz : Facts := ⟨[], [(.leq, pAe 10, .s 301, true), (.leq, .s 301, .s (pinL (tg 10)), true)], []⟩
def exY : Now := ⟨[(6, .slw 66 1 (pAe 10) 0 (.s 301) .any), (7, iN 0)], [(66, ⟨[], wg 10, true⟩)], 67⟩
noncomputable def exHead (s u : Hd) : Bool := goesX noFacts tree [] gl256 [] [] [] 60 4 exA (ex0 s u) .normal (ex0 s u) && goesX fXb tree [] gl256 [] [] [] 60 4 exB (ex0 s u) .normal (ex0 s u) && goesX fXc tree [] gl256 [] [] [] 60 4 exC (ex0 s u) .normal (ex1 s u []) && goesX noFacts tree [] gl256 [] [] [] 60 4 exD (ex1 s u []) .normal (ex1 s u [(9, .nsl)]) && goesX noFacts tree [] gl256 [] [] [] 60 4 exI (ex1 s u [(9, .nsl)]) .normal (ex1 s u [(9, .nsl), (10, iN 1)])
noncomputable def exRound (q : Bool) (s u : Hd) : Bool := goesX (fXr q u) tree [] gl256 [] (exMr q s u) [] 60 4 exR (exN q s u [(10, sI 302)]) .normal (exM1 q s u)
noncomputable def exOut (q : Bool) (s u : Hd) : Bool := goesX ⟨[], [(.lss, pAe 6, .s 301, false)], []⟩ tree [] gl256 [] [] [] 60 4 exR (exN q s u [(10, sI 302)]) (.exit 0) (exN q s u [])
theorem ex_head : ∀ s u, exHead s u = true := by
  intro s u
  cases s <;> cases u <;> kernel_rfl
theorem ex_round : ∀ q s u, exRound q s u = true := by
  intro q s u
  cases q <;> cases s <;> cases u <;> kernel_rfl
theorem ex_out : ∀ q s u, exOut q s u = true := by
  intro q s u
  cases q <;> cases s <;> cases u <;> kernel_rfl
theorem ex_goZ : goesX fXz tree [] gl256 [] [] [] 60 4 exZ exQ .ret exY = true := by kernel_rfl
theorem ex_res : resA (trL exY.e) (heapL (exY.H ++ gl256) exY.n) [.t 6, .t 7] = some (.tp [.slw 66 1 (pAe 10) 0 (.s 301) .any, iN 0]) := by kernel_rfl
theorem ex_get (q : Bool) (s u : Hd) (l : List (Nat × AV)) : ∀ p ∈ (exN q s u l).H, (heapL ((exN q s u l).H ++ gl256) (exN q s u l).n).get p.1 = some p.2 := by
  intro p hp
  cases q <;> cases s <;> cases u <;> simp only [exN, kiH, Hd.gl, lastB, List.nil_append, List.cons_append, if_true, if_false, Bool.false_eq_true, List.mem_cons, List.not_mem_nil, or_false] at hp <;> rcases hp with rfl | rfl | rfl | rfl <;> kernel_rfl
theorem ex_get1 (q : Bool) (s u : Hd) : ∀ p ∈ (exM1 q s u).H, (heapL ((exM1 q s u).H ++ gl256) (exM1 q s u).n).get p.1 = some p.2 := by
  intro p hp
  cases q <;> cases s <;> cases u <;> simp only [exM1, kiH, Hd.gl, List.nil_append, List.cons_append, List.mem_cons, List.not_mem_nil, or_false] at hp <;> rcases hp with rfl | rfl | rfl | rfl <;> kernel_rfl
theorem ex_get0 (s u : Hd) (l : List (Nat × AV)) : ∀ p ∈ (ex1 s u l).H, (heapL ((ex1 s u l).H ++ gl256) 67).get p.1 = some p.2 := by
  intro p hp
  cases s <;> cases u <;> simp only [ex1, kiH, Hd.gl, List.nil_append, List.cons_append, List.mem_cons, List.not_mem_nil, or_false] at hp <;> rcases hp with rfl | rfl | rfl <;> kernel_rfl
end Go.Proofs.YtjdcaipgfolgoaaDoor
