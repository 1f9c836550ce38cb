/-
  The page's Expand: its runs. Own work.
-/
import Derived.Test.YtjdcaipgfolgoaaDoorXn
namespace Go.Proofs.YtjdcaipgfolgoaaDoor
open Go.Sh
open Go.ChangeShapes Go.WideShapes Go.ChangeAt Go.RowKit
set_option maxRecDepth 100000

def px : IC := t25.body
def pxA : IC := px.sub [false]
def pxB : IC := px.sub [true, false]
def pxI : IC := px.sub [true, true, false, false]
def pxR : IC := px.sub [true, true, false, true, false, false]
def pxZ : IC := px.sub [true, true, true]
theorem px_shape : t25 = ⟨.seq pxA (.seq pxB (.seq (.seq pxI (.block 0 (.loop pxR))) pxZ)), [.t 6], 35⟩ := by kernel_rfl
def px1 (s u : Hd) (l : List (Nat × AV)) : Now := ⟨l ++ [(0, kA' s), (1, iA' u), (2, sI 301)], kiH s u, 66⟩
def pxLa (q : Bool) (b : Nat) : AV := if q then .sl b 0 (nA 32) (.own 1) else .nsl
def pxOv (q : Bool) : AV := if q then .slw 66 1 (pAe 6) 0 (pAe 6) (.own 1) else .nsl
def pxOb (q : Bool) : Gl := if q then [(66, ⟨rowC .u8 (nmA 400) 0, wg 6, true⟩), (67, ⟨rowC .u8 (nmA 200) 32, eU, true⟩)] else []
def pxN (q : Bool) (s u : Hd) : Now := ⟨[(0, kA' s), (1, iA' u), (2, sI 301), (7, pxOv q), (8, pxLa q 67), (9, sI 302)], kiH s u ++ pxOb q, if q then 68 else 66⟩
def nxP (q : Bool) (u : Hd) : Nat := (if q then 76 else 73) + (match u with | .c => 1 | _ => 0)
def pxM (q : Bool) (s u : Hd) : Now := ⟨[(0, kA' s), (1, iA' u), (2, sI 301), (7, if q then slE (nxP q u - 1) (tg 6) 32 else .sl (nxP q u - 1) 0 (nA 32) (.own 1)), (8, pxLa true (nxP q u - 2)), (9, .i .i64 (.e .add .i64 (.s 302) (nA 1)))], kiH s u ++ [(nxP q u - 1, ⟨rowC .u8 (nmA 400) 32, if q then wg 6 else eU, true⟩), (nxP q u - 2, ⟨rowC .u8 (nmA 400) 32, eU, true⟩)], nxP q u⟩
def fPx (q : Bool) (u : Hd) : Facts := ⟨[], [(.lss, if q then pAe 6 else .c 0, .s 301, true)] ++ ((if q then [(.eql, pAe 6, .s (pinL (tg 6)), true), (.lss, .s (pinL (tg 6)), .c 1099511627776, true)] else []) ++ (match u with | .c => [(.gtr, .s (pinL (tg 4)), .c 0, true), (.lss, .s (pinL (tg 4)), .c 1099511627776, true), (.eql, pAe 8, .s (pinL (tg 8)), true), (.lss, .s (pinL (tg 8)), .c 1099511627776, true)] | _ => [])), match u with | .c => [(0, (List.range (if q then 32 else 0)).map (nmA 200), tg 4, tg 8)] | _ => []⟩
def pxT (q : Bool) (u : Hd) : AV := match u with
  | .c => slE (nxP q u - 5) (tg 8) 1
  | _ => .sl (nxP q u - 5) 0 (nA (if q then 33 else 1)) (.own 1)
def pxTb (q : Bool) (u : Hd) : Gl := match u with
  | .c => [(nxP q u - 5, ⟨rowC .u8 (fun _ => byEx) 1, wg 8, true⟩)]
  | _ => [(nxP q u - 5, ⟨rowC .u8 (exTf q) (if q then 33 else 1), eU, true⟩)]
def pxMr (q : Bool) (s u : Hd) : List RowM := [⟨21, [kA' s, pxT q u], s.gl 64 (tg 2) ++ pxTb q u, [.v (.ag (rowC .u8 (nmA 400) 32))]⟩]
def pxQ : Now := ⟨[(2, sI 301), (7, .slw 66 1 (pAe 10) 0 (.s (pinL (tg 10))) (.own 1))], [(66, ⟨rowC .u8 (nmA 400) 0, wg 10, true⟩)], 67⟩
def pxY : Now := ⟨[(6, .slw 66 1 (pAe 10) 0 (.s 301) .any)], [(66, ⟨[], wg 10, true⟩)], 67⟩
noncomputable def pxHead (s u : Hd) : Bool := goesX noFacts tree [] gl256 [] [] [] 60 4 pxA (ex0 s u) .normal (ex0 s u) && (goesX noFacts tree [] gl256 [] [] [] 60 4 pxB (ex0 s u) .normal (px1 s u [(7, .nsl), (8, .nsl)]) && goesX noFacts tree [] gl256 [] [] [] 60 4 pxI (px1 s u [(7, .nsl), (8, .nsl)]) .normal (px1 s u [(7, .nsl), (8, .nsl), (9, iN 1)]))
noncomputable def pxRound (q : Bool) (s u : Hd) : Bool := goesX (fPx q u) tree [] gl256 [] (pxMr q s u) [] 60 4 pxR (pxN q s u) .normal (pxM q s u)
noncomputable def pxOut (s u : Hd) : Bool := goesX ⟨[], [(.lss, pAe 6, .s 301, false)], []⟩ tree [] gl256 [] [] [] 60 4 pxR (pxN true s u) (.exit 0) (pxN true s u)
theorem px_head : ∀ s u, pxHead s u = true := by intro s u; cases s <;> cases u <;> kernel_rfl
theorem px_round : ∀ q s u, pxRound q s u = true := by intro q s u; cases q <;> cases s <;> cases u <;> kernel_rfl
theorem px_out : ∀ s u, pxOut s u = true := by intro s u; cases s <;> cases u <;> kernel_rfl
theorem px_goZ : goesX fXz tree [] gl256 [] [] [] 60 4 pxZ pxQ .ret pxY = true := by kernel_rfl
theorem px_res : resA (trL pxY.e) (heapL (pxY.H ++ gl256) pxY.n) [.t 6] = some (.slw 66 1 (pAe 10) 0 (.s 301) .any) := by kernel_rfl
noncomputable def pxNil (s u : Hd) : Bool := goesX noFacts tree [] gl256 [] [] [] 60 4 px ⟨[(0, kA' s), (1, iA' u), (2, iN 0)], kiH s u, 66⟩ .ret ⟨[(6, .nsl)], [], 66⟩
theorem px_nil : ∀ s u, pxNil s u = true := by intro s u; cases s <;> cases u <;> kernel_rfl
theorem px_get1 (s u : Hd) (l : List (Nat × AV)) : ∀ p ∈ (px1 s u l).H, (heapL ((px1 s u l).H ++ gl256) 66).get p.1 = some p.2 := by
  intro p hp
  cases s <;> cases u <;> simp only [px1, kiH, Hd.gl, List.nil_append, List.cons_append, List.mem_cons, List.not_mem_nil, or_false] at hp <;> rcases hp with rfl | rfl <;> kernel_rfl
theorem px_getM (q : Bool) (s u : Hd) : ∀ p ∈ (pxM q s u).H, (heapL ((pxM q s u).H ++ gl256) (pxM q s u).n).get p.1 = some p.2 := by
  intro p hp
  cases q <;> cases s <;> cases u <;> simp only [pxM, kiH, Hd.gl, List.nil_append, List.cons_append, List.mem_cons, List.not_mem_nil, or_false] at hp <;> rcases hp with rfl | rfl | rfl | rfl <;> kernel_rfl
theorem px_getN (s u : Hd) : ∀ p ∈ (pxN true s u).H, (heapL ((pxN true s u).H ++ gl256) (pxN true s u).n).get p.1 = some p.2 := by
  intro p hp
  cases s <;> cases u <;> simp only [pxN, pxOb, if_true, kiH, Hd.gl, List.nil_append, List.cons_append, List.mem_cons, List.not_mem_nil, or_false] at hp <;> rcases hp with rfl | rfl | rfl | rfl <;> kernel_rfl
end Go.Proofs.YtjdcaipgfolgoaaDoor
