/-
  The page's Xor: its runs. Own work.
-/
import Derived.Test.YtakegcfpbacefaaQe
namespace Go.Proofs.Ytakegcfpbacefaa
open Go.Sh
open Go.ChangeShapes Go.WideShapes Go.ChangeAt Go.RowKit
set_option maxRecDepth 100000

def py : IC := t11.body
def pyA : IC := py.sub [false]
def pyB : IC := py.sub [true, false]
def pyD : IC := py.sub [true, true, false, false]
def pyR : IC := py.sub [true, true, false, true, false, false]
def pyE : IC := py.sub [true, true, true]
theorem py_shape : t11 = ⟨.seq pyA (.seq pyB (.seq (.seq pyD (.block 0 (.loop pyR))) pyE)), [.t 8], 51⟩ := by kernel_rfl
def py1 (l : List (Nat × AV)) : Now := ⟨l ++ [(1, ctS), (3, ps 64 2), (4, .p 65 0), (6, .p 66 0)], [pn 64 2, bxK, bxN], 67⟩
theorem py_goA : goesX noFacts tree [] [] [] [] [] 60 4 pyA xo0 .normal (py1 []) = true := by kernel_rfl
theorem py_goB : goesX noFacts tree [] [] [] [] [] 60 4 pyB (py1 []) .normal (py1 [(9, .nsl)]) = true := by kernel_rfl
theorem py_goD : goesX noFacts tree [] [] [] [] [] 60 4 pyD (py1 [(9, .nsl)]) .normal (py1 [(9, .nsl), (10, iN 0)]) = true := by kernel_rfl
def pyO (q : Bool) : AV := if q then slE 67 (tg 6) 0 else .nsl
def pyOb (q : Bool) : List (Nat × ABlk) := if q then [(67, ⟨rowC .u8 (nmA 304) 0, wg 6, true⟩)] else []
def pyN (q : Bool) (w : Nat) : Now := ⟨[(1, ctS), (4, .p 65 0), (6, .p 66 0), (3, wS 64 w .any), (9, pyO q), (10, sI 302)], [wT 64 2 400 w false, bxK, bxN] ++ pyOb q, if q then 68 else 67⟩
def pyb (q : Bool) (w : Nat) : Nat := (if q then 68 else 67) + 2 * w
def xrA (j : Nat) : AI := .e .xor .u8 (.s (400 + j)) (.s (200 + j))
def pyM (q : Bool) (w : Nat) : Now := ⟨[(1, .i .u32 (.e .add .u32 (.s 44) (nA 1))), (4, .p 65 0), (6, .p 66 0), (3, wS 64 w .any), (9, if q then slE (pyb q w) (tg 6) w else .sl (pyb q w) 0 (nA w) (.own 1)), (10, .i .i64 (.e .add .i64 (.s 302) (nA 64)))], [wT 64 2 400 w false, bxK, bxN, (pyb q w, ⟨rowC .u8 xrA w, if q then wg 6 else eU, true⟩)], pyb q w + 1⟩
def fPy (q : Bool) (w : Nat) : Facts := ⟨[], [(.lss, .s 302, .s 301, true)] ++ ((List.range w).map (fun j => (.lss, .e .add .i64 (.s 302) (nA j), .s 301, true)) ++ ((if Nat.blt w 64 then [(.lss, .e .add .i64 (.s 302) (nA w), .s 301, false)] else []) ++ [(.eql, .s (pinA (tg 6)), .s (pinL (tg 6)), true), (.lss, .s (pinL (tg 6)), .c 1099511627776, true)])), []⟩
def rowPy : Row := ⟨7, [kyS, ctS, noS], .ag (rowC .u8 (nmA 200) 64)⟩
noncomputable def pyGo (q : Bool) (w : Nat) : Bool := goesX (fPy q w) tree [rowPy] [] [] [] [] 300 4 pyR (pyN q w) .normal (pyM q w)
theorem py_goRe : goesX ⟨[], [(.lss, .s 302, .s 301, false)], []⟩ tree [] [] [] [] [] 60 4 pyR (pyN true 0) (.exit 0) (pyN true 0) = true := by kernel_rfl
def pyZ : Now := ⟨[(8, slE 67 (tg 6) 0)], [(67, ⟨[], wg 6, true⟩)], 68⟩
theorem py_goE : goesX noFacts tree [] [] [] [] [] 60 4 pyE (pyN true 0) .ret pyZ = true := by kernel_rfl
theorem py_res : resA (trL pyZ.e) (heapL (pyZ.H ++ []) pyZ.n) [.t 8] = some (slE 67 (tg 6) 0) := by kernel_rfl
theorem py_go1 : pyGo false 3 = true := by kernel_rfl
theorem py_go2 : pyGo true 3 = true := by kernel_rfl
end Go.Proofs.Ytakegcfpbacefaa
