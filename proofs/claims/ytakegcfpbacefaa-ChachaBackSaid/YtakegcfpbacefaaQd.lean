/-
  chacha.Xor: its runs. Own work.
-/
import Derived.Test.YtakegcfpbacefaaQc
namespace Go.Proofs.Ytakegcfpbacefaa
open Go.Sh
open Go.ChangeShapes Go.WideShapes Go.ChangeAt Go.RowKit
set_option maxRecDepth 100000

def xo : IC := t10.body
def xoA : IC := xo.sub [false]
def xoB : IC := xo.sub [true, false]
def xoC : IC := xo.sub [true, true, false]
def xoD : IC := xo.sub [true, true, true, false, false]
def xoR : IC := xo.sub [true, true, true, false, true, false, false]
def xoE : IC := xo.sub [true, true, true, true]
theorem xo_shape : t10 = ⟨.seq xoA (.seq xoB (.seq xoC (.seq (.seq xoD (.block 0 (.loop xoR))) xoE))), [.t 8], 43⟩ := by kernel_rfl
def e32 : Nat := 22
def e12 : Nat := 24
def pn (b t : Nat) : Nat × ABlk := (b, ⟨[], tg t, false⟩)
def ps (b t : Nat) : AV := .sl b 0 (.s (pinL (tg t))) .any
def ctS : AV := .i .u32 (.s 44)
def bxK : Nat × ABlk := (65, ⟨rowC .u8 (nmA 0) 32, e32, true⟩)
def bxN : Nat × ABlk := (66, ⟨rowC .u8 (nmA 32) 12, e12, true⟩)
def bxB (g : Nat → AI) : Nat × ABlk := (68, ⟨rowC .u8 g 64, e64, true⟩)
def xo0 : Now := ⟨[(0, kyS), (1, ctS), (2, noS), (3, ps 64 2)], [pn 64 2], 65⟩
def xo1 : Now := ⟨[(1, ctS), (3, ps 64 2), (4, .p 65 0), (6, .p 66 0)], [pn 64 2, bxK, bxN], 67⟩
def xo2 (l : List (Nat × AV)) (H : List (Nat × ABlk)) (n : Nat) : Now := ⟨l ++ [(1, ctS), (3, ps 64 2), (4, .p 65 0), (6, .p 66 0), (9, slE 67 (tg 4) 0)], H ++ [pn 64 2, bxK, bxN, (67, ⟨[], wg 4, true⟩)], n⟩
def xo3 (l : List (Nat × AV)) : Now := xo2 (l ++ [(10, .p 68 0)]) [bxB zeroA] 69
def xo4 : Now := xo3 [(16, ps 64 2), (17, .i .i64 (.s (pinL (tg 2)))), (18, iN 0)]
def fXo : Facts := ⟨[], [(.geq, .s (pinL (tg 2)), .c 0, true), (.eql, .s (pinA (tg 4)), .s (pinL (tg 4)), true), (.lss, .s (pinL (tg 4)), .c 1099511627776, true)], [(pinL (tg 2), [], 0, tg 4)]⟩
theorem xo_goA : goesX noFacts tree [] [] [] [] [] 60 4 xoA xo0 .normal xo1 = true := by kernel_rfl
theorem xo_goB : goesX fXo tree [] [] [] [] [] 60 4 xoB xo1 .normal (xo2 [] [] 68) = true := by kernel_rfl
theorem xo_goC : goesX noFacts tree [] [] [] [] [] 60 4 xoC (xo2 [] [] 68) .normal (xo3 []) = true := by kernel_rfl
theorem xo_goD : goesX noFacts tree [] [] [] [] [] 60 4 xoD (xo3 []) .normal xo4 = true := by kernel_rfl
/-! the rounds -/
def wT (b t x wd : Nat) (o : Bool) : Nat × ABlk := (b, ⟨rowC .u8 (nmA x) wd, wg t, o⟩)
def wS (b wd : Nat) (c : Cap) : AV := .slw b 1 (.s 302) wd (.s 301) c
def xoF (wd : Nat) (ct : AI) (i : AI) (f g : Nat → AI) : Now := ⟨[(1, .i .u32 ct), (4, .p 65 0), (6, .p 66 0), (9, wS 67 wd (.own 1)), (10, .p 68 0), (16, wS 64 wd .any), (17, sI 301), (18, .i .i64 i)], [wT 64 2 303 wd false, bxK, bxN, (67, ⟨rowC .u8 f wd, wg 4, true⟩), bxB g], 69⟩
def xoN (wd : Nat) : Now := xoF wd (.s 44) (.s 302) (nmA 304) (nmA 100)
def xoM (r : Nat) : Now := xoF 1 (if Nat.beq r 0 then .e .add .u32 (.s 44) (nA 1) else .s 44) (.e .add .i64 (.s 302) (nA 1)) (fun _ => .e .xor .u8 (.s 303) (.s ((if Nat.beq r 0 then 200 else 100) + r))) (if Nat.beq r 0 then nmA 200 else nmA 100)
def fXr (r : Nat) : Facts := ⟨[(.e .rem .i64 (.s 302) (nA 64), (r : Int))], [(.lss, .s 302, .s 301, true)], []⟩
def rowXo : Row := ⟨6, [kyS, ctS, noS], .ag (rowC .u8 (nmA 200) 64)⟩
noncomputable def xoGo (r : Nat) : Bool := goesX (fXr r) tree [rowXo] [] [] [] [] 60 4 xoR (xoN 1) .normal (xoM r)
theorem xo_goR : (List.range 64).all xoGo = true := by kernel_rfl
theorem xo_goRe : goesX ⟨[], [(.lss, .s 302, .s 301, false)], []⟩ tree [] [] [] [] [] 60 4 xoR (xoN 0) (.exit 0) (xoN 0) = true := by kernel_rfl
def xoZ : Now := ⟨[(8, wS 67 0 (.own 1))], [(67, ⟨[], wg 4, true⟩)], 69⟩
theorem xo_goE : goesX noFacts tree [] [] [] [] [] 60 4 xoE (xoN 0) .ret xoZ = true := by kernel_rfl
theorem xo_res : resA (trL xoZ.e) (heapL (xoZ.H ++ []) xoZ.n) [.t 8] = some (wS 67 0 (.own 1)) := by kernel_rfl
end Go.Proofs.Ytakegcfpbacefaa
