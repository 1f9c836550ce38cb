/-
  SIGNATURES: rows of a signature that is looked at. Own work.
-/
import Derived.Test.YtheidgcgdkmmiaaDoorRe
namespace Go.Proofs.YtheidgcgdkmmiaaDoor
open Go.Sh
open Go.ChangeShapes Go.WideShapes Go.ChangeAt Go.RowKit
set_option maxRecDepth 100000
def vfG : List Row := [⟨33, [rw8 11, rw8 4], .tp [rw8 13, eOKg]⟩, ⟨34, [rw8 8, rw8 13], .tp [rw8 14, eOKg]⟩, ⟨23, [rw8 12], rw8 14⟩]
/-! one more L -/
def lB (i : Nat) : Nat := ordL / 2 ^ (8 * i) % 256
def ovA : Nat → AI
  | 0 => .e .add .i64 (.e .add .i64 (nA 0) (.w .i64 (.s 384))) (nA (lB 0))
  | i + 1 => .e .add .i64 (.e .add .i64 (.e .quo .i64 (ovA i) (nA 256)) (.w .i64 (.s (384 + (i + 1))))) (nA (lB (i + 1)))
def ovC (i : Nat) : AI := .w .u8 (ovA i)
def ovV : AV := .ag (rowC .u8 ovC 32)
/-! all ones ahead -/
def ffA (j : Nat) : AI := if Nat.blt j 32 then nA 255 else .s (128 + (j - 32))
def ffV : AV := .ag (rowC .u8 (fun _ => nA 255) 32)
def clF9 : List AI := (List.range 64).map ffA
def catF (t T : Nat) : Nat × List AI × Nat × Nat := (0, clF9, tg t, tg T)
def sg3 (b t : Nat) : RowM := rowSum (slE b (tg t) 0) [wO b t] (nmA 480)
def bkT : List Row := sgT ++ [⟨42, [rw4 1002], rw8 17⟩]
def bkV : List Row := [⟨21, [ovV], .b false⟩, ⟨43, [wAG 480 64], rw4 1002⟩, ⟨33, [rw8 17, rw8 4], .tp [rw8 18, eOKg]⟩, ⟨34, [ffV, rw8 18], .tp [kB 0, ePoint]⟩]
def bkG : List Row := sgG ++ (okT ++ (vfG ++ (bkV ++ [rowWk9])))
def bkF : Facts := ⟨[], [mxF 2 500, mxF 2 65536, gtF 2, ltF 2, ltF 6, ltF 8, ltF 14, eqF 6, eqF 8, eqF 14], [catR 2 6, catK 2 8, catF 2 14]⟩
def bkM : List RowM := [rowSeed 68, sg1 78 6, sg2 89 8, rowSeed 99, sg2 114 8, sg3 140 14]
def sg3E (b : Nat) : RowM := rowKn b 64 ffA (nmA 480) (.own 1)
def bkE : List RowM := [rowSeed 67, sg1E 76, sg2E 86, rowSeed 96, sg2E 110, sg3E 135]
end Go.Proofs.YtheidgcgdkmmiaaDoor
