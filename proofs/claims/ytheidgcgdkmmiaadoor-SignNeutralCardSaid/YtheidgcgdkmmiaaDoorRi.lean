/-
  SIGNATURES: SignNeutral's rows. Own work.
-/
import Derived.Test.YtheidgcgdkmmiaaDoorRg
namespace Go.Proofs.YtheidgcgdkmmiaaDoor
open Go.Sh
open Go.ChangeShapes Go.WideShapes Go.ChangeAt Go.RowKit
set_option maxRecDepth 100000
/-! any sum behind 64 cells -/
def sumX (b t j : Nat) : RowM := rowSum (slE b (tg t) 0) [wO b t] (nmA (32 * j))
def sumE (b j : Nat) (f : Nat → AI) : RowM := rowKn b 64 f (nmA (32 * j)) (.own 1)
def unnA (j i : Nat) : AI := if Nat.blt i 32 then .s (32 * j + i) else nA ((byL 1).getD (i - 32) 0)
def unnC (j : Nat) : List AI := (List.range 64).map (unnA j)
def unnT : List Row := [⟨42, [rw4 1002], rw8 20⟩, ⟨42, [rw4 1003], rw8 23⟩]
def unnG : List Row := [⟨22, [rw8 13, kB 1, kB 0], rw8 14⟩, ⟨23, [rw8 14], rw8 15⟩, ⟨22, [rw8 14, kB 1, kB 1], rw8 16⟩, ⟨23, [rw8 16], rw8 17⟩,
  ⟨21, [rw8 14], .b true⟩, ⟨21, [rw8 16], .b true⟩, ⟨43, [wAG 576 64], rw4 1002⟩, ⟨43, [wAG 672 64], rw4 1003⟩,
  ⟨33, [rw8 20, kB 1], .tp [kB 1, eOKg]⟩, ⟨33, [rw8 23, kB 1], .tp [kB 1, eOKg]⟩, ⟨34, [rw8 15, kB 1], .tp [rw8 15, eOKg]⟩, ⟨34, [rw8 17, kB 1], .tp [rw8 17, eOKg]⟩, rowWk9]
def unnF : Facts := ⟨[], [neB (sL 544) (sL 480), mxF 2 500, mxF 2 65536, gtF 2, ltF 2, ltF 14, ltF 16, eqF 14, eqF 16], [(0, unnC 15, tg 2, tg 14), (0, unnC 17, tg 2, tg 16)]⟩
def unnE : Facts := ⟨[], [neB (sL 544) (sL 480)], []⟩
def unnM : List RowM := [sumX 94 14 18, sumX 109 14 18, sumX 124 16 21]
def unnN : List RowM := [sumE 92 18 (unnA 15), sumE 106 18 (unnA 15), sumE 120 21 (unnA 17)]
theorem un_go : saysB unnF tree unnT gl9 unnG unnM [pn 64 2] 65 300 8 8 [rw8 13, ps 64 2] (.b true) = true := by kernel_rfl
theorem un_goE1 : saysB unnE tree unnT gl9 unnG unnN [] 64 300 8 8 [rw8 13, .nsl] (.b true) = true := by kernel_rfl
theorem un_goE2 : saysB unnE tree unnT gl9 unnG unnN [] 64 300 8 8 [rw8 13, .sle false] (.b true) = true := by kernel_rfl
theorem un_over : saysB ⟨[], [(.gtr, .s 9000, nA 500, true)], []⟩ tree [] gl9 [] [] (Hd.gl0 64 .c) 65 300 8 8 [rw8 13, Hd.av0 64 9000 .c] (.b true) = true := by kernel_rfl
end Go.Proofs.YtheidgcgdkmmiaaDoor
