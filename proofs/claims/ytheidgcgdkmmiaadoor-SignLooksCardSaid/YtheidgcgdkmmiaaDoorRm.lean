/-
 SIGNATURES: rows of SignLooks. Own work.
-/
import Derived.Test.YtheidgcgdkmmiaaDoorRl
namespace Go.Proofs.YtheidgcgdkmmiaaDoor
open Go.Sh
open Go.ChangeShapes Go.WideShapes Go.ChangeAt Go.RowKit
set_option maxRecDepth 100000
def lkA (j : Nat) : AI := if Nat.blt j 32 then .s (256 + j) else .s (384 + (j - 32))
def lkV : AV := .ag (rowC .u8 lkA 64)
def lkT (t : Bool) : List Row := [⟨42, [rw4 1001], rw8 11⟩, ⟨58, [wAG 288 64], rw4 1001⟩, ⟨19, [rw4 1001], rw8 11⟩, ⟨35, [rw8 12], .b t⟩]
def lkG (t : Bool) : List Row := [⟨43, [wAG 288 64], rw4 1001⟩, ⟨21, [rw8 12], .b t⟩, rowWk9]
def lkDY : List Row := [⟨36, [rw8 8], .tp [rwQ 1002 1003 1004 1005, .b true]⟩]
def lkDN : List Row := [⟨36, [rw8 8], dcNo⟩]
def lkPY : List Row := [⟨37, [rw8 11, rw8 4], .tp [rw8 13, .b true]⟩]
def lkPN : List Row := [⟨37, [rw8 11, rw8 4], .tp [kB 0, .b false]⟩]
def lkS : List Row := [⟨38, [rw8 8, rw8 13], .tp [rw8 14, .b true]⟩]
def lkPB (j : Nat) : List Row := [⟨27, [rw8 12], rw8 j⟩]
def lkCY : List Row := [⟨33, [rw8 11, rw8 4], .tp [rw8 13, eOKg]⟩]
def lkCN : List Row := [⟨33, [rw8 11, rw8 4], .tp [kB 0, ePoint]⟩]
def lkAY : List Row := [⟨34, [rw8 8, rw8 13], .tp [rw8 14, eOKg]⟩]
def lkAN : List Row := [⟨34, [rw8 8, rw8 13], .tp [kB 0, ePoint]⟩]
def lkCB (j : Nat) : List Row := [⟨23, [rw8 12], rw8 j⟩]
def lkT1 : List Row := lkT true ++ lkDN
def lkT2 : List Row := lkT true ++ (lkDY ++ lkPN)
def lkT3 (j : Nat) : List Row := lkT true ++ (lkDY ++ (lkPY ++ (lkS ++ lkPB j)))
def lkG1 : List Row := lkG true ++ lkCN
def lkG2 : List Row := lkG true ++ (lkCY ++ lkAN)
def lkG3 (j : Nat) : List Row := lkG true ++ (lkCY ++ (lkAY ++ lkCB j))
def lkC : List (BinOp × AI × AI × Bool) := [mxF 2 500, mxF 4 65536, gtF 2, gtF 4, ltF 2, ltF 4, ltF 8, ltF 12, eqF 4, eqF 8, eqF 12]
def lkK : List (Nat × List AI × Nat × Nat) := [catK 4 12, catK 2 8]
def lkFs (N : List (BinOp × AI × AI × Bool)) : Facts := ⟨[], N ++ lkC, lkK⟩
def lkEs (N : List (BinOp × AI × AI × Bool)) : Facts := ⟨[], N, []⟩
def lkN : List (BinOp × AI × AI × Bool) := [neB (sL 480) (sL 448), neB (sL 448) (sL 480)]
def lkM : List RowM := [rowTw (tg 4) (ps 64 2) [pn 64 2], sg2 76 12, ps2 93 8, ps2 94 8, rowEq (ps 67 4) (ps 64 2) [pn 67 4, pn 64 2]]
def lkE : List RowM := [sg2E 73, ps2E 89, ps2E 90]
abbrev lkGo (N : List (BinOp × AI × AI × Bool)) (T G : List Row) : Prop := saysB (lkFs N) tree T gl9 G lkM [pn 64 2] 65 300 8 4 [rw8 4, ps 64 2, lkV] (.b true) = true ∧ saysB (lkEs N) tree T gl9 G lkE [] 64 300 8 4 [rw8 4, .nsl, lkV] (.b true) = true ∧ saysB (lkEs N) tree T gl9 G lkE [] 64 300 8 4 [rw8 4, .sle false, lkV] (.b true) = true
theorem lk_goA : lkGo [] (lkT false) (lkG false) := ⟨by kernel_rfl, by kernel_rfl, by kernel_rfl⟩
theorem lk_goB : lkGo [] lkT1 lkG1 := ⟨by kernel_rfl, by kernel_rfl, by kernel_rfl⟩
theorem lk_goC : lkGo [] lkT2 lkG1 := ⟨by kernel_rfl, by kernel_rfl, by kernel_rfl⟩
theorem lk_goD : lkGo [] lkT1 lkG2 := ⟨by kernel_rfl, by kernel_rfl, by kernel_rfl⟩
theorem lk_goE : lkGo [] (lkT3 14) (lkG3 14) := ⟨by kernel_rfl, by kernel_rfl, by kernel_rfl⟩
theorem lk_goF : lkGo lkN (lkT3 15) (lkG3 15) := ⟨by kernel_rfl, by kernel_rfl, by kernel_rfl⟩
theorem lk_over : saysB ⟨[], [(.gtr, .s 9000, nA 500, true)], []⟩ tree [] gl9 [] [] (Hd.gl0 64 .c) 65 300 8 4 [rw8 4, Hd.av0 64 9000 .c, lkV] (.b true) = true := by kernel_rfl
end Go.Proofs.YtheidgcgdkmmiaaDoor
