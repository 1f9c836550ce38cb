/-
  PolyPiece: its runs, its rounds. Own work.
-/
import Derived.Test.YtbdihdncnpajgaaPoq
namespace Go.Proofs.Ytbdihdncnpajgaa
open Go.Sh
open Go.ChangeShapes Go.WideShapes Go.ChangeAt Go.RowKit
set_option maxRecDepth 100000

def e20 : Nat := 33
def s16 : AV := .ag (rowC .u8 (nmA 0) 16)
def rA : AV := .i .u8 (.s 16)
def pe : IC := t6.body
def pe1 : IC := pe.sub [false]
def pe2 : IC := pe.sub [true, false]
def pe3 : IC := pe.sub [true, true, false]
def pe4 : IC := pe.sub [true, true, true, false]
def pe5 : IC := pe.sub [true, true, true, true, false]
def pe6 : IC := pe.sub [true, true, true, true, true, false]
def pe7 : IC := pe.sub [true, true, true, true, true, true, false]
def pe8 : IC := pe.sub [true, true, true, true, true, true, true, false]
def peD : IC := pe.sub [true, true, true, true, true, true, true, true, false, false]
def peR : IC := pe.sub [true, true, true, true, true, true, true, true, false, true, false, false]
def peE : IC := pe.sub [true, true, true, true, true, true, true, true, true]
theorem pe_shape : t6 = ⟨.seq pe1 (.seq pe2 (.seq pe3 (.seq pe4 (.seq pe5 (.seq pe6 (.seq pe7 (.seq pe8 (.seq (.seq peD (.block 6 (.loop peR))) peE)))))))), [.t 6], 169⟩ := by kernel_rfl
def bS (b : Nat) : Nat × ABlk := (b, ⟨rowC .u8 (nmA 0) 16, e16, true⟩)
def bK (b : Nat) (g : Nat → AI) : Nat × ABlk := (b, ⟨rowC .u8 g 32, e32, true⟩)
def b20 (b : Nat) (g : Nat → AI) : Nat × ABlk := (b, ⟨rowC .i64 g 20, e20, true⟩)
def bN (n : Nat) : Nat × ABlk := (64, ⟨rowC .u8 (nmA 400) n, 0, false⟩)
def sN (n : Nat) : AV := .sl 64 0 (nA n) .any
def k0A (j : Nat) : AI := if Nat.beq j 0 then .s 16 else .c 0
def kpA (j : Nat) : AI := if Nat.beq j 0 then .s 16 else if Nat.blt j 16 then .c 0 else .s (j - 16)
def c0A (n j : Nat) : AI := if Nat.blt j n then cA .i64 (.s (400 + j)) else .c 0
def c1A (n j : Nat) : AI := if Nat.blt j n then cA .i64 (.s (400 + j)) else if Nat.beq j n then nA 1 else .c 0
def c2A (n j : Nat) : AI := eA .mul .i64 (c1A n j) (cA .i64 (.s 16))
def peS (n : Nat) (l : List (Nat × AV)) : List (Nat × AV) := l ++ [(0, rA), (2, sN n), (4, .p 65 0), (6, .b false)]
def pe_0 (n : Nat) : Now := ⟨[(0, rA), (1, s16), (2, sN n)], [bN n], 65⟩
def pe_1 (n : Nat) : Now := ⟨peS n [], [bN n, bS 65], 66⟩
def pe_3 (n : Nat) (g : Nat → AI) : Now := ⟨peS n [(7, .p 66 0)], [bN n, bS 65, bK 66 g], 67⟩
def pe_5 (n : Nat) (l : List (Nat × AV)) (g : Nat → AI) : Now := ⟨peS n (l ++ [(7, .p 66 0), (9, .p 67 0)]), [bN n, bS 65, bK 66 kpA, b20 67 g], 68⟩
noncomputable def peG (ic : IC) (i o : Nat → Now) (n : Nat) : Bool := goesX noFacts tree [] [] [] [] [] 300 4 ic (i (n + 1)) .normal (o (n + 1))
theorem pe_g1 : (List.range 16).all (peG pe1 pe_0 pe_1) = true := by kernel_rfl
theorem pe_g2 : (List.range 16).all (peG pe2 pe_1 pe_1) = true := by kernel_rfl
theorem pe_g3 : (List.range 16).all (peG pe3 pe_1 fun n => pe_3 n k0A) = true := by kernel_rfl
theorem pe_g4 : (List.range 16).all (peG pe4 (fun n => pe_3 n k0A) fun n => pe_3 n kpA) = true := by kernel_rfl
theorem pe_g5 : (List.range 16).all (peG pe5 (fun n => pe_3 n kpA) fun n => pe_5 n [] zeroA) = true := by kernel_rfl
theorem pe_g6 : (List.range 16).all (peG pe6 (fun n => pe_5 n [] zeroA) fun n => pe_5 n [] (c0A n)) = true := by kernel_rfl
theorem pe_g7 : (List.range 16).all (peG pe7 (fun n => pe_5 n [] (c0A n)) fun n => pe_5 n [] (c1A n)) = true := by kernel_rfl
theorem pe_g8 : (List.range 16).all (peG pe8 (fun n => pe_5 n [] (c1A n)) fun n => pe_5 n [] (c2A n)) = true := by kernel_rfl
theorem pe_gD : (List.range 16).all (peG peD (fun n => pe_5 n [] (c2A n)) fun n => pe_5 n [(12, iN 0)] (c2A n)) = true := by kernel_rfl
def fPe (b : Bool) : Facts := ⟨[], [(.lss, .s 900, nA 3, b)], []⟩
noncomputable def peQ (n : Nat) : Bool := goesX (fPe true) tree [] [] [] [] [] 300 4 peR (pe_5 (n + 1) [(12, sI 900)] (nmA 1000)) .normal (pe_5 (n + 1) [(12, .i .i64 (.e .add .i64 (.s 900) (nA 1)))] (prA 20 (nmA 1000)))
noncomputable def peX (n : Nat) : Bool := goesX (fPe false) tree [] [] [] [] [] 300 4 peR (pe_5 (n + 1) [(12, sI 900)] (nmA 1000)) (.exit 6) (pe_5 (n + 1) [] (nmA 1000))
theorem pe_gR : (List.range 16).all peQ = true := by kernel_rfl
theorem pe_gX : (List.range 16).all peX = true := by kernel_rfl
def rowPe (n : Nat) : RowM := rowTag 8 kpA (sN n) [bN n] (nmA 140)
def peZ : Now := ⟨[(6, .b true)], [], 70⟩
noncomputable def peW (b : Bool) (n : Nat) : Bool := goesX ⟨[], fOe 20 (nmA 1000) b, []⟩ tree [rowWk] [] [] [rowPe (n + 1)] [] 300 4 peE (pe_5 (n + 1) [] (nmA 1000)) .ret peZ
theorem pe_gE1 : (List.range 16).all (peW true) = true := by kernel_rfl
theorem pe_gE0 : (List.range 16).all (peW false) = true := by kernel_rfl
theorem pe_res : resA (trL peZ.e) (heapL (peZ.H ++ []) peZ.n) [.t 6] = some (.b true) := by kernel_rfl
end Go.Proofs.Ytbdihdncnpajgaa
