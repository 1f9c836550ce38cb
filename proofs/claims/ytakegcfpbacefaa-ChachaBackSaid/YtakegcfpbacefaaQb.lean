/-
  chacha.Block and the page's: what they answer. Own work.
-/
import Derived.Test.YtakegcfpbacefaaQa
namespace Go.Proofs.Ytakegcfpbacefaa
open Go.Sh
open Go.ChangeShapes Go.WideShapes Go.ChangeAt Go.RowKit
set_option maxRecDepth 100000

/-- Four bytes, the lowest first. -/
def leA (a : Nat) : AI := .e .or .u32 (.e .or .u32 (.e .or .u32 (.w .u32 (.s a)) (.e .shl .u32 (.w .u32 (.s (a + 1))) (nA 8))) (.e .shl .u32 (.w .u32 (.s (a + 2))) (nA 16))) (.e .shl .u32 (.w .u32 (.s (a + 3))) (nA 24))
/-- What the words of a block are ahead of its rounds. -/
def inA (j : Nat) : AI := match j with
  | 0 => nA 1634760805 | 1 => nA 857760878 | 2 => nA 2036477234 | 3 => nA 1797285236
  | 4 => leA 0 | 5 => leA 4 | 6 => leA 8 | 7 => leA 12 | 8 => leA 16 | 9 => leA 20 | 10 => leA 24 | 11 => leA 28
  | 12 => .s 44 | 13 => leA 32 | 14 => leA 36 | _ => leA 40
def stA (i : Nat) : Nat → AI := if Nat.beq i 0 then inA else nmA (100 + 16 * i)
def rowsQ (f b : Nat) : List RowU := (List.range 80).map fun i => ⟨f, [.p b 0, iN (qpa i), iN (qpb i), iN (qpc i), iN (qpd i)], [], b, rowC .u32 (stA i) 16, rowC .u32 (stA (i + 1)) 16, []⟩
def sumA (j : Nat) : AI := a32 (.s (1380 + j)) (inA j)
def obA (j : Nat) : AI := if Nat.beq (j % 4) 0 then .w .u8 (sumA (j / 4)) else .w .u8 (.e .shr .u32 (sumA (j / 4)) (nA (8 * (j % 4))))
def obP (j : Nat) : AI := .w .u8 (.e .shr .u32 (sumA (j / 4)) (nA (8 * (j % 4))))
def kyS : AV := .ag (rowC .u8 (nmA 0) 32)
def noS : AV := .ag (rowC .u8 (nmA 32) 12)
def e64 : Nat := 26
def bk0 : Now := ⟨[(0, kyS), (1, .i .u32 (.s 44)), (2, noS)], [], 64⟩
def bkZ (g : Nat → AI) (n : Nat) : Now := ⟨[(6, .p 66 0)], [(66, ⟨rowC .u8 g 64, e64, true⟩)], n⟩
def bkB : IC := t6.body
def bkP : IC := t7.body
theorem bk_shape : t6 = ⟨bkB, [.c 6 (some 64)], 90⟩ := by kernel_rfl
theorem bk_shapeP : t7 = ⟨bkP, [.c 6 (some 64)], 98⟩ := by kernel_rfl
theorem bk_go : goesX noFacts tree [] [] [] [] (rowsQ 14 72) 300 4 bkB bk0 .ret (bkZ obA 74) = true := by kernel_rfl
theorem bk_goP : goesX noFacts tree [] [] [] [] (rowsQ 16 68) 300 4 bkP bk0 .ret (bkZ obP 70) = true := by kernel_rfl
end Go.Proofs.Ytakegcfpbacefaa
