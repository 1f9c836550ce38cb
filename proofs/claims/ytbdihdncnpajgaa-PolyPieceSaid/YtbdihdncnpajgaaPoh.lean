/-
  The page's mod1305: its runs. Own work.
-/
import Derived.Test.YtbdihdncnpajgaaPog
namespace Go.Proofs.Ytbdihdncnpajgaa
open Go.Sh
open Go.ChangeShapes Go.WideShapes Go.ChangeAt Go.RowKit
set_option maxRecDepth 100000

/-- Carried from digit to digit, from c on. -/
def chA (c : AI) (g : Nat → AI) : Nat → AI
  | 0 => eA .add .u32 c (g 0)
  | i + 1 => eA .add .u32 (eA .shr .u32 (chA c g i) (nA 8)) (g (i + 1))
def dgA (c : AI) (g : Nat → AI) (i : Nat) : AI := eA .and .u32 (chA c g i) (nA 255)
/-- What stands from bit 130 on. -/
def hiA (d : Nat → AI) (i : Nat) : AI := if Nat.blt (i + 17) 64 then eA .or .u32 (eA .shr .u32 (d (i + 16)) (nA 2)) (eA .and .u32 (eA .shl .u32 (d (i + 17)) (nA 6)) (nA 255)) else if Nat.blt (i + 16) 64 then eA .shr .u32 (d (i + 16)) (nA 2) else .c 0
def loA (d : Nat → AI) (i : Nat) : AI := if Nat.blt i 16 then d i else if Nat.beq i 16 then eA .and .u32 (d i) (nA 3) else .c 0
def rmA (g : Nat → AI) (i : Nat) : AI := eA .add .u32 (loA (dgA (.c 0) g) i) (eA .mul .u32 (nA 5) (hiA (dgA (.c 0) g) i))
def e64 : Nat := 46
def m64 (b : Nat) (g : Nat → AI) : Nat × ABlk := (b, ⟨rowC .u32 g 64, e64, true⟩)
def md : IC := t16.body
def mdA : IC := md.sub [false]
def mdD : IC := md.sub [true, false, false]
def mdR : IC := md.sub [true, false, true, false, false]
def mdB : IC := md.sub [true, true, false]
def mdC : IC := md.sub [true, true, true, false]
def mdE : IC := md.sub [true, true, true, true]
theorem md_shape : t16 = ⟨.seq mdA (.seq (.seq mdD (.block 0 (.loop mdR))) (.seq mdB (.seq mdC mdE))), [.c 2 (some 64)], 122⟩ := by kernel_rfl
def md0 : Now := ⟨[(0, .ag (rowC .u32 (nmA 0) 64))], [], 64⟩
def mdS (l : List (Nat × AV)) (g : Nat → AI) (n : Nat) : Now := ⟨l ++ [(1, .p 64 0), (2, .p 65 0)], [m64 64 g, m64 65 zeroA], n⟩
theorem md_goA : goesX noFacts tree [] [] [] [] [] 300 4 mdA md0 .normal (mdS [] (nmA 0) 66) = true := by kernel_rfl
theorem md_goD : goesX noFacts tree [] [] [] [] [] 300 4 mdD (mdS [] (nmA 0) 66) .normal (mdS [(3, iN 0)] (nmA 0) 66) = true := by kernel_rfl
def fMd (b : Bool) : Facts := ⟨[], [(.lss, .s 900, nA 4, b)], []⟩
theorem md_goR : goesX (fMd true) tree [] [] [] [] [] 300 4 mdR (mdS [(3, sI 900)] (nmA 0) 66) .normal (mdS [(3, .i .i64 (.e .add .i64 (.s 900) (nA 1)))] (rmA (nmA 0)) 67) = true := by kernel_rfl
theorem md_goX : goesX (fMd false) tree [] [] [] [] [] 300 4 mdR (mdS [(3, sI 900)] (nmA 0) 66) (.exit 0) (mdS [] (nmA 0) 66) = true := by kernel_rfl
theorem md_goB : goesX noFacts tree [] [] [] [] [] 300 4 mdB (mdS [] (nmA 0) 66) .normal (mdS [(10, .i .u32 (.c 0))] (nmA 0) 66) = true := by kernel_rfl
theorem md_goC : goesX noFacts tree [] [] [] [] [] 300 4 mdC (mdS [(10, .i .u32 (.c 0))] (nmA 0) 66) .normal (mdS [] (dgA (.c 0) (nmA 0)) 66) = true := by kernel_rfl
/-- Five more. -/
def fvA (i : Nat) : AI := dgA (nA 5) (nmA 0) i
def mrA (b : Bool) (i : Nat) : AI := if b then (if Nat.beq i 16 then eA .and .u32 (fvA 16) (nA 3) else fvA i) else .s i
def fMe (b : Bool) : Facts := ⟨[], [(.geq, fvA 16, nA 4, b)], []⟩
def mdZ (b : Bool) : Now := ⟨[(2, .p 65 0)], [m64 65 (mrA b)], 67⟩
theorem md_goE (b : Bool) : goesX (fMe b) tree [] [] [] [] [] 300 4 mdE (mdS [] (nmA 0) 66) .ret (mdZ b) = true := by cases b <;> kernel_rfl
theorem md_res (b : Bool) : resA (trL (mdZ b).e) (heapL ((mdZ b).H ++ []) 67) [.c 2 (some 64)] = some (.ag (rowC .u32 (mrA b) 64)) := by cases b <;> kernel_rfl
end Go.Proofs.Ytbdihdncnpajgaa
