/-
  trystref01.Sum256: its runs. Own work.
-/
import Derived.Test.YtjdcaipgfolgoaaDoorUb
namespace Go.Proofs.YtjdcaipgfolgoaaDoor
open Go.Sh
open Go.ChangeShapes Go.WideShapes Go.RowKit
set_option maxRecDepth 100000

/-- The row that padded answers. -/
def T1 : Nat := mapTag + 4
/-! its pieces -/
def pu : IC := t15.body
def puA : IC := pu.sub [false]
def puB : IC := pu.sub [true, false]
def puC : IC := pu.sub [true, true, false]
def puD : IC := pu.sub [true, true, true, false]
def puE : IC := pu.sub [true, true, true, true, false, false]
def puR : IC := pu.sub [true, true, true, true, false, true, false, false]
def puR1 : IC := puR.sub [false]
def puRi : IC := puR.sub [true, true]
def pub : IC := puR.sub [true, false, false]
def pubA : IC := pub.sub [false]
def pubB : IC := pub.sub [true, false, false]
def pubW : IC := pub.sub [true, false, true, false, false]
def pubC : IC := pub.sub [true, true, false]
def pubD : IC := pub.sub [true, true, true, false, false]
def pubV : IC := pub.sub [true, true, true, false, true, false, false]
def pubE : IC := pub.sub [true, true, true, true]
def puF : IC := pu.sub [true, true, true, true, true]
theorem pu_shape : t15 = ⟨.seq puA (.seq puB (.seq puC (.seq puD (.seq (.seq puE (.block 0 (.loop (.seq puR1 (.seq (.block 1 (.seq pubA (.seq (.seq pubB (.block 2 (.loop pubW))) (.seq pubC (.seq (.seq pubD (.block 6 (.loop pubV))) pubE))))) puRi))))) puF)))), [.c 2 (some 32)], 208⟩ := by kernel_rfl
def kA (j : Nat) : AI := nA (k256L.getD j 0)
def kB : Nat × ABlk := (67, ⟨rowC .u32 kA 64, eW, true⟩)
def hB7 (f : Nat → AI) : Nat × ABlk := (68, ⟨rowC .u32 f 8, eV, true⟩)
def rowP (x : AV) (need : Gl) : RowM := ⟨30, [x, iN 64, iN 8], need, [.new T1]⟩
def pu0 (x : AV) (H : List (Nat × ABlk)) : Now := ⟨[(0, x)], H, 65⟩
def puAo (x : AV) (H : List (Nat × ABlk)) : Now := ⟨[(0, x), (2, .p 65 0)], H ++ [reB], 66⟩
def puBo (x : AV) (H : List (Nat × ABlk)) : Now := ⟨[(0, x), (2, .p 65 0), (3, .p 67 0)], H ++ [reB, kB], 68⟩
def puCo (x : AV) (H : List (Nat × ABlk)) : Now := ⟨[(0, x), (2, .p 65 0), (3, .p 67 0), (4, .p 68 0)], H ++ [reB, kB, hB7 h0A], 69⟩
def pls : List (Nat × AV) := [(2, .p 65 0), (3, .p 67 0), (4, .p 68 0)]
def puDo : Now := ⟨(5, .sl 69 0 (.s (pinL T1)) .any) :: pls, [reB, kB, hB7 h0A, (69, ⟨[], T1, false⟩)], 70⟩
def puEo : Now := ⟨(6, iN 0) :: (5, .sl 69 0 (.s (pinL T1)) .any) :: pls, [reB, kB, hB7 h0A, (69, ⟨[], T1, false⟩)], 70⟩
noncomputable def puStart (x : AV) (H : List (Nat × ABlk)) : Bool := goesX noFacts tree [] [] [] [] [] 60 4 puA (pu0 x H) .normal (puAo x H) && goesX noFacts tree [] [] [] [] [] 60 4 puB (puAo x H) .normal (puBo x H) && goesX noFacts tree [] [] [] [] [] 60 4 puC (puBo x H) .normal (puCo x H) && goesX noFacts tree [] [] [] [rowP x H] [] 60 4 puD (puCo x H) .normal puDo
theorem pu_start0 : puStart .nsl [] = true := by kernel_rfl
theorem pu_start1 : puStart (.sle false) [] = true := by kernel_rfl
theorem pu_start2 : puStart slP0 [txP] = true := by kernel_rfl
theorem pu_goE : goesX noFacts tree [] [] [] [] [] 60 4 puE puDo .normal puEo = true := by kernel_rfl
/-! a round -/
def txQ (wd : Nat) : Nat × ABlk := (69, ⟨rowC .u8 (nmA 100) wd, 0, false⟩)
def slQ (wd : Nat) : AV := .slw 69 1 (.s 200) wd (.s 201) .any
def puN (wd : Nat) (f : Nat → AI) (l : List (Nat × AV)) (H : List (Nat × ABlk)) (n : Nat) : Now := ⟨l ++ (5, slQ wd) :: pls, H ++ [reB, kB, hB7 f, txQ wd], n⟩
def fQ (b : Bool) : Facts := ⟨[], [(.lss, .s 200, .s 201, b)], []⟩
theorem pu_goR1 : goesX (fQ true) tree [] [] [] [] [] 60 4 puR1 (puN 64 (nmA 0) [(6, sI 200)] [] 70) .normal (puN 64 (nmA 0) [(6, sI 200)] [] 70) = true := by kernel_rfl
theorem pu_goRe : goesX (fQ false) tree [] [] [] [] [] 60 4 puR1 (puN 0 (nmA 0) [(6, sI 200)] [] 70) (.exit 0) (puN 0 (nmA 0) [] [] 70) = true := by kernel_rfl
def wQ (g : Nat → AI) : Nat × ABlk := (70, ⟨rowC .u32 g 64, eW, true⟩)
def vQ (f : Nat → AI) : Nat × ABlk := (71, ⟨rowC .u32 f 8, eV, true⟩)
def puW (l : List (Nat × AV)) (g : Nat → AI) : Now := puN 64 (nmA 0) (l ++ [(6, sI 200), (7, .p 70 0)]) [wQ g] 71
def puV (l : List (Nat × AV)) (f : Nat → AI) : Now := puN 64 (nmA 0) (l ++ [(6, sI 200), (7, .p 70 0), (12, .p 71 0)]) [wQ (nmA 400), vQ f] 72
theorem pu_gobA : goesX noFacts tree [] [] [] [] [] 60 4 pubA (puN 64 (nmA 0) [(6, sI 200)] [] 70) .normal (puW [] zeroA) = true := by kernel_rfl
theorem pu_gobB : goesX noFacts tree [] [] [] [] [] 60 4 pubB (puW [] zeroA) .normal (puW [(8, iN 0)] zeroA) = true := by kernel_rfl
def or8P (k : IntKind) (x : AI) (i : Nat) : AI := .e .or k (.e .shl k x (nA 8)) (.w k (.s (100 + i)))
def wpA (t : Nat) : AI := if Nat.blt t 16 then or8P .u32 (or8P .u32 (or8P .u32 (or8P .u32 (.s (400 + t)) (4 * t)) (4 * t + 1)) (4 * t + 2)) (4 * t + 3)
  else adA p256 (adA p256 (adA p256 (.s (400 + (t - 16))) (.s (400 + (t - 7)))) (sgA p256 p256.s0 (.s (400 + (t - 15))))) (sgA p256 p256.s1 (.s (400 + (t - 2))))
noncomputable def puWgo (t : Nat) : Bool := goesX noFacts tree [] [] [] [] [] 60 4 pubW (puW [(8, iN t)] (nmA 400)) .normal (puW [(8, iN (t + 1))] (setA (nmA 400) t (wpA t)))
theorem pu_goW : (List.range 64).all puWgo = true := by kernel_rfl
theorem pu_goWe : goesX noFacts tree [] [] [] [] [] 60 4 pubW (puW [(8, iN 64)] (nmA 400)) (.exit 2) (puW [] (nmA 400)) = true := by kernel_rfl
theorem pu_gobC : goesX noFacts tree [] [] [] [] [] 60 4 pubC (puW [] (nmA 400)) .normal (puV [] (nmA 0)) = true := by kernel_rfl
theorem pu_gobD : goesX noFacts tree [] [] [] [] [] 60 4 pubD (puV [] (nmA 0)) .normal (puV [(13, iN 0)] (nmA 0)) = true := by kernel_rfl
noncomputable def puVgo (t : Nat) : Bool := goesX noFacts tree [] [] [] [] [] 60 4 pubV (puV [(13, iN t)] (nmA 500)) .normal (puV [(13, iN (t + 1))] (rdA p256 (kA t) (400 + t) 500))
theorem pu_goV : (List.range 64).all puVgo = true := by kernel_rfl
theorem pu_goVe : goesX noFacts tree [] [] [] [] [] 60 4 pubV (puV [(13, iN 64)] (nmA 500)) (.exit 6) (puV [] (nmA 500)) = true := by kernel_rfl
def puX : Now := puN 64 (fun j => adA p256 (nmA 0 j) (nmA 500 j)) [(6, sI 200)] [] 72
theorem pu_gobE : goesX noFacts tree [] [] [] [] [] 60 4 pubE (puV [] (nmA 500)) .normal puX = true := by kernel_rfl
def puXi : Now := puN 64 (fun j => adA p256 (nmA 0 j) (nmA 500 j)) [(6, .i .i64 (.e .add .i64 (.s 200) (nA 64)))] [] 72
theorem pu_goRi : goesX noFacts tree [] [] [] [] [] 60 4 puRi puX .normal puXi = true := by kernel_rfl
def outP (j : Nat) : AI := .w .u8 (.e .shr .u32 (.s (j / 4)) (nA (24 - 8 * (j % 4))))
def puZ : Now := ⟨[(2, .p 65 0)], [(65, ⟨rowC .u8 outP 32, eO, true⟩)], 71⟩
theorem pu_goF : goesX noFacts tree [] [] [] [] [] 60 4 puF (puN 0 (nmA 0) [] [] 70) .ret puZ = true := by kernel_rfl
end Go.Proofs.YtjdcaipgfolgoaaDoor
