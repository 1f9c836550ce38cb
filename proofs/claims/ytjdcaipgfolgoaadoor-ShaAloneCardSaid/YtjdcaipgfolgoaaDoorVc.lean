/-
  trystref01.Sum512: its runs. Own work.
-/
import Derived.Test.YtjdcaipgfolgoaaDoorVb
namespace Go.Proofs.YtjdcaipgfolgoaaDoor
open Go.Sh
open Go.ChangeShapes Go.WideShapes Go.RowKit
set_option maxRecDepth 100000

/-! its pieces -/
def puQ : IC := t17.body
def puAQ : IC := puQ.sub [false]
def puBQ : IC := puQ.sub [true, false]
def puCQ : IC := puQ.sub [true, true, false]
def puDQ : IC := puQ.sub [true, true, true, false]
def puEQ : IC := puQ.sub [true, true, true, true, false, false]
def puRQ : IC := puQ.sub [true, true, true, true, false, true, false, false]
def puR1Q : IC := puRQ.sub [false]
def puRiQ : IC := puRQ.sub [true, true]
def pubQ : IC := puRQ.sub [true, false, false]
def pubAQ : IC := pubQ.sub [false]
def pubBQ : IC := pubQ.sub [true, false, false]
def pubWQ : IC := pubQ.sub [true, false, true, false, false]
def pubCQ : IC := pubQ.sub [true, true, false]
def pubDQ : IC := pubQ.sub [true, true, true, false, false]
def pubVQ : IC := pubQ.sub [true, true, true, false, true, false, false]
def pubEQ : IC := pubQ.sub [true, true, true, true]
def puFQ : IC := puQ.sub [true, true, true, true, true]
theorem pu_shapeQ : t17 = ⟨.seq puAQ (.seq puBQ (.seq puCQ (.seq puDQ (.seq (.seq puEQ (.block 0 (.loop (.seq puR1Q (.seq (.block 1 (.seq pubAQ (.seq (.seq pubBQ (.block 2 (.loop pubWQ))) (.seq pubCQ (.seq (.seq pubDQ (.block 6 (.loop pubVQ))) pubEQ))))) puRiQ))))) puFQ)))), [.c 2 (some 64)], 208⟩ := by kernel_rfl
def kAQ (j : Nat) : AI := nA (k256LQ.getD j 0)
def kBQ : Nat × ABlk := (67, ⟨rowC .u64 kAQ 80, eWQ, true⟩)
def hB7Q (f : Nat → AI) : Nat × ABlk := (68, ⟨rowC .u64 f 8, eVQ, true⟩)
def rowPQ (x : AV) (need : Gl) : RowM := ⟨30, [x, iN 128, iN 16], need, [.new T1]⟩
def pu0Q (x : AV) (H : List (Nat × ABlk)) : Now := ⟨[(0, x)], H, 65⟩
def puAoQ (x : AV) (H : List (Nat × ABlk)) : Now := ⟨[(0, x), (2, .p 65 0)], H ++ [reBQ], 66⟩
def puBoQ (x : AV) (H : List (Nat × ABlk)) : Now := ⟨[(0, x), (2, .p 65 0), (3, .p 67 0)], H ++ [reBQ, kBQ], 68⟩
def puCoQ (x : AV) (H : List (Nat × ABlk)) : Now := ⟨[(0, x), (2, .p 65 0), (3, .p 67 0), (4, .p 68 0)], H ++ [reBQ, kBQ, hB7Q h0AQ], 69⟩
def puDoQ : Now := ⟨(5, .sl 69 0 (.s (pinL T1)) .any) :: pls, [reBQ, kBQ, hB7Q h0AQ, (69, ⟨[], T1, false⟩)], 70⟩
def puEoQ : Now := ⟨(6, iN 0) :: (5, .sl 69 0 (.s (pinL T1)) .any) :: pls, [reBQ, kBQ, hB7Q h0AQ, (69, ⟨[], T1, false⟩)], 70⟩
noncomputable def puStartQ (x : AV) (H : List (Nat × ABlk)) : Bool := goesX noFacts tree [] [] [] [] [] 60 4 puAQ (pu0Q x H) .normal (puAoQ x H) && goesX noFacts tree [] [] [] [] [] 60 4 puBQ (puAoQ x H) .normal (puBoQ x H) && goesX noFacts tree [] [] [] [] [] 60 4 puCQ (puBoQ x H) .normal (puCoQ x H) && goesX noFacts tree [] [] [] [rowPQ x H] [] 60 4 puDQ (puCoQ x H) .normal puDoQ
theorem pu_start0Q : puStartQ .nsl [] = true := by kernel_rfl
theorem pu_start1Q : puStartQ (.sle false) [] = true := by kernel_rfl
theorem pu_start2Q : puStartQ slP0 [txP] = true := by kernel_rfl
theorem pu_goEQ : goesX noFacts tree [] [] [] [] [] 60 4 puEQ puDoQ .normal puEoQ = true := by kernel_rfl
/-! a round -/
def txQQ (wd : Nat) : Nat × ABlk := (69, ⟨rowC .u8 (nmA 64) wd, 0, false⟩)
def slQQ (wd : Nat) : AV := .slw 69 1 (.s 200) wd (.s 201) .any
def puNQ (wd : Nat) (f : Nat → AI) (l : List (Nat × AV)) (H : List (Nat × ABlk)) (n : Nat) : Now := ⟨l ++ (5, slQQ wd) :: pls, H ++ [reBQ, kBQ, hB7Q f, txQQ wd], n⟩
def fQQ (b : Bool) : Facts := ⟨[], [(.lss, .s 200, .s 201, b)], []⟩
theorem pu_goR1Q : goesX (fQQ true) tree [] [] [] [] [] 60 4 puR1Q (puNQ 128 (nmA 0) [(6, sI 200)] [] 70) .normal (puNQ 128 (nmA 0) [(6, sI 200)] [] 70) = true := by kernel_rfl
theorem pu_goReQ : goesX (fQQ false) tree [] [] [] [] [] 60 4 puR1Q (puNQ 0 (nmA 0) [(6, sI 200)] [] 70) (.exit 0) (puNQ 0 (nmA 0) [] [] 70) = true := by kernel_rfl
def wQQ (g : Nat → AI) : Nat × ABlk := (70, ⟨rowC .u64 g 80, eWQ, true⟩)
def vQQ (f : Nat → AI) : Nat × ABlk := (71, ⟨rowC .u64 f 8, eVQ, true⟩)
def puWQ (l : List (Nat × AV)) (g : Nat → AI) : Now := puNQ 128 (nmA 0) (l ++ [(6, sI 200), (7, .p 70 0)]) [wQQ g] 71
def puVQ (l : List (Nat × AV)) (f : Nat → AI) : Now := puNQ 128 (nmA 0) (l ++ [(6, sI 200), (7, .p 70 0), (12, .p 71 0)]) [wQQ (nmA 400), vQQ f] 72
theorem pu_gobAQ : goesX noFacts tree [] [] [] [] [] 60 4 pubAQ (puNQ 128 (nmA 0) [(6, sI 200)] [] 70) .normal (puWQ [] zeroA) = true := by kernel_rfl
theorem pu_gobBQ : goesX noFacts tree [] [] [] [] [] 60 4 pubBQ (puWQ [] zeroA) .normal (puWQ [(8, iN 0)] zeroA) = true := by kernel_rfl
def or8PQ (k : IntKind) (x : AI) (i : Nat) : AI := .e .or k (.e .shl k x (nA 8)) (.w k (.s (64 + i)))
def wpAQ (t : Nat) : AI := if Nat.blt t 16 then or8PQ .u64 (or8PQ .u64 (or8PQ .u64 (or8PQ .u64 (or8PQ .u64 (or8PQ .u64 (or8PQ .u64 (or8PQ .u64 (.s (400 + t)) (8 * t)) (8 * t + 1)) (8 * t + 2)) (8 * t + 3)) (8 * t + 4)) (8 * t + 5)) (8 * t + 6)) (8 * t + 7)
  else adA p512 (adA p512 (adA p512 (.s (400 + (t - 16))) (.s (400 + (t - 7)))) (sgA p512 p512.s0 (.s (400 + (t - 15))))) (sgA p512 p512.s1 (.s (400 + (t - 2))))
noncomputable def puWgoQ (t : Nat) : Bool := goesX noFacts tree [] [] [] [] [] 60 4 pubWQ (puWQ [(8, iN t)] (nmA 400)) .normal (puWQ [(8, iN (t + 1))] (setA (nmA 400) t (wpAQ t)))
theorem pu_goWQ : (List.range 80).all puWgoQ = true := by kernel_rfl
theorem pu_goWeQ : goesX noFacts tree [] [] [] [] [] 60 4 pubWQ (puWQ [(8, iN 80)] (nmA 400)) (.exit 2) (puWQ [] (nmA 400)) = true := by kernel_rfl
theorem pu_gobCQ : goesX noFacts tree [] [] [] [] [] 60 4 pubCQ (puWQ [] (nmA 400)) .normal (puVQ [] (nmA 0)) = true := by kernel_rfl
theorem pu_gobDQ : goesX noFacts tree [] [] [] [] [] 60 4 pubDQ (puVQ [] (nmA 0)) .normal (puVQ [(13, iN 0)] (nmA 0)) = true := by kernel_rfl
noncomputable def puVgoQ (t : Nat) : Bool := goesX noFacts tree [] [] [] [] [] 60 4 pubVQ (puVQ [(13, iN t)] (nmA 500)) .normal (puVQ [(13, iN (t + 1))] (rdA p512 (kAQ t) (400 + t) 500))
theorem pu_goVQ : (List.range 80).all puVgoQ = true := by kernel_rfl
theorem pu_goVeQ : goesX noFacts tree [] [] [] [] [] 60 4 pubVQ (puVQ [(13, iN 80)] (nmA 500)) (.exit 6) (puVQ [] (nmA 500)) = true := by kernel_rfl
def puXQ : Now := puNQ 128 (fun j => adA p512 (nmA 0 j) (nmA 500 j)) [(6, sI 200)] [] 72
theorem pu_gobEQ : goesX noFacts tree [] [] [] [] [] 60 4 pubEQ (puVQ [] (nmA 500)) .normal puXQ = true := by kernel_rfl
def puXiQ : Now := puNQ 128 (fun j => adA p512 (nmA 0 j) (nmA 500 j)) [(6, .i .i64 (.e .add .i64 (.s 200) (nA 128)))] [] 72
theorem pu_goRiQ : goesX noFacts tree [] [] [] [] [] 60 4 puRiQ puXQ .normal puXiQ = true := by kernel_rfl
def outPQ (j : Nat) : AI := .w .u8 (.e .shr .u64 (.s (j / 8)) (nA (56 - 8 * (j % 8))))
def puZQ : Now := ⟨[(2, .p 65 0)], [(65, ⟨rowC .u8 outPQ 64, eOQ, true⟩)], 71⟩
theorem pu_goFQ : goesX noFacts tree [] [] [] [] [] 100 4 puFQ (puNQ 0 (nmA 0) [] [] 70) .ret puZQ = true := by kernel_rfl
end Go.Proofs.YtjdcaipgfolgoaaDoor
