/-
  SIGNATURES: SignBack evaluated, law by law over a text that is there, or none. Own work.
-/
import Derived.Test.YtheidgcgdkmmiaaDoorRg
namespace Go.Proofs.YtheidgcgdkmmiaaDoor
open Go.Sh
open Go.ChangeShapes Go.WideShapes Go.ChangeAt Go.RowKit
set_option maxRecDepth 100000
theorem bk_go : saysB bkF tree bkT gl9 bkG bkM [pn 64 2] 65 300 8 5 [rw8 0, ps 64 2] (.b true) = true := by kernel_rfl
theorem bk_goE1 : saysB noFacts tree bkT gl9 bkG bkE [] 64 300 8 5 [rw8 0, .nsl] (.b true) = true := by kernel_rfl
theorem bk_goE2 : saysB noFacts tree bkT gl9 bkG bkE [] 64 300 8 5 [rw8 0, .sle false] (.b true) = true := by kernel_rfl
theorem bk_over : saysB ⟨[], [(.gtr, .s 9000, nA 500, true)], []⟩ tree [] gl9 [] [] (Hd.gl0 64 .c) 65 300 8 5 [rw8 0, Hd.av0 64 9000 .c] (.b true) = true := by kernel_rfl
end Go.Proofs.YtheidgcgdkmmiaaDoor
