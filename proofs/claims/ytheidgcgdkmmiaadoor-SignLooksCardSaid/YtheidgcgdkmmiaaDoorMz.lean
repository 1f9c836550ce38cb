/-
 THE PAGE's side: Ha, Hc, Ia, Ib, Ja, Jb, Jc. Own work.
-/
import Derived.Test.YtheidgcgdkmmiaaDoorNu
namespace Go.Proofs.YtheidgcgdkmmiaaDoor
open Go.Sh
open Go.ChangeShapes Go.WideShapes Go.ChangeAt Go.RowKit
set_option maxRecDepth 100000
theorem nuwR (l : List Nat) (j : Nat) : qag (nuw l) (rw4 j) = some (num (l.getD j 0)) := by
 have h := nuw_wel l j
 show (qap (nuw l) (wel j)).map (fun vs => Value.agg vs.toArray) = _
 have e : qap (nuw l) (wel j) = qai (nuw l) (wel j) := rfl
 rw [e, h]
 rfl
end Go.Proofs.YtheidgcgdkmmiaaDoor
