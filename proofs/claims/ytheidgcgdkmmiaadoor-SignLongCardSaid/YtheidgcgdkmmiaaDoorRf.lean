/-
  SIGNATURES: rows of a signature that is looked at. Own work.
-/
import Derived.Test.YtheidgcgdkmmiaaDoorRe
namespace Go.Proofs.YtheidgcgdkmmiaaDoor
open Go.Sh
open Go.ChangeShapes Go.WideShapes Go.ChangeAt Go.RowKit
set_option maxRecDepth 100000
def vfG : List Row := [⟨33, [rw8 11, rw8 4], .tp [rw8 13, eOKg]⟩, ⟨34, [rw8 8, rw8 13], .tp [rw8 14, eOKg]⟩, ⟨23, [rw8 12], rw8 14⟩]
/-! all ones ahead -/
def ffA (j : Nat) : AI := if Nat.blt j 32 then nA 255 else .s (128 + (j - 32))
def clF9 : List AI := (List.range 64).map ffA
def catF (t T : Nat) : Nat × List AI × Nat × Nat := (0, clF9, tg t, tg T)
end Go.Proofs.YtheidgcgdkmmiaaDoor
