/-
  DERIVED. GIVEN WITH THE SEED: THE CARDS: each row of YtcmkpldfgkpbbabDoorRows.lean that lists a variable, with what it lists TIED to the program's text (the seventh form; the later family's looks); each row that meets fmt, with fmt's text TOLD by the authors' own Lean function (tested against real Go, not proved from fmt's source: count such statements apart). THE CARD IS WHAT COUNTS. Prove the row's statement (the work); the ties are given (YtcmkpldfgkpbbabDoorTie.lean); close each card by the builder's one call (the guide's Derived/Test/ToyasCard.lean, 'card_holds'). Laid BY PROGRAM, IN A SANDBOX (cutbox-door.mjs). By AI agents, Wed Nov 11 2026. No macro, syntax, notation, axiom, sorry.
-/
import Derived.Test.YtcmkpldfgkpbbabDoorRows
import GoSem.ClaimSeven
namespace Go.Proofs.YtcmkpldfgkpbbabDoor
namespace Rows

/-- THE TIED CARD OF 'trystlaw15.NodesShared'. -/
def nodesSharedCard : Claim7 := { stood := { row := nodesSharedRow, standIns := [], harness := (true, "c16f0451bbd80b54d81132201866b2a7f178c6eb065c6eeb4b0eb99fd006b3ff"), looks := false }, kinds := [], alts := [], laidByText := true, laidKinds := [.data], laidTests := true, laidLooks := .later }
def NodesSharedCardSaid : Prop := Claim7.holds Tryd.pinned (.plain (OpenSpec.ofChange nodesSharedSpec)) nodesSharedCard

/-- THE SECOND FORM's CARD OF 'trystlaw15.NodesShared'. -/
def nodesSharedUptoCard : Claim7 := { stood := { row := nodesSharedUptoRow, standIns := [], harness := (true, "c16f0451bbd80b54d81132201866b2a7f178c6eb065c6eeb4b0eb99fd006b3ff"), looks := false }, kinds := [], alts := [], laidByText := true, laidKinds := [.data], laidTests := true, laidLooks := .later }
def NodesSharedUptoCardSaid : Prop := Claim7.holds Tryd.pinned (.plain (OpenSpec.upto nodesSharedSpec)) nodesSharedUptoCard
end Rows
end Go.Proofs.YtcmkpldfgkpbbabDoor
