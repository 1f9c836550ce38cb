/-
  DERIVED. GIVEN WITH THE SEED: THE CARDS: each row of YtcaiokhfphdfbaaDoorRows.lean that lists a variable, with what it lists TIED to the program's text (the seventh form; the later family's looks); each row that meets fmt, with fmt's text TOLD by the authors' own Lean function (tested against real Go, not proved from fmt's source: count such statements apart). THE CARD IS WHAT COUNTS. Prove the row's statement (the work); the ties are given (YtcaiokhfphdfbaaDoorTie.lean); close each card by the builder's one call (the guide's Derived/Test/ToyasCard.lean, 'card_holds'). Laid BY PROGRAM, IN A SANDBOX (cutbox-door.mjs). By AI agents, Wed Nov 11 2026. No macro, syntax, notation, axiom, sorry.
-/
import Derived.Test.YtcaiokhfphdfbaaDoorRows
import GoSem.ClaimSeven
namespace Go.Proofs.YtcaiokhfphdfbaaDoor
namespace Rows

/-- THE TIED CARD OF 'trystlaw15.NodesExact'. -/
def nodesExactCard : Claim7 := { stood := { row := nodesExactRow, standIns := [], harness := (true, "5e8b0bfd05748aa1c0ee99585b3c89aebf736f91b07eb6108b9c8ba9b3131543"), looks := false }, kinds := [], alts := [], laidByText := true, laidKinds := [.data], laidTests := true, laidLooks := .later }
def NodesExactCardSaid : Prop := Claim7.holds Tryd.pinned (.plain (OpenSpec.ofChange nodesExactSpec)) nodesExactCard

/-- THE SECOND FORM's CARD OF 'trystlaw15.NodesExact'. -/
def nodesExactUptoCard : Claim7 := { stood := { row := nodesExactUptoRow, standIns := [], harness := (true, "5e8b0bfd05748aa1c0ee99585b3c89aebf736f91b07eb6108b9c8ba9b3131543"), looks := false }, kinds := [], alts := [], laidByText := true, laidKinds := [.data], laidTests := true, laidLooks := .later }
def NodesExactUptoCardSaid : Prop := Claim7.holds Tryd.pinned (.plain (OpenSpec.upto nodesExactSpec)) nodesExactUptoCard
end Rows
end Go.Proofs.YtcaiokhfphdfbaaDoor
