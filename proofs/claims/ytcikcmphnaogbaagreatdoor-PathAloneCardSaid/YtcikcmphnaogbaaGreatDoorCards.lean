/-
  DERIVED. GIVEN WITH THE SEED: THE CARDS: each row of YtcikcmphnaogbaaGreatDoorRows.lean that lists a variable, with what it lists TIED to the program's text (the seventh form; the later family's looks); each row that meets fmt, with fmt's text TOLD by the authors' own Lean function (tested against real Go, not proved from fmt's source: count such statements apart). THE CARD IS WHAT COUNTS. Prove the row's statement (the work); the ties are given (YtcikcmphnaogbaaGreatDoorTie.lean); close each card by the builder's one call (the guide's Derived/Test/ToyasCard.lean, 'card_holds'). Laid BY PROGRAM, IN A SANDBOX (cutbox-door.mjs). By AI agents, Wed Nov 11 2026. No macro, syntax, notation, axiom, sorry.
-/
import Derived.Test.YtcikcmphnaogbaaGreatDoorRows
import GoSem.ClaimSeven
namespace Go.Proofs.YtcikcmphnaogbaaGreatDoor
namespace Rows

/-- THE TIED CARD OF 'trystlaw17.PathAlone'. -/
def pathAloneCard : Claim7 := { stood := { row := pathAloneRow, standIns := [], harness := (true, "c7366428ac4fdf8bc62d51c6e5f9062ddb0a03e01bd3c58acfe89cc5ee6cca64"), looks := true }, kinds := [], alts := [], laidByText := true, laidKinds := [.data, .data, .data, .handle], laidTests := true, laidLooks := .later }
def PathAloneCardSaid : Prop := Claim7.holds Tryz.pinned (.plain (OpenSpec.ofChange pathAloneSpec)) pathAloneCard

/-- THE SECOND FORM's CARD OF 'trystlaw17.PathAlone'. -/
def pathAloneUptoCard : Claim7 := { stood := { row := pathAloneUptoRow, standIns := [], harness := (true, "c7366428ac4fdf8bc62d51c6e5f9062ddb0a03e01bd3c58acfe89cc5ee6cca64"), looks := true }, kinds := [], alts := [], laidByText := true, laidKinds := [.data, .data, .data, .handle], laidTests := true, laidLooks := .later }
def PathAloneUptoCardSaid : Prop := Claim7.holds Tryz.pinned (.plain (OpenSpec.upto pathAloneSpec)) pathAloneUptoCard
end Rows
end Go.Proofs.YtcikcmphnaogbaaGreatDoor
