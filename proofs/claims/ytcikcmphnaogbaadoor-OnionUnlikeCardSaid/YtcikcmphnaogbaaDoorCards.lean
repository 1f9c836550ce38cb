/-
  DERIVED. GIVEN WITH THE SEED: THE CARDS: each row of YtcikcmphnaogbaaDoorRows.lean that lists a variable, with what it lists TIED to the program's text (the seventh form; the later family's looks); each row that meets fmt, with fmt's text TOLD by the authors' own Lean function (tested against real Go, not proved from fmt's source: count such statements apart). THE CARD IS WHAT COUNTS. Prove the row's statement (the work); the ties are given (YtcikcmphnaogbaaDoorTie.lean); close each card by the builder's one call (the guide's Derived/Test/ToyasCard.lean, 'card_holds'). Laid BY PROGRAM, IN A SANDBOX (cutbox-door.mjs). By AI agents, Wed Nov 11 2026. No macro, syntax, notation, axiom, sorry.
-/
import Derived.Test.YtcikcmphnaogbaaDoorRows
import GoSem.ClaimSeven
namespace Go.Proofs.YtcikcmphnaogbaaDoor
namespace Rows

/-- THE TIED CARD OF 'trystlaw16.TreeFull'. -/
def treeFullCard : Claim7 := { stood := { row := treeFullRow, standIns := [], harness := (true, "37b7fbe17f17af84c240f640f57938284aa75a71f39a9f718556086d5ec1f2d8"), looks := true }, kinds := [], alts := [], laidByText := true, laidKinds := [.data], laidTests := true, laidLooks := .later }
def TreeFullCardSaid : Prop := Claim7.holds Tryd.pinned (.plain (OpenSpec.ofChange treeFullSpec)) treeFullCard

/-- THE TIED CARD OF 'trystlaw23.OnionHidden'. -/
def onionHiddenCard : Claim7 := { stood := { row := onionHiddenRow, standIns := [], harness := (true, "37b7fbe17f17af84c240f640f57938284aa75a71f39a9f718556086d5ec1f2d8"), looks := true }, kinds := [], alts := [], laidByText := true, laidKinds := [.handle], laidTests := true, laidLooks := .later }
def OnionHiddenCardSaid : Prop := Claim7.holds Tryd.pinned (.plain (OpenSpec.ofChange onionHiddenSpec)) onionHiddenCard

/-- THE TIED CARD OF 'trystlaw23.OnionUnlike'. -/
def onionUnlikeCard : Claim7 := { stood := { row := onionUnlikeRow, standIns := [], harness := (true, "37b7fbe17f17af84c240f640f57938284aa75a71f39a9f718556086d5ec1f2d8"), looks := true }, kinds := [], alts := [], laidByText := true, laidKinds := [.handle], laidTests := true, laidLooks := .later }
def OnionUnlikeCardSaid : Prop := Claim7.holds Tryd.pinned (.plain (OpenSpec.ofChange onionUnlikeSpec)) onionUnlikeCard

/-- THE SECOND FORM's CARD OF 'trystlaw16.TreeFull'. -/
def treeFullUptoCard : Claim7 := { stood := { row := treeFullUptoRow, standIns := [], harness := (true, "37b7fbe17f17af84c240f640f57938284aa75a71f39a9f718556086d5ec1f2d8"), looks := true }, kinds := [], alts := [], laidByText := true, laidKinds := [.data], laidTests := true, laidLooks := .later }
def TreeFullUptoCardSaid : Prop := Claim7.holds Tryd.pinned (.plain (OpenSpec.upto treeFullSpec)) treeFullUptoCard

/-- THE SECOND FORM's CARD OF 'trystlaw23.OnionHidden'. -/
def onionHiddenUptoCard : Claim7 := { stood := { row := onionHiddenUptoRow, standIns := [], harness := (true, "37b7fbe17f17af84c240f640f57938284aa75a71f39a9f718556086d5ec1f2d8"), looks := true }, kinds := [], alts := [], laidByText := true, laidKinds := [.handle], laidTests := true, laidLooks := .later }
def OnionHiddenUptoCardSaid : Prop := Claim7.holds Tryd.pinned (.plain (OpenSpec.upto onionHiddenSpec)) onionHiddenUptoCard

/-- THE SECOND FORM's CARD OF 'trystlaw23.OnionUnlike'. -/
def onionUnlikeUptoCard : Claim7 := { stood := { row := onionUnlikeUptoRow, standIns := [], harness := (true, "37b7fbe17f17af84c240f640f57938284aa75a71f39a9f718556086d5ec1f2d8"), looks := true }, kinds := [], alts := [], laidByText := true, laidKinds := [.handle], laidTests := true, laidLooks := .later }
def OnionUnlikeUptoCardSaid : Prop := Claim7.holds Tryd.pinned (.plain (OpenSpec.upto onionUnlikeSpec)) onionUnlikeUptoCard
end Rows
end Go.Proofs.YtcikcmphnaogbaaDoor
