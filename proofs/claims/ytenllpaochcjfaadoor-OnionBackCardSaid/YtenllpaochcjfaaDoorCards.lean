/-
  DERIVED. GIVEN WITH THE SEED: THE CARDS: each row of YtenllpaochcjfaaDoorRows.lean that lists a variable, with what it lists TIED to the program's text (the seventh form; the later family's looks); each row that meets fmt, with fmt's text TOLD by the authors' own Lean function (tested against real Go, not proved from fmt's source: count such statements apart). THE CARD IS WHAT COUNTS. Prove the row's statement (the work); the ties are given (YtenllpaochcjfaaDoorTie.lean); close each card by the builder's one call (the guide's Derived/Test/ToyasCard.lean, 'card_holds'). Laid BY PROGRAM, IN A SANDBOX (cutbox-door.mjs). By AI agents, Wed Nov 11 2026. No macro, syntax, notation, axiom, sorry.
-/
import Derived.Test.YtenllpaochcjfaaDoorRows
import GoSem.ClaimSeven
namespace Go.Proofs.YtenllpaochcjfaaDoor
namespace Rows

/-- THE TIED CARD OF 'trystlaw23.OnionExact'. -/
def onionExactCard : Claim7 := { stood := { row := onionExactRow, standIns := [], harness := (true, "b4865cf8642858f20449f835e05e0a0237af9a5ed492867cc8cc70681a565938"), looks := true }, kinds := [], alts := [], laidByText := true, laidKinds := [.handle], laidTests := true, laidLooks := .later }
def OnionExactCardSaid : Prop := Claim7.holds Tryd.pinned (.plain (OpenSpec.ofChange onionExactSpec)) onionExactCard

/-- THE TIED CARD OF 'trystlaw23.OnionBack'. -/
def onionBackCard : Claim7 := { stood := { row := onionBackRow, standIns := [], harness := (true, "b4865cf8642858f20449f835e05e0a0237af9a5ed492867cc8cc70681a565938"), looks := true }, kinds := [], alts := [], laidByText := true, laidKinds := [.handle], laidTests := true, laidLooks := .later }
def OnionBackCardSaid : Prop := Claim7.holds Tryd.pinned (.plain (OpenSpec.ofChange onionBackSpec)) onionBackCard

/-- THE TIED CARD OF 'trystlaw24.MixSeen'. -/
def mixSeenCard : Claim7 := { stood := { row := mixSeenRow, standIns := [], harness := (true, "b4865cf8642858f20449f835e05e0a0237af9a5ed492867cc8cc70681a565938"), looks := true }, kinds := [], alts := [], laidByText := true, laidKinds := [.handle], laidTests := true, laidLooks := .later }
def MixSeenCardSaid : Prop := Claim7.holds Tryd.pinned (.plain (OpenSpec.ofChange mixSeenSpec)) mixSeenCard

/-- THE SECOND FORM's CARD OF 'trystlaw23.OnionExact'. -/
def onionExactUptoCard : Claim7 := { stood := { row := onionExactUptoRow, standIns := [], harness := (true, "b4865cf8642858f20449f835e05e0a0237af9a5ed492867cc8cc70681a565938"), looks := true }, kinds := [], alts := [], laidByText := true, laidKinds := [.handle], laidTests := true, laidLooks := .later }
def OnionExactUptoCardSaid : Prop := Claim7.holds Tryd.pinned (.plain (OpenSpec.upto onionExactSpec)) onionExactUptoCard

/-- THE SECOND FORM's CARD OF 'trystlaw23.OnionBack'. -/
def onionBackUptoCard : Claim7 := { stood := { row := onionBackUptoRow, standIns := [], harness := (true, "b4865cf8642858f20449f835e05e0a0237af9a5ed492867cc8cc70681a565938"), looks := true }, kinds := [], alts := [], laidByText := true, laidKinds := [.handle], laidTests := true, laidLooks := .later }
def OnionBackUptoCardSaid : Prop := Claim7.holds Tryd.pinned (.plain (OpenSpec.upto onionBackSpec)) onionBackUptoCard

/-- THE SECOND FORM's CARD OF 'trystlaw24.MixSeen'. -/
def mixSeenUptoCard : Claim7 := { stood := { row := mixSeenUptoRow, standIns := [], harness := (true, "b4865cf8642858f20449f835e05e0a0237af9a5ed492867cc8cc70681a565938"), looks := true }, kinds := [], alts := [], laidByText := true, laidKinds := [.handle], laidTests := true, laidLooks := .later }
def MixSeenUptoCardSaid : Prop := Claim7.holds Tryd.pinned (.plain (OpenSpec.upto mixSeenSpec)) mixSeenUptoCard
end Rows
end Go.Proofs.YtenllpaochcjfaaDoor
