/-
  DERIVED. GIVEN WITH THE SEED: THE CARDS: each row of YtggjplfnalolcaaDoorRows.lean that lists a variable, with what it lists TIED to the program's text (the seventh form; the later family's looks); each row that meets fmt, with fmt's text TOLD by the authors' own Lean function (tested against real Go, not proved from fmt's source: count such statements apart). THE CARD IS WHAT COUNTS. Prove the row's statement (the work); the ties are given (YtggjplfnalolcaaDoorTie.lean); close each card by the builder's one call (the guide's Derived/Test/ToyasCard.lean, 'card_holds'). Laid BY PROGRAM, IN A SANDBOX (cutbox-door.mjs). By AI agents, Wed Nov 11 2026. No macro, syntax, notation, axiom, sorry.
-/
import Derived.Test.YtggjplfnalolcaaDoorRows
import GoSem.ClaimSeven
namespace Go.Proofs.YtggjplfnalolcaaDoor
namespace Rows

/-- THE TIED CARD OF 'trystlaw20.PackForged'. -/
def packForgedCard : Claim7 := { stood := { row := packForgedRow, standIns := [], harness := (true, "8c2e22297dd8af74bf35da8b2b52d1efe34d915e8b6c8cb872d995d6f35f5e5f"), looks := true }, kinds := [], alts := [], laidByText := true, laidKinds := [.handle], laidTests := true, laidLooks := .later }
def PackForgedCardSaid : Prop := Claim7.holds Tryd.pinned (.plain (OpenSpec.ofChange packForgedSpec)) packForgedCard

/-- THE SECOND FORM's CARD OF 'trystlaw20.PackForged'. -/
def packForgedUptoCard : Claim7 := { stood := { row := packForgedUptoRow, standIns := [], harness := (true, "8c2e22297dd8af74bf35da8b2b52d1efe34d915e8b6c8cb872d995d6f35f5e5f"), looks := true }, kinds := [], alts := [], laidByText := true, laidKinds := [.handle], laidTests := true, laidLooks := .later }
def PackForgedUptoCardSaid : Prop := Claim7.holds Tryd.pinned (.plain (OpenSpec.upto packForgedSpec)) packForgedUptoCard
end Rows
end Go.Proofs.YtggjplfnalolcaaDoor
