/-
  DERIVED. GIVEN WITH THE SEED: THE CARDS: each row of YtnlhpiieihnbiaaDoorRows.lean that lists a variable, with what it lists TIED to the program's text (the seventh form; the later family's looks); each row that meets fmt, with fmt's text TOLD by the authors' own Lean function (tested against real Go, not proved from fmt's source: count such statements apart). THE CARD IS WHAT COUNTS. Prove the row's statement (the work); the ties are given (YtnlhpiieihnbiaaDoorTie.lean); close each card by the builder's one call (the guide's Derived/Test/ToyasCard.lean, 'card_holds'). Laid BY PROGRAM, IN A SANDBOX (cutbox-door.mjs). By AI agents, Wed Nov 11 2026. No macro, syntax, notation, axiom, sorry.
-/
import Derived.Test.YtnlhpiieihnbiaaDoorRows
import GoSem.ClaimSeven
namespace Go.Proofs.YtnlhpiieihnbiaaDoor
namespace Rows

/-- THE TIED CARD OF 'trystlaw08.CurveNumbers'. -/
def curveNumbersCard : Claim7 := { stood := { row := curveNumbersRow, standIns := [], harness := (true, "4fd09045e6821276d435d2d4998247e0789e5cdd2116a89db7f4265888bac662"), looks := false }, kinds := [], alts := [], laidByText := true, laidKinds := [.data, .data, .data, .data], laidTests := true, laidLooks := .later }
def CurveNumbersCardSaid : Prop := Claim7.holds Tryd.pinned (.plain (OpenSpec.ofChange curveNumbersSpec)) curveNumbersCard

/-- THE TIED CARD OF 'trystlaw08.CurveGroup'. -/
def curveGroupCard : Claim7 := { stood := { row := curveGroupRow, standIns := [], harness := (true, "4fd09045e6821276d435d2d4998247e0789e5cdd2116a89db7f4265888bac662"), looks := false }, kinds := [], alts := [], laidByText := true, laidKinds := [.data, .data, .data, .data], laidTests := true, laidLooks := .later }
def CurveGroupCardSaid : Prop := Claim7.holds Tryd.pinned (.plain (OpenSpec.ofChange curveGroupSpec)) curveGroupCard

/-- THE TIED CARD OF 'trystlaw08.CurveMultiples'. -/
def curveMultiplesCard : Claim7 := { stood := { row := curveMultiplesRow, standIns := [], harness := (true, "4fd09045e6821276d435d2d4998247e0789e5cdd2116a89db7f4265888bac662"), looks := false }, kinds := [], alts := [], laidByText := true, laidKinds := [.data, .data, .data, .data, .data], laidTests := true, laidLooks := .later }
def CurveMultiplesCardSaid : Prop := Claim7.holds Tryd.pinned (.plain (OpenSpec.ofChange curveMultiplesSpec)) curveMultiplesCard

/-- THE TIED CARD OF 'trystlaw08.CurveOrder'. -/
def curveOrderCard : Claim7 := { stood := { row := curveOrderRow, standIns := [], harness := (true, "4fd09045e6821276d435d2d4998247e0789e5cdd2116a89db7f4265888bac662"), looks := false }, kinds := [], alts := [], laidByText := true, laidKinds := [.data, .data, .data, .data], laidTests := true, laidLooks := .later }
def CurveOrderCardSaid : Prop := Claim7.holds Tryd.pinned (.plain (OpenSpec.ofChange curveOrderSpec)) curveOrderCard

/-- THE TIED CARD OF 'trystlaw08.CurveRing'. -/
def curveRingCard : Claim7 := { stood := { row := curveRingRow, standIns := [], harness := (true, "4fd09045e6821276d435d2d4998247e0789e5cdd2116a89db7f4265888bac662"), looks := false }, kinds := [], alts := [], laidByText := true, laidKinds := [.data, .data, .data, .data], laidTests := true, laidLooks := .later }
def CurveRingCardSaid : Prop := Claim7.holds Tryd.pinned (.plain (OpenSpec.ofChange curveRingSpec)) curveRingCard

/-- THE SECOND FORM's CARD OF 'trystlaw08.CurveNumbers'. -/
def curveNumbersUptoCard : Claim7 := { stood := { row := curveNumbersUptoRow, standIns := [], harness := (true, "4fd09045e6821276d435d2d4998247e0789e5cdd2116a89db7f4265888bac662"), looks := false }, kinds := [], alts := [], laidByText := true, laidKinds := [.data, .data, .data, .data], laidTests := true, laidLooks := .later }
def CurveNumbersUptoCardSaid : Prop := Claim7.holds Tryd.pinned (.plain (OpenSpec.upto curveNumbersSpec)) curveNumbersUptoCard

/-- THE SECOND FORM's CARD OF 'trystlaw08.CurveGroup'. -/
def curveGroupUptoCard : Claim7 := { stood := { row := curveGroupUptoRow, standIns := [], harness := (true, "4fd09045e6821276d435d2d4998247e0789e5cdd2116a89db7f4265888bac662"), looks := false }, kinds := [], alts := [], laidByText := true, laidKinds := [.data, .data, .data, .data], laidTests := true, laidLooks := .later }
def CurveGroupUptoCardSaid : Prop := Claim7.holds Tryd.pinned (.plain (OpenSpec.upto curveGroupSpec)) curveGroupUptoCard

/-- THE SECOND FORM's CARD OF 'trystlaw08.CurveMultiples'. -/
def curveMultiplesUptoCard : Claim7 := { stood := { row := curveMultiplesUptoRow, standIns := [], harness := (true, "4fd09045e6821276d435d2d4998247e0789e5cdd2116a89db7f4265888bac662"), looks := false }, kinds := [], alts := [], laidByText := true, laidKinds := [.data, .data, .data, .data, .data], laidTests := true, laidLooks := .later }
def CurveMultiplesUptoCardSaid : Prop := Claim7.holds Tryd.pinned (.plain (OpenSpec.upto curveMultiplesSpec)) curveMultiplesUptoCard

/-- THE SECOND FORM's CARD OF 'trystlaw08.CurveOrder'. -/
def curveOrderUptoCard : Claim7 := { stood := { row := curveOrderUptoRow, standIns := [], harness := (true, "4fd09045e6821276d435d2d4998247e0789e5cdd2116a89db7f4265888bac662"), looks := false }, kinds := [], alts := [], laidByText := true, laidKinds := [.data, .data, .data, .data], laidTests := true, laidLooks := .later }
def CurveOrderUptoCardSaid : Prop := Claim7.holds Tryd.pinned (.plain (OpenSpec.upto curveOrderSpec)) curveOrderUptoCard

/-- THE SECOND FORM's CARD OF 'trystlaw08.CurveRing'. -/
def curveRingUptoCard : Claim7 := { stood := { row := curveRingUptoRow, standIns := [], harness := (true, "4fd09045e6821276d435d2d4998247e0789e5cdd2116a89db7f4265888bac662"), looks := false }, kinds := [], alts := [], laidByText := true, laidKinds := [.data, .data, .data, .data], laidTests := true, laidLooks := .later }
def CurveRingUptoCardSaid : Prop := Claim7.holds Tryd.pinned (.plain (OpenSpec.upto curveRingSpec)) curveRingUptoCard
end Rows
end Go.Proofs.YtnlhpiieihnbiaaDoor
