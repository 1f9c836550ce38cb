/-
  DERIVED. GIVEN WITH THE SEED: THE CARDS: each row of YtlalonomdblhdaaDoorRows.lean that lists a variable, with what it lists TIED to the program's text (the seventh form; the later family's looks); each row that meets fmt, with fmt's text TOLD by the authors' own Lean function (tested against real Go, not proved from fmt's source: count such statements apart). THE CARD IS WHAT COUNTS. Prove the row's statement (the work); the ties are given (YtlalonomdblhdaaDoorTie.lean); close each card by the builder's one call (the guide's Derived/Test/ToyasCard.lean, 'card_holds'). Laid BY PROGRAM, IN A SANDBOX (cutbox-door.mjs). By AI agents, Wed Nov 11 2026. No macro, syntax, notation, axiom, sorry.
-/
import Derived.Test.YtlalonomdblhdaaDoorRows
import GoSem.ClaimSeven
namespace Go.Proofs.YtlalonomdblhdaaDoor
namespace Rows

/-- THE TIED CARD OF 'trystlaw08.CurveExact'. -/
def curveExactCard : Claim7 := { stood := { row := curveExactRow, standIns := [], harness := (true, "f058b10e4c3dc150723787051f4944b128d27700496289b34a03bfc7ec75b735"), looks := false }, kinds := [], alts := [], laidByText := true, laidKinds := [.data, .data, .data, .data], laidTests := true, laidLooks := .later }
def CurveExactCardSaid : Prop := Claim7.holds Tryd.pinned (.plain (OpenSpec.ofChange curveExactSpec)) curveExactCard

/-- THE TIED CARD OF 'trystlaw08.CurveNumbers'. -/
def curveNumbersCard : Claim7 := { stood := { row := curveNumbersRow, standIns := [], harness := (true, "f058b10e4c3dc150723787051f4944b128d27700496289b34a03bfc7ec75b735"), looks := false }, kinds := [], alts := [], laidByText := true, laidKinds := [.data, .data, .data, .data], laidTests := true, laidLooks := .later }
def CurveNumbersCardSaid : Prop := Claim7.holds Tryd.pinned (.plain (OpenSpec.ofChange curveNumbersSpec)) curveNumbersCard

/-- THE TIED CARD OF 'trystlaw08.CurveTurned'. -/
def curveTurnedCard : Claim7 := { stood := { row := curveTurnedRow, standIns := [], harness := (true, "f058b10e4c3dc150723787051f4944b128d27700496289b34a03bfc7ec75b735"), looks := false }, kinds := [], alts := [], laidByText := true, laidKinds := [.data, .data, .data, .data], laidTests := true, laidLooks := .later }
def CurveTurnedCardSaid : Prop := Claim7.holds Tryd.pinned (.plain (OpenSpec.ofChange curveTurnedSpec)) curveTurnedCard

/-- THE TIED CARD OF 'trystlaw08.CurveEquation'. -/
def curveEquationCard : Claim7 := { stood := { row := curveEquationRow, standIns := [], harness := (true, "f058b10e4c3dc150723787051f4944b128d27700496289b34a03bfc7ec75b735"), looks := false }, kinds := [], alts := [], laidByText := true, laidKinds := [.data, .data, .data, .data], laidTests := true, laidLooks := .later }
def CurveEquationCardSaid : Prop := Claim7.holds Tryd.pinned (.plain (OpenSpec.ofChange curveEquationSpec)) curveEquationCard

/-- THE TIED CARD OF 'trystlaw08.CurveDoubles'. -/
def curveDoublesCard : Claim7 := { stood := { row := curveDoublesRow, standIns := [], harness := (true, "f058b10e4c3dc150723787051f4944b128d27700496289b34a03bfc7ec75b735"), looks := false }, kinds := [], alts := [], laidByText := true, laidKinds := [.data, .data, .data, .data], laidTests := true, laidLooks := .later }
def CurveDoublesCardSaid : Prop := Claim7.holds Tryd.pinned (.plain (OpenSpec.ofChange curveDoublesSpec)) curveDoublesCard

/-- THE TIED CARD OF 'trystlaw08.CurveRing'. -/
def curveRingCard : Claim7 := { stood := { row := curveRingRow, standIns := [], harness := (true, "f058b10e4c3dc150723787051f4944b128d27700496289b34a03bfc7ec75b735"), looks := false }, kinds := [], alts := [], laidByText := true, laidKinds := [.data, .data, .data, .data], laidTests := true, laidLooks := .later }
def CurveRingCardSaid : Prop := Claim7.holds Tryd.pinned (.plain (OpenSpec.ofChange curveRingSpec)) curveRingCard

/-- THE SECOND FORM's CARD OF 'trystlaw08.CurveExact'. -/
def curveExactUptoCard : Claim7 := { stood := { row := curveExactUptoRow, standIns := [], harness := (true, "f058b10e4c3dc150723787051f4944b128d27700496289b34a03bfc7ec75b735"), looks := false }, kinds := [], alts := [], laidByText := true, laidKinds := [.data, .data, .data, .data], laidTests := true, laidLooks := .later }
def CurveExactUptoCardSaid : Prop := Claim7.holds Tryd.pinned (.plain (OpenSpec.upto curveExactSpec)) curveExactUptoCard

/-- THE SECOND FORM's CARD OF 'trystlaw08.CurveNumbers'. -/
def curveNumbersUptoCard : Claim7 := { stood := { row := curveNumbersUptoRow, standIns := [], harness := (true, "f058b10e4c3dc150723787051f4944b128d27700496289b34a03bfc7ec75b735"), looks := false }, kinds := [], alts := [], laidByText := true, laidKinds := [.data, .data, .data, .data], laidTests := true, laidLooks := .later }
def CurveNumbersUptoCardSaid : Prop := Claim7.holds Tryd.pinned (.plain (OpenSpec.upto curveNumbersSpec)) curveNumbersUptoCard

/-- THE SECOND FORM's CARD OF 'trystlaw08.CurveTurned'. -/
def curveTurnedUptoCard : Claim7 := { stood := { row := curveTurnedUptoRow, standIns := [], harness := (true, "f058b10e4c3dc150723787051f4944b128d27700496289b34a03bfc7ec75b735"), looks := false }, kinds := [], alts := [], laidByText := true, laidKinds := [.data, .data, .data, .data], laidTests := true, laidLooks := .later }
def CurveTurnedUptoCardSaid : Prop := Claim7.holds Tryd.pinned (.plain (OpenSpec.upto curveTurnedSpec)) curveTurnedUptoCard

/-- THE SECOND FORM's CARD OF 'trystlaw08.CurveEquation'. -/
def curveEquationUptoCard : Claim7 := { stood := { row := curveEquationUptoRow, standIns := [], harness := (true, "f058b10e4c3dc150723787051f4944b128d27700496289b34a03bfc7ec75b735"), looks := false }, kinds := [], alts := [], laidByText := true, laidKinds := [.data, .data, .data, .data], laidTests := true, laidLooks := .later }
def CurveEquationUptoCardSaid : Prop := Claim7.holds Tryd.pinned (.plain (OpenSpec.upto curveEquationSpec)) curveEquationUptoCard

/-- THE SECOND FORM's CARD OF 'trystlaw08.CurveDoubles'. -/
def curveDoublesUptoCard : Claim7 := { stood := { row := curveDoublesUptoRow, standIns := [], harness := (true, "f058b10e4c3dc150723787051f4944b128d27700496289b34a03bfc7ec75b735"), looks := false }, kinds := [], alts := [], laidByText := true, laidKinds := [.data, .data, .data, .data], laidTests := true, laidLooks := .later }
def CurveDoublesUptoCardSaid : Prop := Claim7.holds Tryd.pinned (.plain (OpenSpec.upto curveDoublesSpec)) curveDoublesUptoCard

/-- THE SECOND FORM's CARD OF 'trystlaw08.CurveRing'. -/
def curveRingUptoCard : Claim7 := { stood := { row := curveRingUptoRow, standIns := [], harness := (true, "f058b10e4c3dc150723787051f4944b128d27700496289b34a03bfc7ec75b735"), looks := false }, kinds := [], alts := [], laidByText := true, laidKinds := [.data, .data, .data, .data], laidTests := true, laidLooks := .later }
def CurveRingUptoCardSaid : Prop := Claim7.holds Tryd.pinned (.plain (OpenSpec.upto curveRingSpec)) curveRingUptoCard
end Rows
end Go.Proofs.YtlalonomdblhdaaDoor
