/-
  DERIVED. GIVEN WITH THE SEED: THE CARDS: each row of YtheidgcgdkmmiaaDoorRows.lean that lists a variable, with what it lists TIED to the program's text (the seventh form; the later family's looks); each row that meets fmt, with fmt's text TOLD by the authors' own Lean function (tested against real Go, not proved from fmt's source: count such statements apart). THE CARD IS WHAT COUNTS. Prove the row's statement (the work); the ties are given (YtheidgcgdkmmiaaDoorTie.lean); close each card by the builder's one call (the guide's Derived/Test/ToyasCard.lean, 'card_holds'). Laid BY PROGRAM, IN A SANDBOX (cutbox-door.mjs). By AI agents, Wed Nov 11 2026. No macro, syntax, notation, axiom, sorry.
-/
import Derived.Test.YtheidgcgdkmmiaaDoorRows
import GoSem.ClaimSeven
namespace Go.Proofs.YtheidgcgdkmmiaaDoor
namespace Rows

/-- THE TIED CARD OF 'trystlaw09.SignExact'. -/
def signExactCard : Claim7 := { stood := { row := signExactRow, standIns := [], harness := (true, "8945106303d7676a0a05d7d9f66dd55c44629bbb45e42e457c2af300e3c66b61"), looks := false }, kinds := [], alts := [], laidByText := true, laidKinds := [.data, .data, .data, .data, .data, .data], laidTests := true, laidLooks := .later }
def SignExactCardSaid : Prop := Claim7.holds Tryd.pinned (.plain (OpenSpec.ofChange signExactSpec)) signExactCard

/-- THE TIED CARD OF 'trystlaw09.SignLooks'. -/
def signLooksCard : Claim7 := { stood := { row := signLooksRow, standIns := [], harness := (true, "8945106303d7676a0a05d7d9f66dd55c44629bbb45e42e457c2af300e3c66b61"), looks := false }, kinds := [], alts := [], laidByText := true, laidKinds := [.data, .data, .data, .data, .data, .data, .data], laidTests := true, laidLooks := .later }
def SignLooksCardSaid : Prop := Claim7.holds Tryd.pinned (.plain (OpenSpec.ofChange signLooksSpec)) signLooksCard

/-- THE TIED CARD OF 'trystlaw09.SignBack'. -/
def signBackCard : Claim7 := { stood := { row := signBackRow, standIns := [], harness := (true, "8945106303d7676a0a05d7d9f66dd55c44629bbb45e42e457c2af300e3c66b61"), looks := false }, kinds := [], alts := [], laidByText := true, laidKinds := [.data, .data, .data, .data, .data, .data, .data], laidTests := true, laidLooks := .later }
def SignBackCardSaid : Prop := Claim7.holds Tryd.pinned (.plain (OpenSpec.ofChange signBackSpec)) signBackCard

/-- THE TIED CARD OF 'trystlaw09.SignLong'. -/
def signLongCard : Claim7 := { stood := { row := signLongRow, standIns := [], harness := (true, "8945106303d7676a0a05d7d9f66dd55c44629bbb45e42e457c2af300e3c66b61"), looks := false }, kinds := [], alts := [], laidByText := true, laidKinds := [.data, .data, .data, .data, .data, .data, .data], laidTests := true, laidLooks := .later }
def SignLongCardSaid : Prop := Claim7.holds Tryd.pinned (.plain (OpenSpec.ofChange signLongSpec)) signLongCard

/-- THE TIED CARD OF 'trystlaw09.SignTwice'. -/
def signTwiceCard : Claim7 := { stood := { row := signTwiceRow, standIns := [], harness := (true, "8945106303d7676a0a05d7d9f66dd55c44629bbb45e42e457c2af300e3c66b61"), looks := false }, kinds := [], alts := [], laidByText := true, laidKinds := [.data, .data, .data, .data, .data, .data, .data], laidTests := true, laidLooks := .later }
def SignTwiceCardSaid : Prop := Claim7.holds Tryd.pinned (.plain (OpenSpec.ofChange signTwiceSpec)) signTwiceCard

/-- THE TIED CARD OF 'trystlaw09.SignNeutral'. -/
def signNeutralCard : Claim7 := { stood := { row := signNeutralRow, standIns := [], harness := (true, "8945106303d7676a0a05d7d9f66dd55c44629bbb45e42e457c2af300e3c66b61"), looks := false }, kinds := [], alts := [], laidByText := true, laidKinds := [.data, .data, .data, .data, .data, .data, .data], laidTests := true, laidLooks := .later }
def SignNeutralCardSaid : Prop := Claim7.holds Tryd.pinned (.plain (OpenSpec.ofChange signNeutralSpec)) signNeutralCard

/-- THE SECOND FORM's CARD OF 'trystlaw09.SignExact'. -/
def signExactUptoCard : Claim7 := { stood := { row := signExactUptoRow, standIns := [], harness := (true, "8945106303d7676a0a05d7d9f66dd55c44629bbb45e42e457c2af300e3c66b61"), looks := false }, kinds := [], alts := [], laidByText := true, laidKinds := [.data, .data, .data, .data, .data, .data], laidTests := true, laidLooks := .later }
def SignExactUptoCardSaid : Prop := Claim7.holds Tryd.pinned (.plain (OpenSpec.upto signExactSpec)) signExactUptoCard

/-- THE SECOND FORM's CARD OF 'trystlaw09.SignLooks'. -/
def signLooksUptoCard : Claim7 := { stood := { row := signLooksUptoRow, standIns := [], harness := (true, "8945106303d7676a0a05d7d9f66dd55c44629bbb45e42e457c2af300e3c66b61"), looks := false }, kinds := [], alts := [], laidByText := true, laidKinds := [.data, .data, .data, .data, .data, .data, .data], laidTests := true, laidLooks := .later }
def SignLooksUptoCardSaid : Prop := Claim7.holds Tryd.pinned (.plain (OpenSpec.upto signLooksSpec)) signLooksUptoCard

/-- THE SECOND FORM's CARD OF 'trystlaw09.SignBack'. -/
def signBackUptoCard : Claim7 := { stood := { row := signBackUptoRow, standIns := [], harness := (true, "8945106303d7676a0a05d7d9f66dd55c44629bbb45e42e457c2af300e3c66b61"), looks := false }, kinds := [], alts := [], laidByText := true, laidKinds := [.data, .data, .data, .data, .data, .data, .data], laidTests := true, laidLooks := .later }
def SignBackUptoCardSaid : Prop := Claim7.holds Tryd.pinned (.plain (OpenSpec.upto signBackSpec)) signBackUptoCard

/-- THE SECOND FORM's CARD OF 'trystlaw09.SignLong'. -/
def signLongUptoCard : Claim7 := { stood := { row := signLongUptoRow, standIns := [], harness := (true, "8945106303d7676a0a05d7d9f66dd55c44629bbb45e42e457c2af300e3c66b61"), looks := false }, kinds := [], alts := [], laidByText := true, laidKinds := [.data, .data, .data, .data, .data, .data, .data], laidTests := true, laidLooks := .later }
def SignLongUptoCardSaid : Prop := Claim7.holds Tryd.pinned (.plain (OpenSpec.upto signLongSpec)) signLongUptoCard

/-- THE SECOND FORM's CARD OF 'trystlaw09.SignTwice'. -/
def signTwiceUptoCard : Claim7 := { stood := { row := signTwiceUptoRow, standIns := [], harness := (true, "8945106303d7676a0a05d7d9f66dd55c44629bbb45e42e457c2af300e3c66b61"), looks := false }, kinds := [], alts := [], laidByText := true, laidKinds := [.data, .data, .data, .data, .data, .data, .data], laidTests := true, laidLooks := .later }
def SignTwiceUptoCardSaid : Prop := Claim7.holds Tryd.pinned (.plain (OpenSpec.upto signTwiceSpec)) signTwiceUptoCard

/-- THE SECOND FORM's CARD OF 'trystlaw09.SignNeutral'. -/
def signNeutralUptoCard : Claim7 := { stood := { row := signNeutralUptoRow, standIns := [], harness := (true, "8945106303d7676a0a05d7d9f66dd55c44629bbb45e42e457c2af300e3c66b61"), looks := false }, kinds := [], alts := [], laidByText := true, laidKinds := [.data, .data, .data, .data, .data, .data, .data], laidTests := true, laidLooks := .later }
def SignNeutralUptoCardSaid : Prop := Claim7.holds Tryd.pinned (.plain (OpenSpec.upto signNeutralSpec)) signNeutralUptoCard
end Rows
end Go.Proofs.YtheidgcgdkmmiaaDoor
