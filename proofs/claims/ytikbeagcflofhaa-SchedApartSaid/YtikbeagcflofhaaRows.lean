/-
  No cell of these rows narrows 'for every input' (looked for: loops, veiled, ifaces, maps, wideKeys, modest, calm, conditions, laid).
  DERIVED. THE GIVEN ROWS OF THIS SEAT. 10 by the template 'for every input the law returns true; each argument reads behind the call as it read before'; 0 by the template 'total and deterministic' (their statements: YtikbeagcflofhaaTotals.lean).
  GIVEN WITH THE SEED: the statements are not yours to turn. If you find one false, say at which input.
  Laid BY PROGRAM, IN A SANDBOX (cutbox-rows.mjs): the forced cells as the released guide's own fill.sh prints them over the translation f63bc913ce323eca… (all of the seat's roots in one cut). By AI agents, Wed Nov 11 2026. No macro, syntax, notation, axiom, sorry.
-/
import Derived.Test.YtikbeagcflofhaaChecked
import GoSem.Claim
import GoSem.ClaimJoined
import GoSem.ClaimMapViews
import Derived.JoinedTies
import Derived.KernelRfl
namespace Go.Proofs.Ytikbeagcflofhaa
/- THE CELL 'sum', in the pinned program and in every row, IS THE sha256 OF THE DUMP (.gsa) THAT YtikbeagcflofhaaProg.lean LOADS. Nothing in Lean hashes anything: it is a label: what it is worth is what the hold of that sum in a sandbox is worth. -/
noncomputable def Try.pinned : Pinned := { name := "ytikbeagcflofhaa", sum := "f63bc913ce323eca98b3d3670e23108a8aed27c423abbe3668178255eda75403", checked := Try.checked }
namespace Rows
def none {H : Type} : Left H := { results := [], args := [] }

/-- 'trystlaw11.KnowSecrets': WHATEVER THE INPUT: true; the input reads as it did. -/
def knowSecretsSpec : ChangeSpec := { name := "knowSecrets", fn := fun _ => fun
  | [d1, d2, d3] => { results := [.lit (.bool true)], args := [d1, d2, d3] }
  | _ => none }
def knowSecretsRow : OpenClaim := { program := "ytikbeagcflofhaa", sum := "f63bc913ce323eca98b3d3670e23108a8aed27c423abbe3668178255eda75403", func := "tryst/trystlaw11.KnowSecrets", spec := "knowSecrets", apart := false }
def KnowSecretsSaid : Prop := knowSecretsRow.holds Try.pinned (OpenSpec.ofChange knowSecretsSpec)

/-- ITS FALSE NEIGHBOUR: 'it returns false'. Refute it at one input. -/
def knowSecretsWrong : ChangeSpec := { name := "knowSecrets", fn := fun _ => fun
  | [d1, d2, d3] => { results := [.lit (.bool false)], args := [d1, d2, d3] }
  | _ => none }
def KnowSecretsWrongFalsely : Prop := knowSecretsRow.holds Try.pinned (OpenSpec.ofChange knowSecretsWrong)

/-- 'trystlaw11.KnowMade': WHATEVER THE INPUT: true; the input reads as it did. -/
def knowMadeSpec : ChangeSpec := { name := "knowMade", fn := fun _ => fun
  | [d] => { results := [.lit (.bool true)], args := [d] }
  | _ => none }
def knowMadeRow : OpenClaim := { program := "ytikbeagcflofhaa", sum := "f63bc913ce323eca98b3d3670e23108a8aed27c423abbe3668178255eda75403", func := "tryst/trystlaw11.KnowMade", spec := "knowMade", apart := false }
def KnowMadeSaid : Prop := knowMadeRow.holds Try.pinned (OpenSpec.ofChange knowMadeSpec)

/-- ITS FALSE NEIGHBOUR: 'it returns false'. Refute it at one input. -/
def knowMadeWrong : ChangeSpec := { name := "knowMade", fn := fun _ => fun
  | [d] => { results := [.lit (.bool false)], args := [d] }
  | _ => none }
def KnowMadeWrongFalsely : Prop := knowMadeRow.holds Try.pinned (OpenSpec.ofChange knowMadeWrong)

/-- 'trystlaw11.KnowNests': WHATEVER THE INPUT: true; the input reads as it did. -/
def knowNestsSpec : ChangeSpec := { name := "knowNests", fn := fun _ => fun
  | [d1, d2] => { results := [.lit (.bool true)], args := [d1, d2] }
  | _ => none }
def knowNestsRow : OpenClaim := { program := "ytikbeagcflofhaa", sum := "f63bc913ce323eca98b3d3670e23108a8aed27c423abbe3668178255eda75403", func := "tryst/trystlaw11.KnowNests", spec := "knowNests", apart := false }
def KnowNestsSaid : Prop := knowNestsRow.holds Try.pinned (OpenSpec.ofChange knowNestsSpec)

/-- ITS FALSE NEIGHBOUR: 'it returns false'. Refute it at one input. -/
def knowNestsWrong : ChangeSpec := { name := "knowNests", fn := fun _ => fun
  | [d1, d2] => { results := [.lit (.bool false)], args := [d1, d2] }
  | _ => none }
def KnowNestsWrongFalsely : Prop := knowNestsRow.holds Try.pinned (OpenSpec.ofChange knowNestsWrong)

/-- 'trystlaw18.SchedExact': WHATEVER THE INPUT: true; the input reads as it did. -/
def schedExactSpec : ChangeSpec := { name := "schedExact", fn := fun _ => fun
  | [d1, d2, d3, d4] => { results := [.lit (.bool true)], args := [d1, d2, d3, d4] }
  | _ => none }
def schedExactRow : OpenClaim := { program := "ytikbeagcflofhaa", sum := "f63bc913ce323eca98b3d3670e23108a8aed27c423abbe3668178255eda75403", func := "tryst/trystlaw18.SchedExact", spec := "schedExact", recurses := true, apart := false }
def SchedExactSaid : Prop := schedExactRow.holds Try.pinned (OpenSpec.ofChange schedExactSpec)

/-- ITS FALSE NEIGHBOUR: 'it returns false'. Refute it at one input. -/
def schedExactWrong : ChangeSpec := { name := "schedExact", fn := fun _ => fun
  | [d1, d2, d3, d4] => { results := [.lit (.bool false)], args := [d1, d2, d3, d4] }
  | _ => none }
def SchedExactWrongFalsely : Prop := schedExactRow.holds Try.pinned (OpenSpec.ofChange schedExactWrong)

/-- 'trystlaw18.SchedLeaves': WHATEVER THE INPUT: true; the input reads as it did. -/
def schedLeavesSpec : ChangeSpec := { name := "schedLeaves", fn := fun _ => fun
  | [d1, d2, d3, d4, d5] => { results := [.lit (.bool true)], args := [d1, d2, d3, d4, d5] }
  | _ => none }
def schedLeavesRow : OpenClaim := { program := "ytikbeagcflofhaa", sum := "f63bc913ce323eca98b3d3670e23108a8aed27c423abbe3668178255eda75403", func := "tryst/trystlaw18.SchedLeaves", spec := "schedLeaves", recurses := true, apart := false }
def SchedLeavesSaid : Prop := schedLeavesRow.holds Try.pinned (OpenSpec.ofChange schedLeavesSpec)

/-- ITS FALSE NEIGHBOUR: 'it returns false'. Refute it at one input. -/
def schedLeavesWrong : ChangeSpec := { name := "schedLeaves", fn := fun _ => fun
  | [d1, d2, d3, d4, d5] => { results := [.lit (.bool false)], args := [d1, d2, d3, d4, d5] }
  | _ => none }
def SchedLeavesWrongFalsely : Prop := schedLeavesRow.holds Try.pinned (OpenSpec.ofChange schedLeavesWrong)

/-- 'trystlaw18.SchedApart': WHATEVER THE INPUT: true; the input reads as it did. -/
def schedApartSpec : ChangeSpec := { name := "schedApart", fn := fun _ => fun
  | [d1, d2, d3] => { results := [.lit (.bool true)], args := [d1, d2, d3] }
  | _ => none }
def schedApartRow : OpenClaim := { program := "ytikbeagcflofhaa", sum := "f63bc913ce323eca98b3d3670e23108a8aed27c423abbe3668178255eda75403", func := "tryst/trystlaw18.SchedApart", spec := "schedApart", apart := false }
def SchedApartSaid : Prop := schedApartRow.holds Try.pinned (OpenSpec.ofChange schedApartSpec)

/-- ITS FALSE NEIGHBOUR: 'it returns false'. Refute it at one input. -/
def schedApartWrong : ChangeSpec := { name := "schedApart", fn := fun _ => fun
  | [d1, d2, d3] => { results := [.lit (.bool false)], args := [d1, d2, d3] }
  | _ => none }
def SchedApartWrongFalsely : Prop := schedApartRow.holds Try.pinned (OpenSpec.ofChange schedApartWrong)

/-- 'trystlaw19.RatchetExact': WHATEVER THE INPUT: true; the input reads as it did. -/
def ratchetExactSpec : ChangeSpec := { name := "ratchetExact", fn := fun _ => fun
  | [d1, d2, d3] => { results := [.lit (.bool true)], args := [d1, d2, d3] }
  | _ => none }
def ratchetExactRow : OpenClaim := { program := "ytikbeagcflofhaa", sum := "f63bc913ce323eca98b3d3670e23108a8aed27c423abbe3668178255eda75403", func := "tryst/trystlaw19.RatchetExact", spec := "ratchetExact", unfollowed := true, recurses := true, apart := false }
def RatchetExactSaid : Prop := ratchetExactRow.holds Try.pinned (OpenSpec.ofChange ratchetExactSpec)

/-- ITS FALSE NEIGHBOUR: 'it returns false'. Refute it at one input. -/
def ratchetExactWrong : ChangeSpec := { name := "ratchetExact", fn := fun _ => fun
  | [d1, d2, d3] => { results := [.lit (.bool false)], args := [d1, d2, d3] }
  | _ => none }
def RatchetExactWrongFalsely : Prop := ratchetExactRow.holds Try.pinned (OpenSpec.ofChange ratchetExactWrong)

/-- 'trystlaw19.RatchetMeets': WHATEVER THE INPUT: true; the input reads as it did. -/
def ratchetMeetsSpec : ChangeSpec := { name := "ratchetMeets", fn := fun _ => fun
  | [d1, d2] => { results := [.lit (.bool true)], args := [d1, d2] }
  | _ => none }
def ratchetMeetsRow : OpenClaim := { program := "ytikbeagcflofhaa", sum := "f63bc913ce323eca98b3d3670e23108a8aed27c423abbe3668178255eda75403", func := "tryst/trystlaw19.RatchetMeets", spec := "ratchetMeets", unfollowed := true, recurses := true, apart := false }
def RatchetMeetsSaid : Prop := ratchetMeetsRow.holds Try.pinned (OpenSpec.ofChange ratchetMeetsSpec)

/-- ITS FALSE NEIGHBOUR: 'it returns false'. Refute it at one input. -/
def ratchetMeetsWrong : ChangeSpec := { name := "ratchetMeets", fn := fun _ => fun
  | [d1, d2] => { results := [.lit (.bool false)], args := [d1, d2] }
  | _ => none }
def RatchetMeetsWrongFalsely : Prop := ratchetMeetsRow.holds Try.pinned (OpenSpec.ofChange ratchetMeetsWrong)

/-- 'trystlaw19.RatchetPast': WHATEVER THE INPUT: true; the input reads as it did. -/
def ratchetPastSpec : ChangeSpec := { name := "ratchetPast", fn := fun _ => fun
  | [d1, d2] => { results := [.lit (.bool true)], args := [d1, d2] }
  | _ => none }
def ratchetPastRow : OpenClaim := { program := "ytikbeagcflofhaa", sum := "f63bc913ce323eca98b3d3670e23108a8aed27c423abbe3668178255eda75403", func := "tryst/trystlaw19.RatchetPast", spec := "ratchetPast", unfollowed := true, recurses := true, apart := false }
def RatchetPastSaid : Prop := ratchetPastRow.holds Try.pinned (OpenSpec.ofChange ratchetPastSpec)

/-- ITS FALSE NEIGHBOUR: 'it returns false'. Refute it at one input. -/
def ratchetPastWrong : ChangeSpec := { name := "ratchetPast", fn := fun _ => fun
  | [d1, d2] => { results := [.lit (.bool false)], args := [d1, d2] }
  | _ => none }
def RatchetPastWrongFalsely : Prop := ratchetPastRow.holds Try.pinned (OpenSpec.ofChange ratchetPastWrong)

/-- 'trystlaw19.RatchetBounds': WHATEVER THE INPUT: true; the input reads as it did. -/
def ratchetBoundsSpec : ChangeSpec := { name := "ratchetBounds", fn := fun _ => fun
  | [d1, d2] => { results := [.lit (.bool true)], args := [d1, d2] }
  | _ => none }
def ratchetBoundsRow : OpenClaim := { program := "ytikbeagcflofhaa", sum := "f63bc913ce323eca98b3d3670e23108a8aed27c423abbe3668178255eda75403", func := "tryst/trystlaw19.RatchetBounds", spec := "ratchetBounds", unfollowed := true, recurses := true, apart := false }
def RatchetBoundsSaid : Prop := ratchetBoundsRow.holds Try.pinned (OpenSpec.ofChange ratchetBoundsSpec)

/-- ITS FALSE NEIGHBOUR: 'it returns false'. Refute it at one input. -/
def ratchetBoundsWrong : ChangeSpec := { name := "ratchetBounds", fn := fun _ => fun
  | [d1, d2] => { results := [.lit (.bool false)], args := [d1, d2] }
  | _ => none }
def RatchetBoundsWrongFalsely : Prop := ratchetBoundsRow.holds Try.pinned (OpenSpec.ofChange ratchetBoundsWrong)

/- THE SECOND FORM. 'bulk': how many values and letters a reading holds, each counted each time it is reached (what is shared counts as often as it is met; a slice's spare places count too). A statement '..UptoSaid' is the law's where the arguments, and the package variables that the reading takes, are together of bulk at most 1048576: NARROWER than '..Said'. Prove '..Said' where nothing that the law and all that it calls make is longer than what came in: it says more and counts as full. Else prove '..UptoSaid'. A law counts once. -/
mutual
def uptoBulk {H : Type} : DataW H → Nat
  | .lit (.string bytes) => bytes.length + 1
  | .lit _ => 1
  | .nil => 1
  | .ptr d => uptoBulk d + 1
  | .slice elems spare => uptoBulkAll elems + uptoBulkAll spare + 1
  | .agg parts => uptoBulkAll parts + 1
  | .iface _ d => uptoBulk d + 1
  | .map entries => uptoBulkEntries entries + 1
  | .held _ => 1
def uptoBulkAll {H : Type} : List (DataW H) → Nat
  | [] => 0
  | d :: r => uptoBulk d + uptoBulkAll r
def uptoBulkEntries {H : Type} : List (Lit × DataW H) → Nat
  | [] => 0
  | x :: r => uptoBulkEntry x + uptoBulkEntries r
def uptoBulkEntry {H : Type} : Lit × DataW H → Nat
  | (.string bytes, d) => bytes.length + uptoBulk d + 1
  | (_, d) => uptoBulk d + 1
 end
def uptoSmall : (H : Type) → List (DataW H) → Bool := fun _ ds => decide (uptoBulkAll ds ≤ 1048576)
def OpenSpec.upto (s : _root_.Go.ChangeSpec) : _root_.Go.OpenSpec := { _root_.Go.OpenSpec.ofChange s with cond := some uptoSmall }

/-- 'trystlaw11.KnowSecrets', WHERE WHAT IT READS IS OF BULK AT MOST 1048576: true; the input reads as it did. -/
def knowSecretsUptoRow : OpenClaim := { program := "ytikbeagcflofhaa", sum := "f63bc913ce323eca98b3d3670e23108a8aed27c423abbe3668178255eda75403", func := "tryst/trystlaw11.KnowSecrets", spec := "knowSecrets", apart := false, narrowed := true }
def KnowSecretsUptoSaid : Prop := knowSecretsUptoRow.holds Try.pinned (OpenSpec.upto knowSecretsSpec)

/-- 'trystlaw11.KnowMade', WHERE WHAT IT READS IS OF BULK AT MOST 1048576: true; the input reads as it did. -/
def knowMadeUptoRow : OpenClaim := { program := "ytikbeagcflofhaa", sum := "f63bc913ce323eca98b3d3670e23108a8aed27c423abbe3668178255eda75403", func := "tryst/trystlaw11.KnowMade", spec := "knowMade", apart := false, narrowed := true }
def KnowMadeUptoSaid : Prop := knowMadeUptoRow.holds Try.pinned (OpenSpec.upto knowMadeSpec)

/-- 'trystlaw11.KnowNests', WHERE WHAT IT READS IS OF BULK AT MOST 1048576: true; the input reads as it did. -/
def knowNestsUptoRow : OpenClaim := { program := "ytikbeagcflofhaa", sum := "f63bc913ce323eca98b3d3670e23108a8aed27c423abbe3668178255eda75403", func := "tryst/trystlaw11.KnowNests", spec := "knowNests", apart := false, narrowed := true }
def KnowNestsUptoSaid : Prop := knowNestsUptoRow.holds Try.pinned (OpenSpec.upto knowNestsSpec)

/-- 'trystlaw18.SchedExact', WHERE WHAT IT READS IS OF BULK AT MOST 1048576: true; the input reads as it did. -/
def schedExactUptoRow : OpenClaim := { program := "ytikbeagcflofhaa", sum := "f63bc913ce323eca98b3d3670e23108a8aed27c423abbe3668178255eda75403", func := "tryst/trystlaw18.SchedExact", spec := "schedExact", recurses := true, apart := false, narrowed := true }
def SchedExactUptoSaid : Prop := schedExactUptoRow.holds Try.pinned (OpenSpec.upto schedExactSpec)

/-- 'trystlaw18.SchedLeaves', WHERE WHAT IT READS IS OF BULK AT MOST 1048576: true; the input reads as it did. -/
def schedLeavesUptoRow : OpenClaim := { program := "ytikbeagcflofhaa", sum := "f63bc913ce323eca98b3d3670e23108a8aed27c423abbe3668178255eda75403", func := "tryst/trystlaw18.SchedLeaves", spec := "schedLeaves", recurses := true, apart := false, narrowed := true }
def SchedLeavesUptoSaid : Prop := schedLeavesUptoRow.holds Try.pinned (OpenSpec.upto schedLeavesSpec)

/-- 'trystlaw18.SchedApart', WHERE WHAT IT READS IS OF BULK AT MOST 1048576: true; the input reads as it did. -/
def schedApartUptoRow : OpenClaim := { program := "ytikbeagcflofhaa", sum := "f63bc913ce323eca98b3d3670e23108a8aed27c423abbe3668178255eda75403", func := "tryst/trystlaw18.SchedApart", spec := "schedApart", apart := false, narrowed := true }
def SchedApartUptoSaid : Prop := schedApartUptoRow.holds Try.pinned (OpenSpec.upto schedApartSpec)

/-- 'trystlaw19.RatchetExact', WHERE WHAT IT READS IS OF BULK AT MOST 1048576: true; the input reads as it did. -/
def ratchetExactUptoRow : OpenClaim := { program := "ytikbeagcflofhaa", sum := "f63bc913ce323eca98b3d3670e23108a8aed27c423abbe3668178255eda75403", func := "tryst/trystlaw19.RatchetExact", spec := "ratchetExact", unfollowed := true, recurses := true, apart := false, narrowed := true }
def RatchetExactUptoSaid : Prop := ratchetExactUptoRow.holds Try.pinned (OpenSpec.upto ratchetExactSpec)

/-- 'trystlaw19.RatchetMeets', WHERE WHAT IT READS IS OF BULK AT MOST 1048576: true; the input reads as it did. -/
def ratchetMeetsUptoRow : OpenClaim := { program := "ytikbeagcflofhaa", sum := "f63bc913ce323eca98b3d3670e23108a8aed27c423abbe3668178255eda75403", func := "tryst/trystlaw19.RatchetMeets", spec := "ratchetMeets", unfollowed := true, recurses := true, apart := false, narrowed := true }
def RatchetMeetsUptoSaid : Prop := ratchetMeetsUptoRow.holds Try.pinned (OpenSpec.upto ratchetMeetsSpec)

/-- 'trystlaw19.RatchetPast', WHERE WHAT IT READS IS OF BULK AT MOST 1048576: true; the input reads as it did. -/
def ratchetPastUptoRow : OpenClaim := { program := "ytikbeagcflofhaa", sum := "f63bc913ce323eca98b3d3670e23108a8aed27c423abbe3668178255eda75403", func := "tryst/trystlaw19.RatchetPast", spec := "ratchetPast", unfollowed := true, recurses := true, apart := false, narrowed := true }
def RatchetPastUptoSaid : Prop := ratchetPastUptoRow.holds Try.pinned (OpenSpec.upto ratchetPastSpec)

/-- 'trystlaw19.RatchetBounds', WHERE WHAT IT READS IS OF BULK AT MOST 1048576: true; the input reads as it did. -/
def ratchetBoundsUptoRow : OpenClaim := { program := "ytikbeagcflofhaa", sum := "f63bc913ce323eca98b3d3670e23108a8aed27c423abbe3668178255eda75403", func := "tryst/trystlaw19.RatchetBounds", spec := "ratchetBounds", unfollowed := true, recurses := true, apart := false, narrowed := true }
def RatchetBoundsUptoSaid : Prop := ratchetBoundsUptoRow.holds Try.pinned (OpenSpec.upto ratchetBoundsSpec)

end Rows
end Go.Proofs.Ytikbeagcflofhaa
