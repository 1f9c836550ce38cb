/-
  No cell of these rows narrows 'for every input' (looked for: loops, veiled, ifaces, maps, wideKeys, modest, calm, conditions, laid).
  DERIVED. THE GIVEN ROWS OF THIS SEAT. 6 by the template 'for every input the law returns true; each argument reads behind the call as it read before'; 0 by the template 'total and deterministic' (their statements: YtlalonomdblhdaaTotals.lean).
  GIVEN WITH THE SEED: the statements are not yours to turn. If you find one false, say at which input.
  Laid BY PROGRAM, IN A SANDBOX (cutbox-rows.mjs): the forced cells as the released guide's own fill.sh prints them over the translation d3decf6264805c4d… (all of the seat's roots in one cut). By AI agents, Wed Nov 11 2026. No macro, syntax, notation, axiom, sorry.
-/
import Derived.Test.YtlalonomdblhdaaChecked
import GoSem.Claim
import GoSem.ClaimJoined
import GoSem.ClaimMapViews
import Derived.JoinedTies
import Derived.KernelRfl
namespace Go.Proofs.Ytlalonomdblhdaa
/- THE CELL 'sum', in the pinned program and in every row, IS THE sha256 OF THE DUMP (.gsa) THAT YtlalonomdblhdaaProg.lean LOADS. Nothing in Lean hashes anything: it is a label: what it is worth is what the hold of that sum in a sandbox is worth. -/
noncomputable def Try.pinned : Pinned := { name := "ytlalonomdblhdaa", sum := "d3decf6264805c4d56e1234b03380b10fbb127d32463dac73a176a25d0e3bb09", checked := Try.checked }
namespace Rows
def none {H : Type} : Left H := { results := [], args := [] }

/-- 'trystlaw07.DhExact': WHATEVER THE INPUT: true; the input reads as it did. -/
def dhExactSpec : ChangeSpec := { name := "dhExact", fn := fun _ => fun
  | [d1, d2] => { results := [.lit (.bool true)], args := [d1, d2] }
  | _ => none }
def dhExactRow : OpenClaim := { program := "ytlalonomdblhdaa", sum := "d3decf6264805c4d56e1234b03380b10fbb127d32463dac73a176a25d0e3bb09", func := "tryst/trystlaw07.DhExact", spec := "dhExact", inPlace := ["math/bits.Add64", "math/bits.Sub64"], apart := false }
def DhExactSaid : Prop := dhExactRow.holds Try.pinned (OpenSpec.ofChange dhExactSpec)

/-- ITS FALSE NEIGHBOUR: 'it returns false'. Refute it at one input. -/
def dhExactWrong : ChangeSpec := { name := "dhExact", fn := fun _ => fun
  | [d1, d2] => { results := [.lit (.bool false)], args := [d1, d2] }
  | _ => none }
def DhExactWrongFalsely : Prop := dhExactRow.holds Try.pinned (OpenSpec.ofChange dhExactWrong)

/-- 'trystlaw07.DhMeets': WHATEVER THE INPUT: true; the input reads as it did. -/
def dhMeetsSpec : ChangeSpec := { name := "dhMeets", fn := fun _ => fun
  | [d1, d2] => { results := [.lit (.bool true)], args := [d1, d2] }
  | _ => none }
def dhMeetsRow : OpenClaim := { program := "ytlalonomdblhdaa", sum := "d3decf6264805c4d56e1234b03380b10fbb127d32463dac73a176a25d0e3bb09", func := "tryst/trystlaw07.DhMeets", spec := "dhMeets", inPlace := ["math/bits.Add64", "math/bits.Sub64"], apart := false }
def DhMeetsSaid : Prop := dhMeetsRow.holds Try.pinned (OpenSpec.ofChange dhMeetsSpec)

/-- ITS FALSE NEIGHBOUR: 'it returns false'. Refute it at one input. -/
def dhMeetsWrong : ChangeSpec := { name := "dhMeets", fn := fun _ => fun
  | [d1, d2] => { results := [.lit (.bool false)], args := [d1, d2] }
  | _ => none }
def DhMeetsWrongFalsely : Prop := dhMeetsRow.holds Try.pinned (OpenSpec.ofChange dhMeetsWrong)

/-- 'trystlaw07.DhBits': WHATEVER THE INPUT: true; the input reads as it did. -/
def dhBitsSpec : ChangeSpec := { name := "dhBits", fn := fun _ => fun
  | [d1, d2, d3, d4] => { results := [.lit (.bool true)], args := [d1, d2, d3, d4] }
  | _ => none }
def dhBitsRow : OpenClaim := { program := "ytlalonomdblhdaa", sum := "d3decf6264805c4d56e1234b03380b10fbb127d32463dac73a176a25d0e3bb09", func := "tryst/trystlaw07.DhBits", spec := "dhBits", inPlace := ["math/bits.Add64", "math/bits.Sub64"], apart := false }
def DhBitsSaid : Prop := dhBitsRow.holds Try.pinned (OpenSpec.ofChange dhBitsSpec)

/-- ITS FALSE NEIGHBOUR: 'it returns false'. Refute it at one input. -/
def dhBitsWrong : ChangeSpec := { name := "dhBits", fn := fun _ => fun
  | [d1, d2, d3, d4] => { results := [.lit (.bool false)], args := [d1, d2, d3, d4] }
  | _ => none }
def DhBitsWrongFalsely : Prop := dhBitsRow.holds Try.pinned (OpenSpec.ofChange dhBitsWrong)

/-- 'trystlaw07.DhZero': WHATEVER THE INPUT: true; the input reads as it did. -/
def dhZeroSpec : ChangeSpec := { name := "dhZero", fn := fun _ => fun
  | [d] => { results := [.lit (.bool true)], args := [d] }
  | _ => none }
def dhZeroRow : OpenClaim := { program := "ytlalonomdblhdaa", sum := "d3decf6264805c4d56e1234b03380b10fbb127d32463dac73a176a25d0e3bb09", func := "tryst/trystlaw07.DhZero", spec := "dhZero", inPlace := ["math/bits.Add64", "math/bits.Sub64"], apart := false }
def DhZeroSaid : Prop := dhZeroRow.holds Try.pinned (OpenSpec.ofChange dhZeroSpec)

/-- ITS FALSE NEIGHBOUR: 'it returns false'. Refute it at one input. -/
def dhZeroWrong : ChangeSpec := { name := "dhZero", fn := fun _ => fun
  | [d] => { results := [.lit (.bool false)], args := [d] }
  | _ => none }
def DhZeroWrongFalsely : Prop := dhZeroRow.holds Try.pinned (OpenSpec.ofChange dhZeroWrong)

/-- 'trystlaw07.DhChain': WHATEVER THE INPUT: true; the input reads as it did. -/
def dhChainSpec : ChangeSpec := { name := "dhChain", fn := fun _ => fun
  | [d1, d2] => { results := [.lit (.bool true)], args := [d1, d2] }
  | _ => none }
def dhChainRow : OpenClaim := { program := "ytlalonomdblhdaa", sum := "d3decf6264805c4d56e1234b03380b10fbb127d32463dac73a176a25d0e3bb09", func := "tryst/trystlaw07.DhChain", spec := "dhChain", inPlace := ["math/bits.Add64", "math/bits.Sub64"], apart := false }
def DhChainSaid : Prop := dhChainRow.holds Try.pinned (OpenSpec.ofChange dhChainSpec)

/-- ITS FALSE NEIGHBOUR: 'it returns false'. Refute it at one input. -/
def dhChainWrong : ChangeSpec := { name := "dhChain", fn := fun _ => fun
  | [d1, d2] => { results := [.lit (.bool false)], args := [d1, d2] }
  | _ => none }
def DhChainWrongFalsely : Prop := dhChainRow.holds Try.pinned (OpenSpec.ofChange dhChainWrong)

/-- 'trystlaw07.DhThree': WHATEVER THE INPUT: true; the input reads as it did. -/
def dhThreeSpec : ChangeSpec := { name := "dhThree", fn := fun _ => fun
  | [d1, d2, d3] => { results := [.lit (.bool true)], args := [d1, d2, d3] }
  | _ => none }
def dhThreeRow : OpenClaim := { program := "ytlalonomdblhdaa", sum := "d3decf6264805c4d56e1234b03380b10fbb127d32463dac73a176a25d0e3bb09", func := "tryst/trystlaw07.DhThree", spec := "dhThree", inPlace := ["math/bits.Add64", "math/bits.Sub64"], apart := false }
def DhThreeSaid : Prop := dhThreeRow.holds Try.pinned (OpenSpec.ofChange dhThreeSpec)

/-- ITS FALSE NEIGHBOUR: 'it returns false'. Refute it at one input. -/
def dhThreeWrong : ChangeSpec := { name := "dhThree", fn := fun _ => fun
  | [d1, d2, d3] => { results := [.lit (.bool false)], args := [d1, d2, d3] }
  | _ => none }
def DhThreeWrongFalsely : Prop := dhThreeRow.holds Try.pinned (OpenSpec.ofChange dhThreeWrong)

/- THE SECOND FORM. 'bulk': how many values and letters a reading holds, each counted each time it is reached (what is shared counts as often as it is met; a slice's spare places count too). A statement '..UptoSaid' is the law's where the arguments, and the package variables that the reading takes, are together of bulk at most 1048576: NARROWER than '..Said'. Prove '..Said' where nothing that the law and all that it calls make is longer than what came in: it says more and counts as full. Else prove '..UptoSaid'. A law counts once. -/
mutual
def uptoBulk {H : Type} : DataW H → Nat
  | .lit (.string bytes) => bytes.length + 1
  | .lit _ => 1
  | .nil => 1
  | .ptr d => uptoBulk d + 1
  | .slice elems spare => uptoBulkAll elems + uptoBulkAll spare + 1
  | .agg parts => uptoBulkAll parts + 1
  | .iface _ d => uptoBulk d + 1
  | .map entries => uptoBulkEntries entries + 1
  | .held _ => 1
def uptoBulkAll {H : Type} : List (DataW H) → Nat
  | [] => 0
  | d :: r => uptoBulk d + uptoBulkAll r
def uptoBulkEntries {H : Type} : List (Lit × DataW H) → Nat
  | [] => 0
  | x :: r => uptoBulkEntry x + uptoBulkEntries r
def uptoBulkEntry {H : Type} : Lit × DataW H → Nat
  | (.string bytes, d) => bytes.length + uptoBulk d + 1
  | (_, d) => uptoBulk d + 1
 end
def uptoSmall : (H : Type) → List (DataW H) → Bool := fun _ ds => decide (uptoBulkAll ds ≤ 1048576)
def OpenSpec.upto (s : _root_.Go.ChangeSpec) : _root_.Go.OpenSpec := { _root_.Go.OpenSpec.ofChange s with cond := some uptoSmall }

/-- 'trystlaw07.DhExact', WHERE WHAT IT READS IS OF BULK AT MOST 1048576: true; the input reads as it did. -/
def dhExactUptoRow : OpenClaim := { program := "ytlalonomdblhdaa", sum := "d3decf6264805c4d56e1234b03380b10fbb127d32463dac73a176a25d0e3bb09", func := "tryst/trystlaw07.DhExact", spec := "dhExact", inPlace := ["math/bits.Add64", "math/bits.Sub64"], apart := false, narrowed := true }
def DhExactUptoSaid : Prop := dhExactUptoRow.holds Try.pinned (OpenSpec.upto dhExactSpec)

/-- 'trystlaw07.DhMeets', WHERE WHAT IT READS IS OF BULK AT MOST 1048576: true; the input reads as it did. -/
def dhMeetsUptoRow : OpenClaim := { program := "ytlalonomdblhdaa", sum := "d3decf6264805c4d56e1234b03380b10fbb127d32463dac73a176a25d0e3bb09", func := "tryst/trystlaw07.DhMeets", spec := "dhMeets", inPlace := ["math/bits.Add64", "math/bits.Sub64"], apart := false, narrowed := true }
def DhMeetsUptoSaid : Prop := dhMeetsUptoRow.holds Try.pinned (OpenSpec.upto dhMeetsSpec)

/-- 'trystlaw07.DhBits', WHERE WHAT IT READS IS OF BULK AT MOST 1048576: true; the input reads as it did. -/
def dhBitsUptoRow : OpenClaim := { program := "ytlalonomdblhdaa", sum := "d3decf6264805c4d56e1234b03380b10fbb127d32463dac73a176a25d0e3bb09", func := "tryst/trystlaw07.DhBits", spec := "dhBits", inPlace := ["math/bits.Add64", "math/bits.Sub64"], apart := false, narrowed := true }
def DhBitsUptoSaid : Prop := dhBitsUptoRow.holds Try.pinned (OpenSpec.upto dhBitsSpec)

/-- 'trystlaw07.DhZero', WHERE WHAT IT READS IS OF BULK AT MOST 1048576: true; the input reads as it did. -/
def dhZeroUptoRow : OpenClaim := { program := "ytlalonomdblhdaa", sum := "d3decf6264805c4d56e1234b03380b10fbb127d32463dac73a176a25d0e3bb09", func := "tryst/trystlaw07.DhZero", spec := "dhZero", inPlace := ["math/bits.Add64", "math/bits.Sub64"], apart := false, narrowed := true }
def DhZeroUptoSaid : Prop := dhZeroUptoRow.holds Try.pinned (OpenSpec.upto dhZeroSpec)

/-- 'trystlaw07.DhChain', WHERE WHAT IT READS IS OF BULK AT MOST 1048576: true; the input reads as it did. -/
def dhChainUptoRow : OpenClaim := { program := "ytlalonomdblhdaa", sum := "d3decf6264805c4d56e1234b03380b10fbb127d32463dac73a176a25d0e3bb09", func := "tryst/trystlaw07.DhChain", spec := "dhChain", inPlace := ["math/bits.Add64", "math/bits.Sub64"], apart := false, narrowed := true }
def DhChainUptoSaid : Prop := dhChainUptoRow.holds Try.pinned (OpenSpec.upto dhChainSpec)

/-- 'trystlaw07.DhThree', WHERE WHAT IT READS IS OF BULK AT MOST 1048576: true; the input reads as it did. -/
def dhThreeUptoRow : OpenClaim := { program := "ytlalonomdblhdaa", sum := "d3decf6264805c4d56e1234b03380b10fbb127d32463dac73a176a25d0e3bb09", func := "tryst/trystlaw07.DhThree", spec := "dhThree", inPlace := ["math/bits.Add64", "math/bits.Sub64"], apart := false, narrowed := true }
def DhThreeUptoSaid : Prop := dhThreeUptoRow.holds Try.pinned (OpenSpec.upto dhThreeSpec)

end Rows
end Go.Proofs.Ytlalonomdblhdaa
