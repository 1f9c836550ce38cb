/-
  No cell of these rows narrows 'for every input' (looked for: loops, veiled, ifaces, maps, wideKeys, modest, calm, conditions, laid).
  DERIVED. THE GIVEN ROWS OF THIS SEAT. 8 by the template 'for every input the law returns true; each argument reads behind the call as it read before'; 0 by the template 'total and deterministic' (their statements: YtehkfgjnapjefaaTotals.lean).
  GIVEN WITH THE SEED: the statements are not yours to turn. If you find one false, say at which input.
  Laid BY PROGRAM, IN A SANDBOX (cutbox-rows.mjs): the forced cells as the released guide's own fill.sh prints them over the translation dd5bdd647421d6a8… (all of the seat's roots in one cut). By AI agents, Wed Nov 11 2026. No macro, syntax, notation, axiom, sorry.
-/
import Derived.Test.YtehkfgjnapjefaaChecked
import GoSem.Claim
import GoSem.ClaimJoined
import GoSem.ClaimMapViews
import Derived.JoinedTies
import Derived.KernelRfl
namespace Go.Proofs.Ytehkfgjnapjefaa
/- THE CELL 'sum', in the pinned program and in every row, IS THE sha256 OF THE DUMP (.gsa) THAT YtehkfgjnapjefaaProg.lean LOADS. Nothing in Lean hashes anything: it is a label: what it is worth is what the hold of that sum in a sandbox is worth. -/
noncomputable def Try.pinned : Pinned := { name := "ytehkfgjnapjefaa", sum := "dd5bdd647421d6a8c4fc4e21d790afbce130dfc2017e3f4b9e01038be411ad56", checked := Try.checked }
namespace Rows
def none {H : Type} : Left H := { results := [], args := [] }

/-- 'trystlaw10.TermExact': WHATEVER THE INPUT: true; the input reads as it did. -/
def termExactSpec : ChangeSpec := { name := "termExact", fn := fun _ => fun
  | [d1, d2] => { results := [.lit (.bool true)], args := [d1, d2] }
  | _ => none }
def termExactRow : OpenClaim := { program := "ytehkfgjnapjefaa", sum := "dd5bdd647421d6a8c4fc4e21d790afbce130dfc2017e3f4b9e01038be411ad56", func := "tryst/trystlaw10.TermExact", spec := "termExact", apart := false }
def TermExactSaid : Prop := termExactRow.holds Try.pinned (OpenSpec.ofChange termExactSpec)

/-- ITS FALSE NEIGHBOUR: 'it returns false'. Refute it at one input. -/
def termExactWrong : ChangeSpec := { name := "termExact", fn := fun _ => fun
  | [d1, d2] => { results := [.lit (.bool false)], args := [d1, d2] }
  | _ => none }
def TermExactWrongFalsely : Prop := termExactRow.holds Try.pinned (OpenSpec.ofChange termExactWrong)

/-- 'trystlaw10.TermOpens': WHATEVER THE INPUT: true; the input reads as it did. -/
def termOpensSpec : ChangeSpec := { name := "termOpens", fn := fun _ => fun
  | [d1, d2, d3, d4] => { results := [.lit (.bool true)], args := [d1, d2, d3, d4] }
  | _ => none }
def termOpensRow : OpenClaim := { program := "ytehkfgjnapjefaa", sum := "dd5bdd647421d6a8c4fc4e21d790afbce130dfc2017e3f4b9e01038be411ad56", func := "tryst/trystlaw10.TermOpens", spec := "termOpens", apart := false }
def TermOpensSaid : Prop := termOpensRow.holds Try.pinned (OpenSpec.ofChange termOpensSpec)

/-- ITS FALSE NEIGHBOUR: 'it returns false'. Refute it at one input. -/
def termOpensWrong : ChangeSpec := { name := "termOpens", fn := fun _ => fun
  | [d1, d2, d3, d4] => { results := [.lit (.bool false)], args := [d1, d2, d3, d4] }
  | _ => none }
def TermOpensWrongFalsely : Prop := termOpensRow.holds Try.pinned (OpenSpec.ofChange termOpensWrong)

/-- 'trystlaw10.TermOnce': WHATEVER THE INPUT: true; the input reads as it did. -/
def termOnceSpec : ChangeSpec := { name := "termOnce", fn := fun _ => fun
  | [d] => { results := [.lit (.bool true)], args := [d] }
  | _ => none }
def termOnceRow : OpenClaim := { program := "ytehkfgjnapjefaa", sum := "dd5bdd647421d6a8c4fc4e21d790afbce130dfc2017e3f4b9e01038be411ad56", func := "tryst/trystlaw10.TermOnce", spec := "termOnce", apart := false }
def TermOnceSaid : Prop := termOnceRow.holds Try.pinned (OpenSpec.ofChange termOnceSpec)

/-- ITS FALSE NEIGHBOUR: 'it returns false'. Refute it at one input. -/
def termOnceWrong : ChangeSpec := { name := "termOnce", fn := fun _ => fun
  | [d] => { results := [.lit (.bool false)], args := [d] }
  | _ => none }
def TermOnceWrongFalsely : Prop := termOnceRow.holds Try.pinned (OpenSpec.ofChange termOnceWrong)

/-- 'trystlaw10.TermKeys': WHATEVER THE INPUT: true; the input reads as it did. -/
def termKeysSpec : ChangeSpec := { name := "termKeys", fn := fun _ => fun
  | [d1, d2, d3, d4] => { results := [.lit (.bool true)], args := [d1, d2, d3, d4] }
  | _ => none }
def termKeysRow : OpenClaim := { program := "ytehkfgjnapjefaa", sum := "dd5bdd647421d6a8c4fc4e21d790afbce130dfc2017e3f4b9e01038be411ad56", func := "tryst/trystlaw10.TermKeys", spec := "termKeys", apart := false }
def TermKeysSaid : Prop := termKeysRow.holds Try.pinned (OpenSpec.ofChange termKeysSpec)

/-- ITS FALSE NEIGHBOUR: 'it returns false'. Refute it at one input. -/
def termKeysWrong : ChangeSpec := { name := "termKeys", fn := fun _ => fun
  | [d1, d2, d3, d4] => { results := [.lit (.bool false)], args := [d1, d2, d3, d4] }
  | _ => none }
def TermKeysWrongFalsely : Prop := termKeysRow.holds Try.pinned (OpenSpec.ofChange termKeysWrong)

/-- 'trystlaw10.TermBeneath': WHATEVER THE INPUT: true; the input reads as it did. -/
def termBeneathSpec : ChangeSpec := { name := "termBeneath", fn := fun _ => fun
  | [d1, d2] => { results := [.lit (.bool true)], args := [d1, d2] }
  | _ => none }
def termBeneathRow : OpenClaim := { program := "ytehkfgjnapjefaa", sum := "dd5bdd647421d6a8c4fc4e21d790afbce130dfc2017e3f4b9e01038be411ad56", func := "tryst/trystlaw10.TermBeneath", spec := "termBeneath", apart := false }
def TermBeneathSaid : Prop := termBeneathRow.holds Try.pinned (OpenSpec.ofChange termBeneathSpec)

/-- ITS FALSE NEIGHBOUR: 'it returns false'. Refute it at one input. -/
def termBeneathWrong : ChangeSpec := { name := "termBeneath", fn := fun _ => fun
  | [d1, d2] => { results := [.lit (.bool false)], args := [d1, d2] }
  | _ => none }
def TermBeneathWrongFalsely : Prop := termBeneathRow.holds Try.pinned (OpenSpec.ofChange termBeneathWrong)

/-- 'trystlaw10.TermMemory': WHATEVER THE INPUT: true; the input reads as it did. -/
def termMemorySpec : ChangeSpec := { name := "termMemory", fn := fun _ => fun
  | [d] => { results := [.lit (.bool true)], args := [d] }
  | _ => none }
def termMemoryRow : OpenClaim := { program := "ytehkfgjnapjefaa", sum := "dd5bdd647421d6a8c4fc4e21d790afbce130dfc2017e3f4b9e01038be411ad56", func := "tryst/trystlaw10.TermMemory", spec := "termMemory", apart := false }
def TermMemorySaid : Prop := termMemoryRow.holds Try.pinned (OpenSpec.ofChange termMemorySpec)

/-- ITS FALSE NEIGHBOUR: 'it returns false'. Refute it at one input. -/
def termMemoryWrong : ChangeSpec := { name := "termMemory", fn := fun _ => fun
  | [d] => { results := [.lit (.bool false)], args := [d] }
  | _ => none }
def TermMemoryWrongFalsely : Prop := termMemoryRow.holds Try.pinned (OpenSpec.ofChange termMemoryWrong)

/-- 'trystlaw10.TermCounts': WHATEVER THE INPUT: true; the input reads as it did. -/
def termCountsSpec : ChangeSpec := { name := "termCounts", fn := fun _ => fun
  | [d1, d2, d3] => { results := [.lit (.bool true)], args := [d1, d2, d3] }
  | _ => none }
def termCountsRow : OpenClaim := { program := "ytehkfgjnapjefaa", sum := "dd5bdd647421d6a8c4fc4e21d790afbce130dfc2017e3f4b9e01038be411ad56", func := "tryst/trystlaw10.TermCounts", spec := "termCounts", apart := false }
def TermCountsSaid : Prop := termCountsRow.holds Try.pinned (OpenSpec.ofChange termCountsSpec)

/-- ITS FALSE NEIGHBOUR: 'it returns false'. Refute it at one input. -/
def termCountsWrong : ChangeSpec := { name := "termCounts", fn := fun _ => fun
  | [d1, d2, d3] => { results := [.lit (.bool false)], args := [d1, d2, d3] }
  | _ => none }
def TermCountsWrongFalsely : Prop := termCountsRow.holds Try.pinned (OpenSpec.ofChange termCountsWrong)

/-- 'trystlaw10.TermTwo': WHATEVER THE INPUT: true; the input reads as it did. -/
def termTwoSpec : ChangeSpec := { name := "termTwo", fn := fun _ => fun
  | [d1, d2] => { results := [.lit (.bool true)], args := [d1, d2] }
  | _ => none }
def termTwoRow : OpenClaim := { program := "ytehkfgjnapjefaa", sum := "dd5bdd647421d6a8c4fc4e21d790afbce130dfc2017e3f4b9e01038be411ad56", func := "tryst/trystlaw10.TermTwo", spec := "termTwo", apart := false }
def TermTwoSaid : Prop := termTwoRow.holds Try.pinned (OpenSpec.ofChange termTwoSpec)

/-- ITS FALSE NEIGHBOUR: 'it returns false'. Refute it at one input. -/
def termTwoWrong : ChangeSpec := { name := "termTwo", fn := fun _ => fun
  | [d1, d2] => { results := [.lit (.bool false)], args := [d1, d2] }
  | _ => none }
def TermTwoWrongFalsely : Prop := termTwoRow.holds Try.pinned (OpenSpec.ofChange termTwoWrong)

/- THE SECOND FORM. 'bulk': how many values and letters a reading holds, each counted each time it is reached (what is shared counts as often as it is met; a slice's spare places count too). A statement '..UptoSaid' is the law's where the arguments, and the package variables that the reading takes, are together of bulk at most 1048576: NARROWER than '..Said'. Prove '..Said' where nothing that the law and all that it calls make is longer than what came in: it says more and counts as full. Else prove '..UptoSaid'. A law counts once. -/
mutual
def uptoBulk {H : Type} : DataW H → Nat
  | .lit (.string bytes) => bytes.length + 1
  | .lit _ => 1
  | .nil => 1
  | .ptr d => uptoBulk d + 1
  | .slice elems spare => uptoBulkAll elems + uptoBulkAll spare + 1
  | .agg parts => uptoBulkAll parts + 1
  | .iface _ d => uptoBulk d + 1
  | .map entries => uptoBulkEntries entries + 1
  | .held _ => 1
def uptoBulkAll {H : Type} : List (DataW H) → Nat
  | [] => 0
  | d :: r => uptoBulk d + uptoBulkAll r
def uptoBulkEntries {H : Type} : List (Lit × DataW H) → Nat
  | [] => 0
  | x :: r => uptoBulkEntry x + uptoBulkEntries r
def uptoBulkEntry {H : Type} : Lit × DataW H → Nat
  | (.string bytes, d) => bytes.length + uptoBulk d + 1
  | (_, d) => uptoBulk d + 1
 end
def uptoSmall : (H : Type) → List (DataW H) → Bool := fun _ ds => decide (uptoBulkAll ds ≤ 1048576)
def OpenSpec.upto (s : _root_.Go.ChangeSpec) : _root_.Go.OpenSpec := { _root_.Go.OpenSpec.ofChange s with cond := some uptoSmall }

/-- 'trystlaw10.TermExact', WHERE WHAT IT READS IS OF BULK AT MOST 1048576: true; the input reads as it did. -/
def termExactUptoRow : OpenClaim := { program := "ytehkfgjnapjefaa", sum := "dd5bdd647421d6a8c4fc4e21d790afbce130dfc2017e3f4b9e01038be411ad56", func := "tryst/trystlaw10.TermExact", spec := "termExact", apart := false, narrowed := true }
def TermExactUptoSaid : Prop := termExactUptoRow.holds Try.pinned (OpenSpec.upto termExactSpec)

/-- 'trystlaw10.TermOpens', WHERE WHAT IT READS IS OF BULK AT MOST 1048576: true; the input reads as it did. -/
def termOpensUptoRow : OpenClaim := { program := "ytehkfgjnapjefaa", sum := "dd5bdd647421d6a8c4fc4e21d790afbce130dfc2017e3f4b9e01038be411ad56", func := "tryst/trystlaw10.TermOpens", spec := "termOpens", apart := false, narrowed := true }
def TermOpensUptoSaid : Prop := termOpensUptoRow.holds Try.pinned (OpenSpec.upto termOpensSpec)

/-- 'trystlaw10.TermOnce', WHERE WHAT IT READS IS OF BULK AT MOST 1048576: true; the input reads as it did. -/
def termOnceUptoRow : OpenClaim := { program := "ytehkfgjnapjefaa", sum := "dd5bdd647421d6a8c4fc4e21d790afbce130dfc2017e3f4b9e01038be411ad56", func := "tryst/trystlaw10.TermOnce", spec := "termOnce", apart := false, narrowed := true }
def TermOnceUptoSaid : Prop := termOnceUptoRow.holds Try.pinned (OpenSpec.upto termOnceSpec)

/-- 'trystlaw10.TermKeys', WHERE WHAT IT READS IS OF BULK AT MOST 1048576: true; the input reads as it did. -/
def termKeysUptoRow : OpenClaim := { program := "ytehkfgjnapjefaa", sum := "dd5bdd647421d6a8c4fc4e21d790afbce130dfc2017e3f4b9e01038be411ad56", func := "tryst/trystlaw10.TermKeys", spec := "termKeys", apart := false, narrowed := true }
def TermKeysUptoSaid : Prop := termKeysUptoRow.holds Try.pinned (OpenSpec.upto termKeysSpec)

/-- 'trystlaw10.TermBeneath', WHERE WHAT IT READS IS OF BULK AT MOST 1048576: true; the input reads as it did. -/
def termBeneathUptoRow : OpenClaim := { program := "ytehkfgjnapjefaa", sum := "dd5bdd647421d6a8c4fc4e21d790afbce130dfc2017e3f4b9e01038be411ad56", func := "tryst/trystlaw10.TermBeneath", spec := "termBeneath", apart := false, narrowed := true }
def TermBeneathUptoSaid : Prop := termBeneathUptoRow.holds Try.pinned (OpenSpec.upto termBeneathSpec)

/-- 'trystlaw10.TermMemory', WHERE WHAT IT READS IS OF BULK AT MOST 1048576: true; the input reads as it did. -/
def termMemoryUptoRow : OpenClaim := { program := "ytehkfgjnapjefaa", sum := "dd5bdd647421d6a8c4fc4e21d790afbce130dfc2017e3f4b9e01038be411ad56", func := "tryst/trystlaw10.TermMemory", spec := "termMemory", apart := false, narrowed := true }
def TermMemoryUptoSaid : Prop := termMemoryUptoRow.holds Try.pinned (OpenSpec.upto termMemorySpec)

/-- 'trystlaw10.TermCounts', WHERE WHAT IT READS IS OF BULK AT MOST 1048576: true; the input reads as it did. -/
def termCountsUptoRow : OpenClaim := { program := "ytehkfgjnapjefaa", sum := "dd5bdd647421d6a8c4fc4e21d790afbce130dfc2017e3f4b9e01038be411ad56", func := "tryst/trystlaw10.TermCounts", spec := "termCounts", apart := false, narrowed := true }
def TermCountsUptoSaid : Prop := termCountsUptoRow.holds Try.pinned (OpenSpec.upto termCountsSpec)

/-- 'trystlaw10.TermTwo', WHERE WHAT IT READS IS OF BULK AT MOST 1048576: true; the input reads as it did. -/
def termTwoUptoRow : OpenClaim := { program := "ytehkfgjnapjefaa", sum := "dd5bdd647421d6a8c4fc4e21d790afbce130dfc2017e3f4b9e01038be411ad56", func := "tryst/trystlaw10.TermTwo", spec := "termTwo", apart := false, narrowed := true }
def TermTwoUptoSaid : Prop := termTwoUptoRow.holds Try.pinned (OpenSpec.upto termTwoSpec)

end Rows
end Go.Proofs.Ytehkfgjnapjefaa
