/-
  NARROWER THAN 'FOR EVERY INPUT', by the rows' own cells (each row's printed sentence says how): OnionExact: laid · OnionBack: laid · MixSeen: laid.
  DERIVED. THE GIVEN ROWS OF THIS SEAT. 3 by the template 'for every input the law returns true; each argument reads behind the call as it read before'; 0 by the template 'total and deterministic' (their statements: YtenllpaochcjfaaDoorTotals.lean).
  GIVEN WITH THE SEED: the statements are not yours to turn. If you find one false, say at which input.
  Laid BY PROGRAM, IN A SANDBOX (cutbox-rows.mjs): the forced cells as the released guide's own fill.sh prints them over the translation f0d149cc5bd774f6… (all of the seat's roots in one cut). By AI agents, Wed Nov 11 2026. No macro, syntax, notation, axiom, sorry.
-/
import Derived.Test.YtenllpaochcjfaaDoorChecked
import GoSem.Claim
import GoSem.ClaimJoined
import GoSem.ClaimMapViews
import Derived.JoinedTies
import Derived.KernelRfl
namespace Go.Proofs.YtenllpaochcjfaaDoor
/- THE CELL 'sum', in the pinned program and in every row, IS THE sha256 OF THE DUMP (.gsa) THAT YtenllpaochcjfaaDoorProg.lean LOADS. Nothing in Lean hashes anything: it is a label: what it is worth is what the hold of that sum in a sandbox is worth. -/
noncomputable def Tryd.pinned : Pinned := { name := "ytenllpaochcjfaadoor", sum := "f0d149cc5bd774f692a573488a7ea2d90183268f7cb3e20fb45f53400d8f598e", checked := Tryd.checked }
namespace Rows
def none {H : Type} : Left H := { results := [], args := [] }

/- WHAT THE LISTED PACKAGE-LEVEL VARIABLES READ AS WHEN THE CALL BEGINS. Each datum BY PROGRAM (the guide's laid-datum.mjs) off the statement by which the dump's own 'gosem.cut.vars' lays the variable. In a bare row this is a premise. The card (YtenllpaochcjfaaDoorCards.lean) ties it to the program's text. -/
def laid_errors_errorType {H : Type} : DataW H := .iface "internal/reflectlite.rtype" (.agg [.ptr (.lit (.string [101, 114, 114, 111, 114]))])

/-- 'trystlaw23.OnionExact': WHATEVER THE INPUT: true; the input reads as it did. -/
def onionExactSpec : ChangeSpec := { name := "onionExact", fn := fun _ => fun
  | [d1, d2, d3, d4, d5, d6] => { results := [.lit (.bool true)], args := [d1, d2, d3, d4, d5, d6] }
  | _ => none }
def onionExactRow : OpenClaim := { program := "ytenllpaochcjfaadoor", sum := "f0d149cc5bd774f692a573488a7ea2d90183268f7cb3e20fb45f53400d8f598e", func := "tryst/trystlaw23.OnionExact", spec := "onionExact", inPlace := ["internal/reflectlite.ValueOf", "(internal/reflectlite.Value).Type", "(internal/reflectlite.Value).IsNil", "internal/reflectlite.TypeOf", "(internal/reflectlite.Value).Elem", "(internal/reflectlite.Value).Set"], unfollowed := true, recurses := true, named := ["errors.errorType"], apart := false, laid := [("errors.errorType", laid_errors_errorType)] }
def OnionExactSaid : Prop := onionExactRow.holds Tryd.pinned (OpenSpec.ofChange onionExactSpec)

/-- ITS FALSE NEIGHBOUR: 'it returns false'. Refute it at one input. -/
def onionExactWrong : ChangeSpec := { name := "onionExact", fn := fun _ => fun
  | [d1, d2, d3, d4, d5, d6] => { results := [.lit (.bool false)], args := [d1, d2, d3, d4, d5, d6] }
  | _ => none }
def OnionExactWrongFalsely : Prop := onionExactRow.holds Tryd.pinned (OpenSpec.ofChange onionExactWrong)

/-- 'trystlaw23.OnionBack': WHATEVER THE INPUT: true; the input reads as it did. -/
def onionBackSpec : ChangeSpec := { name := "onionBack", fn := fun _ => fun
  | [d1, d2, d3, d4, d5] => { results := [.lit (.bool true)], args := [d1, d2, d3, d4, d5] }
  | _ => none }
def onionBackRow : OpenClaim := { program := "ytenllpaochcjfaadoor", sum := "f0d149cc5bd774f692a573488a7ea2d90183268f7cb3e20fb45f53400d8f598e", func := "tryst/trystlaw23.OnionBack", spec := "onionBack", inPlace := ["internal/reflectlite.ValueOf", "(internal/reflectlite.Value).Type", "(internal/reflectlite.Value).IsNil", "internal/reflectlite.TypeOf", "(internal/reflectlite.Value).Elem", "(internal/reflectlite.Value).Set"], unfollowed := true, recurses := true, named := ["errors.errorType"], apart := false, laid := [("errors.errorType", laid_errors_errorType)] }
def OnionBackSaid : Prop := onionBackRow.holds Tryd.pinned (OpenSpec.ofChange onionBackSpec)

/-- ITS FALSE NEIGHBOUR: 'it returns false'. Refute it at one input. -/
def onionBackWrong : ChangeSpec := { name := "onionBack", fn := fun _ => fun
  | [d1, d2, d3, d4, d5] => { results := [.lit (.bool false)], args := [d1, d2, d3, d4, d5] }
  | _ => none }
def OnionBackWrongFalsely : Prop := onionBackRow.holds Tryd.pinned (OpenSpec.ofChange onionBackWrong)

/-- 'trystlaw24.MixSeen': WHATEVER THE INPUT: true; the input reads as it did. -/
def mixSeenSpec : ChangeSpec := { name := "mixSeen", fn := fun _ => fun
  | [d1, d2] => { results := [.lit (.bool true)], args := [d1, d2] }
  | _ => none }
def mixSeenRow : OpenClaim := { program := "ytenllpaochcjfaadoor", sum := "f0d149cc5bd774f692a573488a7ea2d90183268f7cb3e20fb45f53400d8f598e", func := "tryst/trystlaw24.MixSeen", spec := "mixSeen", inPlace := ["internal/reflectlite.ValueOf", "(internal/reflectlite.Value).Type", "(internal/reflectlite.Value).IsNil", "internal/reflectlite.TypeOf", "(internal/reflectlite.Value).Elem", "(internal/reflectlite.Value).Set"], unfollowed := true, recurses := true, named := ["errors.errorType"], apart := false, laid := [("errors.errorType", laid_errors_errorType)] }
def MixSeenSaid : Prop := mixSeenRow.holds Tryd.pinned (OpenSpec.ofChange mixSeenSpec)

/-- ITS FALSE NEIGHBOUR: 'it returns false'. Refute it at one input. -/
def mixSeenWrong : ChangeSpec := { name := "mixSeen", fn := fun _ => fun
  | [d1, d2] => { results := [.lit (.bool false)], args := [d1, d2] }
  | _ => none }
def MixSeenWrongFalsely : Prop := mixSeenRow.holds Tryd.pinned (OpenSpec.ofChange mixSeenWrong)

/- THE SECOND FORM. 'bulk': how many values and letters a reading holds, each counted each time it is reached (what is shared counts as often as it is met; a slice's spare places count too). A statement '..UptoSaid' is the law's where the arguments, and the package variables that the reading takes, are together of bulk at most 1048576: NARROWER than '..Said'. Prove '..Said' where nothing that the law and all that it calls make is longer than what came in: it says more and counts as full. Else prove '..UptoSaid'. A law counts once. -/
mutual
def uptoBulk {H : Type} : DataW H → Nat
  | .lit (.string bytes) => bytes.length + 1
  | .lit _ => 1
  | .nil => 1
  | .ptr d => uptoBulk d + 1
  | .slice elems spare => uptoBulkAll elems + uptoBulkAll spare + 1
  | .agg parts => uptoBulkAll parts + 1
  | .iface _ d => uptoBulk d + 1
  | .map entries => uptoBulkEntries entries + 1
  | .held _ => 1
def uptoBulkAll {H : Type} : List (DataW H) → Nat
  | [] => 0
  | d :: r => uptoBulk d + uptoBulkAll r
def uptoBulkEntries {H : Type} : List (Lit × DataW H) → Nat
  | [] => 0
  | x :: r => uptoBulkEntry x + uptoBulkEntries r
def uptoBulkEntry {H : Type} : Lit × DataW H → Nat
  | (.string bytes, d) => bytes.length + uptoBulk d + 1
  | (_, d) => uptoBulk d + 1
 end
def uptoSmall : (H : Type) → List (DataW H) → Bool := fun _ ds => decide (uptoBulkAll ds ≤ 1048576)
def OpenSpec.upto (s : _root_.Go.ChangeSpec) : _root_.Go.OpenSpec := { _root_.Go.OpenSpec.ofChange s with cond := some uptoSmall }

/-- 'trystlaw23.OnionExact', WHERE WHAT IT READS IS OF BULK AT MOST 1048576: true; the input reads as it did. -/
def onionExactUptoRow : OpenClaim := { program := "ytenllpaochcjfaadoor", sum := "f0d149cc5bd774f692a573488a7ea2d90183268f7cb3e20fb45f53400d8f598e", func := "tryst/trystlaw23.OnionExact", spec := "onionExact", inPlace := ["internal/reflectlite.ValueOf", "(internal/reflectlite.Value).Type", "(internal/reflectlite.Value).IsNil", "internal/reflectlite.TypeOf", "(internal/reflectlite.Value).Elem", "(internal/reflectlite.Value).Set"], unfollowed := true, recurses := true, named := ["errors.errorType"], apart := false, laid := [("errors.errorType", laid_errors_errorType)], narrowed := true }
def OnionExactUptoSaid : Prop := onionExactUptoRow.holds Tryd.pinned (OpenSpec.upto onionExactSpec)

/-- 'trystlaw23.OnionBack', WHERE WHAT IT READS IS OF BULK AT MOST 1048576: true; the input reads as it did. -/
def onionBackUptoRow : OpenClaim := { program := "ytenllpaochcjfaadoor", sum := "f0d149cc5bd774f692a573488a7ea2d90183268f7cb3e20fb45f53400d8f598e", func := "tryst/trystlaw23.OnionBack", spec := "onionBack", inPlace := ["internal/reflectlite.ValueOf", "(internal/reflectlite.Value).Type", "(internal/reflectlite.Value).IsNil", "internal/reflectlite.TypeOf", "(internal/reflectlite.Value).Elem", "(internal/reflectlite.Value).Set"], unfollowed := true, recurses := true, named := ["errors.errorType"], apart := false, laid := [("errors.errorType", laid_errors_errorType)], narrowed := true }
def OnionBackUptoSaid : Prop := onionBackUptoRow.holds Tryd.pinned (OpenSpec.upto onionBackSpec)

/-- 'trystlaw24.MixSeen', WHERE WHAT IT READS IS OF BULK AT MOST 1048576: true; the input reads as it did. -/
def mixSeenUptoRow : OpenClaim := { program := "ytenllpaochcjfaadoor", sum := "f0d149cc5bd774f692a573488a7ea2d90183268f7cb3e20fb45f53400d8f598e", func := "tryst/trystlaw24.MixSeen", spec := "mixSeen", inPlace := ["internal/reflectlite.ValueOf", "(internal/reflectlite.Value).Type", "(internal/reflectlite.Value).IsNil", "internal/reflectlite.TypeOf", "(internal/reflectlite.Value).Elem", "(internal/reflectlite.Value).Set"], unfollowed := true, recurses := true, named := ["errors.errorType"], apart := false, laid := [("errors.errorType", laid_errors_errorType)], narrowed := true }
def MixSeenUptoSaid : Prop := mixSeenUptoRow.holds Tryd.pinned (OpenSpec.upto mixSeenSpec)

end Rows
end Go.Proofs.YtenllpaochcjfaaDoor
