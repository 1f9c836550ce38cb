/-
  NARROWER THAN 'FOR EVERY INPUT', by the rows' own cells (each row's printed sentence says how): CurveNumbers: laid · CurveGroup: laid · CurveMultiples: laid · CurveOrder: laid · CurveRing: laid.
  DERIVED. THE GIVEN ROWS OF THIS SEAT. 5 by the template 'for every input the law returns true; each argument reads behind the call as it read before'; 0 by the template 'total and deterministic' (their statements: YtnlhpiieihnbiaaDoorTotals.lean).
  GIVEN WITH THE SEED: the statements are not yours to turn. If you find one false, say at which input.
  Laid BY PROGRAM, IN A SANDBOX (cutbox-rows.mjs): the forced cells as the released guide's own fill.sh prints them over the translation 2a30391d1eb60fe7… (all of the seat's roots in one cut). By AI agents, Wed Nov 11 2026. No macro, syntax, notation, axiom, sorry.
-/
import Derived.Test.YtnlhpiieihnbiaaDoorChecked
import GoSem.Claim
import GoSem.ClaimJoined
import GoSem.ClaimMapViews
import Derived.JoinedTies
import Derived.KernelRfl
namespace Go.Proofs.YtnlhpiieihnbiaaDoor
/- THE CELL 'sum', in the pinned program and in every row, IS THE sha256 OF THE DUMP (.gsa) THAT YtnlhpiieihnbiaaDoorProg.lean LOADS. Nothing in Lean hashes anything: it is a label: what it is worth is what the hold of that sum in a sandbox is worth. -/
noncomputable def Tryd.pinned : Pinned := { name := "ytnlhpiieihnbiaadoor", sum := "2a30391d1eb60fe70aaf2604314613162a91d0ef631e63630e4652264d1fcf78", checked := Tryd.checked }
namespace Rows
def none {H : Type} : Left H := { results := [], args := [] }

/- WHAT THE LISTED PACKAGE-LEVEL VARIABLES READ AS WHEN THE CALL BEGINS. Each datum BY PROGRAM (the guide's laid-datum.mjs) off the statement by which the dump's own 'gosem.cut.vars' lays the variable. In a bare row this is a premise. The card (YtnlhpiieihnbiaaDoorCards.lean) ties it to the program's text. -/
def laid_tryst_curve_twiceD {H : Type} : DataW H := .agg [.lit (.int .u8 89), .lit (.int .u8 241), .lit (.int .u8 178), .lit (.int .u8 38), .lit (.int .u8 148), .lit (.int .u8 155), .lit (.int .u8 214), .lit (.int .u8 235), .lit (.int .u8 86), .lit (.int .u8 177), .lit (.int .u8 131), .lit (.int .u8 130), .lit (.int .u8 154), .lit (.int .u8 20), .lit (.int .u8 224), .lit (.int .u8 0), .lit (.int .u8 48), .lit (.int .u8 209), .lit (.int .u8 243), .lit (.int .u8 238), .lit (.int .u8 242), .lit (.int .u8 128), .lit (.int .u8 142), .lit (.int .u8 25), .lit (.int .u8 231), .lit (.int .u8 252), .lit (.int .u8 223), .lit (.int .u8 86), .lit (.int .u8 220), .lit (.int .u8 217), .lit (.int .u8 6), .lit (.int .u8 36)]
def laid_tryst_curve_baseX {H : Type} : DataW H := .agg [.lit (.int .u8 26), .lit (.int .u8 213), .lit (.int .u8 37), .lit (.int .u8 143), .lit (.int .u8 96), .lit (.int .u8 45), .lit (.int .u8 86), .lit (.int .u8 201), .lit (.int .u8 178), .lit (.int .u8 167), .lit (.int .u8 37), .lit (.int .u8 149), .lit (.int .u8 96), .lit (.int .u8 199), .lit (.int .u8 44), .lit (.int .u8 105), .lit (.int .u8 92), .lit (.int .u8 220), .lit (.int .u8 214), .lit (.int .u8 253), .lit (.int .u8 49), .lit (.int .u8 226), .lit (.int .u8 164), .lit (.int .u8 192), .lit (.int .u8 254), .lit (.int .u8 83), .lit (.int .u8 110), .lit (.int .u8 205), .lit (.int .u8 211), .lit (.int .u8 54), .lit (.int .u8 105), .lit (.int .u8 33)]
def laid_tryst_curve_baseY {H : Type} : DataW H := .agg [.lit (.int .u8 88), .lit (.int .u8 102), .lit (.int .u8 102), .lit (.int .u8 102), .lit (.int .u8 102), .lit (.int .u8 102), .lit (.int .u8 102), .lit (.int .u8 102), .lit (.int .u8 102), .lit (.int .u8 102), .lit (.int .u8 102), .lit (.int .u8 102), .lit (.int .u8 102), .lit (.int .u8 102), .lit (.int .u8 102), .lit (.int .u8 102), .lit (.int .u8 102), .lit (.int .u8 102), .lit (.int .u8 102), .lit (.int .u8 102), .lit (.int .u8 102), .lit (.int .u8 102), .lit (.int .u8 102), .lit (.int .u8 102), .lit (.int .u8 102), .lit (.int .u8 102), .lit (.int .u8 102), .lit (.int .u8 102), .lit (.int .u8 102), .lit (.int .u8 102), .lit (.int .u8 102), .lit (.int .u8 102)]
def laid_tryst_curve_order {H : Type} : DataW H := .agg [.lit (.int .u64 6346243789798364141), .lit (.int .u64 1503914060200516822), .lit (.int .u64 0), .lit (.int .u64 1152921504606846976)]
def laid_tryst_curve_d {H : Type} : DataW H := .agg [.lit (.int .u8 163), .lit (.int .u8 120), .lit (.int .u8 89), .lit (.int .u8 19), .lit (.int .u8 202), .lit (.int .u8 77), .lit (.int .u8 235), .lit (.int .u8 117), .lit (.int .u8 171), .lit (.int .u8 216), .lit (.int .u8 65), .lit (.int .u8 65), .lit (.int .u8 77), .lit (.int .u8 10), .lit (.int .u8 112), .lit (.int .u8 0), .lit (.int .u8 152), .lit (.int .u8 232), .lit (.int .u8 121), .lit (.int .u8 119), .lit (.int .u8 121), .lit (.int .u8 64), .lit (.int .u8 199), .lit (.int .u8 140), .lit (.int .u8 115), .lit (.int .u8 254), .lit (.int .u8 111), .lit (.int .u8 43), .lit (.int .u8 238), .lit (.int .u8 108), .lit (.int .u8 3), .lit (.int .u8 82)]

/-- 'trystlaw08.CurveNumbers': WHATEVER THE INPUT: true; the input reads as it did. -/
def curveNumbersSpec : ChangeSpec := { name := "curveNumbers", fn := fun _ => fun
  | [d1, d2, d3, d4] => { results := [.lit (.bool true)], args := [d1, d2, d3, d4] }
  | _ => none }
def curveNumbersRow : OpenClaim := { program := "ytnlhpiieihnbiaadoor", sum := "2a30391d1eb60fe70aaf2604314613162a91d0ef631e63630e4652264d1fcf78", func := "tryst/trystlaw08.CurveNumbers", spec := "curveNumbers", inPlace := ["math/bits.Sub64", "math/bits.Add64"], named := ["tryst/curve.order", "tryst/curve.baseX", "tryst/curve.baseY", "tryst/curve.twiceD"], apart := false, laid := [("tryst/curve.twiceD", laid_tryst_curve_twiceD), ("tryst/curve.baseX", laid_tryst_curve_baseX), ("tryst/curve.baseY", laid_tryst_curve_baseY), ("tryst/curve.order", laid_tryst_curve_order)] }
def CurveNumbersSaid : Prop := curveNumbersRow.holds Tryd.pinned (OpenSpec.ofChange curveNumbersSpec)

/-- ITS FALSE NEIGHBOUR: 'it returns false'. Refute it at one input. -/
def curveNumbersWrong : ChangeSpec := { name := "curveNumbers", fn := fun _ => fun
  | [d1, d2, d3, d4] => { results := [.lit (.bool false)], args := [d1, d2, d3, d4] }
  | _ => none }
def CurveNumbersWrongFalsely : Prop := curveNumbersRow.holds Tryd.pinned (OpenSpec.ofChange curveNumbersWrong)

/-- 'trystlaw08.CurveGroup': WHATEVER THE INPUT: true; the input reads as it did. -/
def curveGroupSpec : ChangeSpec := { name := "curveGroup", fn := fun _ => fun
  | [d1, d2, d3] => { results := [.lit (.bool true)], args := [d1, d2, d3] }
  | _ => none }
def curveGroupRow : OpenClaim := { program := "ytnlhpiieihnbiaadoor", sum := "2a30391d1eb60fe70aaf2604314613162a91d0ef631e63630e4652264d1fcf78", func := "tryst/trystlaw08.CurveGroup", spec := "curveGroup", inPlace := ["math/bits.Add64", "math/bits.Sub64"], named := ["tryst/curve.baseX", "tryst/curve.baseY", "tryst/curve.twiceD", "tryst/curve.d"], apart := false, laid := [("tryst/curve.d", laid_tryst_curve_d), ("tryst/curve.twiceD", laid_tryst_curve_twiceD), ("tryst/curve.baseX", laid_tryst_curve_baseX), ("tryst/curve.baseY", laid_tryst_curve_baseY)] }
def CurveGroupSaid : Prop := curveGroupRow.holds Tryd.pinned (OpenSpec.ofChange curveGroupSpec)

/-- ITS FALSE NEIGHBOUR: 'it returns false'. Refute it at one input. -/
def curveGroupWrong : ChangeSpec := { name := "curveGroup", fn := fun _ => fun
  | [d1, d2, d3] => { results := [.lit (.bool false)], args := [d1, d2, d3] }
  | _ => none }
def CurveGroupWrongFalsely : Prop := curveGroupRow.holds Tryd.pinned (OpenSpec.ofChange curveGroupWrong)

/-- 'trystlaw08.CurveMultiples': WHATEVER THE INPUT: true; the input reads as it did. -/
def curveMultiplesSpec : ChangeSpec := { name := "curveMultiples", fn := fun _ => fun
  | [d1, d2, d3] => { results := [.lit (.bool true)], args := [d1, d2, d3] }
  | _ => none }
def curveMultiplesRow : OpenClaim := { program := "ytnlhpiieihnbiaadoor", sum := "2a30391d1eb60fe70aaf2604314613162a91d0ef631e63630e4652264d1fcf78", func := "tryst/trystlaw08.CurveMultiples", spec := "curveMultiples", inPlace := ["math/bits.Add64", "math/bits.Sub64"], named := ["tryst/curve.baseX", "tryst/curve.baseY", "tryst/curve.twiceD", "tryst/curve.d", "tryst/curve.order"], apart := false, laid := [("tryst/curve.d", laid_tryst_curve_d), ("tryst/curve.twiceD", laid_tryst_curve_twiceD), ("tryst/curve.baseX", laid_tryst_curve_baseX), ("tryst/curve.baseY", laid_tryst_curve_baseY), ("tryst/curve.order", laid_tryst_curve_order)] }
def CurveMultiplesSaid : Prop := curveMultiplesRow.holds Tryd.pinned (OpenSpec.ofChange curveMultiplesSpec)

/-- ITS FALSE NEIGHBOUR: 'it returns false'. Refute it at one input. -/
def curveMultiplesWrong : ChangeSpec := { name := "curveMultiples", fn := fun _ => fun
  | [d1, d2, d3] => { results := [.lit (.bool false)], args := [d1, d2, d3] }
  | _ => none }
def CurveMultiplesWrongFalsely : Prop := curveMultiplesRow.holds Tryd.pinned (OpenSpec.ofChange curveMultiplesWrong)

/-- 'trystlaw08.CurveOrder': WHATEVER THE INPUT: true; the input reads as it did. -/
def curveOrderSpec : ChangeSpec := { name := "curveOrder", fn := fun _ => fun
  | [d] => { results := [.lit (.bool true)], args := [d] }
  | _ => none }
def curveOrderRow : OpenClaim := { program := "ytnlhpiieihnbiaadoor", sum := "2a30391d1eb60fe70aaf2604314613162a91d0ef631e63630e4652264d1fcf78", func := "tryst/trystlaw08.CurveOrder", spec := "curveOrder", inPlace := ["math/bits.Sub64", "math/bits.Add64"], named := ["tryst/curve.order", "tryst/curve.baseX", "tryst/curve.baseY", "tryst/curve.twiceD"], apart := false, laid := [("tryst/curve.twiceD", laid_tryst_curve_twiceD), ("tryst/curve.baseX", laid_tryst_curve_baseX), ("tryst/curve.baseY", laid_tryst_curve_baseY), ("tryst/curve.order", laid_tryst_curve_order)] }
def CurveOrderSaid : Prop := curveOrderRow.holds Tryd.pinned (OpenSpec.ofChange curveOrderSpec)

/-- ITS FALSE NEIGHBOUR: 'it returns false'. Refute it at one input. -/
def curveOrderWrong : ChangeSpec := { name := "curveOrder", fn := fun _ => fun
  | [d] => { results := [.lit (.bool false)], args := [d] }
  | _ => none }
def CurveOrderWrongFalsely : Prop := curveOrderRow.holds Tryd.pinned (OpenSpec.ofChange curveOrderWrong)

/-- 'trystlaw08.CurveRing': WHATEVER THE INPUT: true; the input reads as it did. -/
def curveRingSpec : ChangeSpec := { name := "curveRing", fn := fun _ => fun
  | [d1, d2, d3] => { results := [.lit (.bool true)], args := [d1, d2, d3] }
  | _ => none }
def curveRingRow : OpenClaim := { program := "ytnlhpiieihnbiaadoor", sum := "2a30391d1eb60fe70aaf2604314613162a91d0ef631e63630e4652264d1fcf78", func := "tryst/trystlaw08.CurveRing", spec := "curveRing", inPlace := ["math/bits.Add64", "math/bits.Sub64"], named := ["tryst/curve.order", "tryst/curve.baseX", "tryst/curve.baseY", "tryst/curve.twiceD"], apart := false, laid := [("tryst/curve.twiceD", laid_tryst_curve_twiceD), ("tryst/curve.baseX", laid_tryst_curve_baseX), ("tryst/curve.baseY", laid_tryst_curve_baseY), ("tryst/curve.order", laid_tryst_curve_order)] }
def CurveRingSaid : Prop := curveRingRow.holds Tryd.pinned (OpenSpec.ofChange curveRingSpec)

/-- ITS FALSE NEIGHBOUR: 'it returns false'. Refute it at one input. -/
def curveRingWrong : ChangeSpec := { name := "curveRing", fn := fun _ => fun
  | [d1, d2, d3] => { results := [.lit (.bool false)], args := [d1, d2, d3] }
  | _ => none }
def CurveRingWrongFalsely : Prop := curveRingRow.holds Tryd.pinned (OpenSpec.ofChange curveRingWrong)

/- THE SECOND FORM. 'bulk': how many values and letters a reading holds, each counted each time it is reached (what is shared counts as often as it is met; a slice's spare places count too). A statement '..UptoSaid' is the law's where the arguments, and the package variables that the reading takes, are together of bulk at most 1048576: NARROWER than '..Said'. Prove '..Said' where nothing that the law and all that it calls make is longer than what came in: it says more and counts as full. Else prove '..UptoSaid'. A law counts once. -/
mutual
def uptoBulk {H : Type} : DataW H → Nat
  | .lit (.string bytes) => bytes.length + 1
  | .lit _ => 1
  | .nil => 1
  | .ptr d => uptoBulk d + 1
  | .slice elems spare => uptoBulkAll elems + uptoBulkAll spare + 1
  | .agg parts => uptoBulkAll parts + 1
  | .iface _ d => uptoBulk d + 1
  | .map entries => uptoBulkEntries entries + 1
  | .held _ => 1
def uptoBulkAll {H : Type} : List (DataW H) → Nat
  | [] => 0
  | d :: r => uptoBulk d + uptoBulkAll r
def uptoBulkEntries {H : Type} : List (Lit × DataW H) → Nat
  | [] => 0
  | x :: r => uptoBulkEntry x + uptoBulkEntries r
def uptoBulkEntry {H : Type} : Lit × DataW H → Nat
  | (.string bytes, d) => bytes.length + uptoBulk d + 1
  | (_, d) => uptoBulk d + 1
 end
def uptoSmall : (H : Type) → List (DataW H) → Bool := fun _ ds => decide (uptoBulkAll ds ≤ 1048576)
def OpenSpec.upto (s : _root_.Go.ChangeSpec) : _root_.Go.OpenSpec := { _root_.Go.OpenSpec.ofChange s with cond := some uptoSmall }

/-- 'trystlaw08.CurveNumbers', WHERE WHAT IT READS IS OF BULK AT MOST 1048576: true; the input reads as it did. -/
def curveNumbersUptoRow : OpenClaim := { program := "ytnlhpiieihnbiaadoor", sum := "2a30391d1eb60fe70aaf2604314613162a91d0ef631e63630e4652264d1fcf78", func := "tryst/trystlaw08.CurveNumbers", spec := "curveNumbers", inPlace := ["math/bits.Sub64", "math/bits.Add64"], named := ["tryst/curve.order", "tryst/curve.baseX", "tryst/curve.baseY", "tryst/curve.twiceD"], apart := false, laid := [("tryst/curve.twiceD", laid_tryst_curve_twiceD), ("tryst/curve.baseX", laid_tryst_curve_baseX), ("tryst/curve.baseY", laid_tryst_curve_baseY), ("tryst/curve.order", laid_tryst_curve_order)], narrowed := true }
def CurveNumbersUptoSaid : Prop := curveNumbersUptoRow.holds Tryd.pinned (OpenSpec.upto curveNumbersSpec)

/-- 'trystlaw08.CurveGroup', WHERE WHAT IT READS IS OF BULK AT MOST 1048576: true; the input reads as it did. -/
def curveGroupUptoRow : OpenClaim := { program := "ytnlhpiieihnbiaadoor", sum := "2a30391d1eb60fe70aaf2604314613162a91d0ef631e63630e4652264d1fcf78", func := "tryst/trystlaw08.CurveGroup", spec := "curveGroup", inPlace := ["math/bits.Add64", "math/bits.Sub64"], named := ["tryst/curve.baseX", "tryst/curve.baseY", "tryst/curve.twiceD", "tryst/curve.d"], apart := false, laid := [("tryst/curve.d", laid_tryst_curve_d), ("tryst/curve.twiceD", laid_tryst_curve_twiceD), ("tryst/curve.baseX", laid_tryst_curve_baseX), ("tryst/curve.baseY", laid_tryst_curve_baseY)], narrowed := true }
def CurveGroupUptoSaid : Prop := curveGroupUptoRow.holds Tryd.pinned (OpenSpec.upto curveGroupSpec)

/-- 'trystlaw08.CurveMultiples', WHERE WHAT IT READS IS OF BULK AT MOST 1048576: true; the input reads as it did. -/
def curveMultiplesUptoRow : OpenClaim := { program := "ytnlhpiieihnbiaadoor", sum := "2a30391d1eb60fe70aaf2604314613162a91d0ef631e63630e4652264d1fcf78", func := "tryst/trystlaw08.CurveMultiples", spec := "curveMultiples", inPlace := ["math/bits.Add64", "math/bits.Sub64"], named := ["tryst/curve.baseX", "tryst/curve.baseY", "tryst/curve.twiceD", "tryst/curve.d", "tryst/curve.order"], apart := false, laid := [("tryst/curve.d", laid_tryst_curve_d), ("tryst/curve.twiceD", laid_tryst_curve_twiceD), ("tryst/curve.baseX", laid_tryst_curve_baseX), ("tryst/curve.baseY", laid_tryst_curve_baseY), ("tryst/curve.order", laid_tryst_curve_order)], narrowed := true }
def CurveMultiplesUptoSaid : Prop := curveMultiplesUptoRow.holds Tryd.pinned (OpenSpec.upto curveMultiplesSpec)

/-- 'trystlaw08.CurveOrder', WHERE WHAT IT READS IS OF BULK AT MOST 1048576: true; the input reads as it did. -/
def curveOrderUptoRow : OpenClaim := { program := "ytnlhpiieihnbiaadoor", sum := "2a30391d1eb60fe70aaf2604314613162a91d0ef631e63630e4652264d1fcf78", func := "tryst/trystlaw08.CurveOrder", spec := "curveOrder", inPlace := ["math/bits.Sub64", "math/bits.Add64"], named := ["tryst/curve.order", "tryst/curve.baseX", "tryst/curve.baseY", "tryst/curve.twiceD"], apart := false, laid := [("tryst/curve.twiceD", laid_tryst_curve_twiceD), ("tryst/curve.baseX", laid_tryst_curve_baseX), ("tryst/curve.baseY", laid_tryst_curve_baseY), ("tryst/curve.order", laid_tryst_curve_order)], narrowed := true }
def CurveOrderUptoSaid : Prop := curveOrderUptoRow.holds Tryd.pinned (OpenSpec.upto curveOrderSpec)

/-- 'trystlaw08.CurveRing', WHERE WHAT IT READS IS OF BULK AT MOST 1048576: true; the input reads as it did. -/
def curveRingUptoRow : OpenClaim := { program := "ytnlhpiieihnbiaadoor", sum := "2a30391d1eb60fe70aaf2604314613162a91d0ef631e63630e4652264d1fcf78", func := "tryst/trystlaw08.CurveRing", spec := "curveRing", inPlace := ["math/bits.Add64", "math/bits.Sub64"], named := ["tryst/curve.order", "tryst/curve.baseX", "tryst/curve.baseY", "tryst/curve.twiceD"], apart := false, laid := [("tryst/curve.twiceD", laid_tryst_curve_twiceD), ("tryst/curve.baseX", laid_tryst_curve_baseX), ("tryst/curve.baseY", laid_tryst_curve_baseY), ("tryst/curve.order", laid_tryst_curve_order)], narrowed := true }
def CurveRingUptoSaid : Prop := curveRingUptoRow.holds Tryd.pinned (OpenSpec.upto curveRingSpec)

end Rows
end Go.Proofs.YtnlhpiieihnbiaaDoor
