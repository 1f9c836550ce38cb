/-
  PackForged: rows and facts. Own work.
-/
import Derived.Test.YtggjplfnalolcaaDoorTab
import Derived.Test.YtggjplfnalolcaaDoorShG3
namespace Go.Proofs.YtggjplfnalolcaaDoor
open Go.Sh
set_option maxRecDepth 100000

def iS (k : Nat) : AV := .i .i64 (.s k)
def iC (k : Nat) : AV := .i .i64 (.c (.ofNat k))
abbrev Cm := BinOp × AI × AI × Bool
def nC (n : Nat) : AI := .c (.ofNat n)
/-- The calls that may write, told; appends within a region of open order. -/
def wideV : List (AI × Int) := [(nC 18, 18), (nC 19, 19), (nC 20, 20), (nC 21, 21), (nC 1000000, 1000000)]
def noF : Facts := ⟨wideV, [], []⟩
theorem wide_val (ν : Nat → Int) : ∀ p ∈ wideV, p.1.val ν = p.2 := by
  intro p hp
  simp only [wideV, List.mem_cons, List.not_mem_nil, or_false] at hp
  rcases hp with rfl | rfl | rfl | rfl | rfl <;> rfl
theorem noF_hold (ν : Nat → Int) : noF.Hold ν := ⟨wide_val ν, fun p hp => (by cases hp), fun p hp => by cases hp⟩
def wkR : Row := ⟨12, [], .b true⟩
/-- Eight bytes of a number. -/
def by8 (x : AI) : List AI := (List.range 8).map fun i => .w .u8 (.e .shr .i64 x (nC (8 * i)))
/-- What a term without arguments is found by. -/
def keyS (k s : Nat) : List AI := nC k :: by8 (.s s)
def neS (a b : List AI) : Cm := (.neq, jointS a b, nC 0, true)
/-! errors that are wrapped, as they stand -/
def eN (n : Nat) : AV := .ifc 24 (.i .i64 (.c (.ofNat n)))
def eA (s : List UInt8) (e : AV) : AV := .ifc 77 (.ag [.str ⟨s.toArray⟩, e])
def sPack : List UInt8 := [112, 97, 99, 107, 97, 103, 101]
def sSig : List UInt8 := [115, 105, 103, 110, 101, 114]
def sPub : List UInt8 := [112, 117, 98]
def sKind : List UInt8 := [107, 105, 110, 100]
def numR (e : AV) (n : Nat) : RowM := ⟨22, [e], [], [.v (.i .i64 (.c (.ofNat n)))]⟩
def rowR (k s : Nat) : RowM := ⟨13, [iC k, iS s, .nsl], [], [.v (iC 0)]⟩
def numE2 : AV := eA sPack (eA sSig (eN 15))
def numE3 : AV := eA sPack (eA sPub (eA sKind (eN 6)))
def pfM : List RowM := [rowR 1 1, rowR 1 2, rowR 2 0, numR numE2 15, numR numE3 6]
/-- The variable that errors.As reads. -/
def eTy : Value := .iface 97 (.agg #[.pointer (some ⟨1, 55, none⟩)])
def glE : Gl := [(0, ⟨[.kv eTy], 0, true⟩)]
/-- Which third. -/
def whA : AI := .w .i64 (.e .rem .u64 (.w .u64 (.s 3)) (nC 3))
def pfC : List Cm := [(.lss, .s 0, nC 0, false), (.geq, .s 0, nC 8, false), (.lss, .s 1, nC 0, false), (.lss, .s 2, nC 0, false), (.eql, .s 1, .s 2, false), (.eql, .s 0, .s 0, true), neS (keyS 1 2) (keyS 1 1)]
def pfW (c : List Cm) : Facts := ⟨wideV, pfC ++ c, []⟩
abbrev pfGo (c : List Cm) : Prop := saysB (pfW c) tree [] glE [wkR] pfM [] 64 400 40 3 [iS 0, iS 1, iS 2, iS 3] (.b true) = true
end Go.Proofs.YtggjplfnalolcaaDoor
