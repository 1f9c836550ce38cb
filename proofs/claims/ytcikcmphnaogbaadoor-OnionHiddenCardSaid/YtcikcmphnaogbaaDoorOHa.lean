/-
  OnionHidden: the law, run for each row of bools. Own work.
-/
import Derived.Test.YtcikcmphnaogbaaDoorTab
import Derived.Test.YtcikcmphnaogbaaDoorShG3
namespace Go.Proofs.YtcikcmphnaogbaaDoor
open Go.Sh
set_option maxRecDepth 100000

def iS (k : Nat) : AV := .i .i64 (.s k)
def iC (k : Nat) : AV := .i .i64 (.c (.ofNat k))
abbrev Cm := BinOp × AI × AI × Bool
def nC (n : Nat) : AI := .c (.ofNat n)
/-- The calls that may write, told. -/
def wideV : List (AI × Int) := [(nC 57, 57), (nC 58, 58)]
def noF : Facts := ⟨wideV, []⟩
theorem noF_hold (ν : Nat → Int) : noF.Hold ν := ⟨fun p hp => by
  simp only [noF, wideV, List.mem_cons, List.not_mem_nil, or_false] at hp
  rcases hp with rfl | rfl <;> rfl, fun p hp => by cases hp⟩
theorem wk_says : saysG noF tree [] [] [] 400 40 19 [] (.b true) = true := by kernel_rfl
def wkR : Row := ⟨19, [], .b true⟩
def bitsL (k m : Nat) : List AV := (List.range k).map fun j => .b (Nat.beq (m / 2 ^ j % 2) 1)
def fK (k : Nat) : Facts := ⟨wideV, [(.lss, .s 0, nC 0, false), (.gtr, .s 1, nC 10, false), (.gtr, .s 1, nC 0, true)] ++ (List.range 3).map fun j => (.lss, nC j, .s 1, Nat.blt j k)⟩
def fZ : Facts := ⟨wideV, [(.lss, .s 0, nC 0, false)]⟩
def fN : Facts := ⟨[], [(.lss, .s 0, nC 0, true)]⟩
def fM : Facts := ⟨[], [(.lss, .s 0, nC 0, false), (.gtr, .s 1, nC 10, true)]⟩
def xsK (k m : Nat) : Gl := [(64, ⟨bitsL k m, 0, true⟩)]
noncomputable def lawK (k m : Nat) : Bool := saysM (fK k) tree [] [] [wkR] (xsK k m) 65 400 40 4 [iS 0, .sl 64 0 (.s 1) .any] (.b true)
noncomputable def lawZ (x : AV) : Bool := saysM fZ tree [] [] [wkR] [] 64 400 40 4 [iS 0, x] (.b true)
noncomputable def lawN (x : AV) : Bool := saysM fN tree [] [] [] [] 64 400 40 4 [iS 0, x] (.b true)
theorem lawN_sl : lawN (.sl 64 0 (.s 1) .any) = true := by kernel_rfl
theorem lawN_nsl : lawN .nsl = true := by kernel_rfl
theorem lawN_sle : lawN (.sle false) = true := by kernel_rfl
theorem lawM : saysM fM tree [] [] [] [] 64 400 40 4 [iS 0, .sl 64 0 (.s 1) .any] (.b true) = true := by kernel_rfl
theorem lawZ_nsl : lawZ .nsl = true := by kernel_rfl
theorem lawZ_sle : lawZ (.sle false) = true := by kernel_rfl
theorem lawK_1_0 : lawK 1 0 = true := by kernel_rfl
theorem lawK_1_1 : lawK 1 1 = true := by kernel_rfl
end Go.Proofs.YtcikcmphnaogbaaDoor
