/-
  PathAlone: the law, run for one leaf and for two. Own work.
-/
import Derived.Test.YtcikcmphnaogbaaGreatDoorTab
import Derived.Test.YtcikcmphnaogbaaGreatDoorShG3
import Derived.IntWalk
namespace Go.Proofs.YtcikcmphnaogbaaGreatDoor
open Go.Sh
set_option maxRecDepth 100000

def deb : List Int := [0, 1, 56, 2, 57, 49, 28, 3, 61, 58, 42, 50, 38, 29, 17, 4, 62, 47, 59, 36, 45, 43, 51, 22, 53, 39, 33, 30, 24, 18, 12, 5, 63, 55, 48, 27, 60, 41, 37, 16, 46, 35, 44, 21, 52, 32, 23, 11, 54, 26, 40, 15, 34, 20, 31, 10, 25, 14, 19, 9, 13, 8, 7, 6]
def debA : List AV := deb.map fun z => .i .u8 (.c z)
def glD : Gl := [(1, ⟨debA, 5, true⟩)]
theorem known8 (ν : Nat → Int) : ∀ l : List Int, concT ν (l.map fun n => AV.i .u8 (.c n)) = some (l.map fun n => Value.int .u8 n)
  | [] => rfl
  | a :: r => by
    show concT ν (AV.i .u8 (.c a) :: r.map fun n => AV.i .u8 (.c n)) = _
    unfold concT
    rw [known8 ν r]
    rfl
theorem glD_ok : GlOk glD := by
  intro p hp
  simp only [glD, List.mem_cons, List.not_mem_nil, or_false] at hp
  subst hp
  exact ⟨by decide, by decide, _, fun ν => known8 ν _⟩
def iS (k : Nat) : AV := .i .i64 (.s k)
def iC (k : Nat) : AV := .i .i64 (.c (.ofNat k))
abbrev Cm := BinOp × AI × AI × Bool
def nC (n : Nat) : AI := .c (.ofNat n)
def noF : Facts := ⟨[], []⟩
def fA (g : Bool) : Facts := ⟨[], [(.lss, .s 0, nC 0, false), (.gtr, .s 0, nC 0, g)]⟩
def fN : Facts := ⟨[], [(.lss, .s 0, nC 0, true)]⟩
theorem wk_says : saysG noF tree [] glD [] 400 30 7 [] (.b true) = true := by kernel_rfl
def wkR : Row := ⟨7, [], .b true⟩
noncomputable def lawA (two g : Bool) : Bool := saysG (fA g) tree [] glD [wkR] 400 30 3 [iS 0, .b two] (.b true)
noncomputable def lawN (two : Bool) : Bool := saysG fN tree [] glD [] 400 30 3 [iS 0, .b two] (.b true)
theorem lawN_f : lawN false = true := by kernel_rfl
theorem lawN_t : lawN true = true := by kernel_rfl
theorem lawA_ff : lawA false false = true := by kernel_rfl
theorem lawA_ft : lawA false true = true := by kernel_rfl
theorem lawA_tf : lawA true false = true := by kernel_rfl
theorem lawA_tt : lawA true true = true := by kernel_rfl
end Go.Proofs.YtcikcmphnaogbaaGreatDoor
