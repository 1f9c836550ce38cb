/-
  TreeFull: the law, run for each number of clients. Own work.
-/
import Derived.Test.YtcikcmphnaogbaaDoorTab
import Derived.Test.YtcikcmphnaogbaaDoorShG3
import Derived.IntWalk
namespace Go.Proofs.YtcikcmphnaogbaaDoor
open Go.Sh
set_option maxRecDepth 100000

def deb : List Int := [0, 1, 56, 2, 57, 49, 28, 3, 61, 58, 42, 50, 38, 29, 17, 4, 62, 47, 59, 36, 45, 43, 51, 22, 53, 39, 33, 30, 24, 18, 12, 5, 63, 55, 48, 27, 60, 41, 37, 16, 46, 35, 44, 21, 52, 32, 23, 11, 54, 26, 40, 15, 34, 20, 31, 10, 25, 14, 19, 9, 13, 8, 7, 6]
def debA : List AV := deb.map fun z => .i .u8 (.c z)
def glD : Gl := [(1, ⟨debA, 5, true⟩)]
theorem known8 (ν : Nat → Int) : ∀ l : List Int, concT ν (l.map fun n => AV.i .u8 (.c n)) = some (l.map fun n => Value.int .u8 n)
  | [] => rfl
  | a :: r => by
    show concT ν (AV.i .u8 (.c a) :: r.map fun n => AV.i .u8 (.c n)) = _
    unfold concT
    rw [known8 ν r]
    rfl
theorem glD_ok : GlOk glD := by
  intro p hp
  simp only [glD, List.mem_cons, List.not_mem_nil, or_false] at hp
  subst hp
  exact ⟨by decide, by decide, _, fun ν => known8 ν _⟩
def iS (k : Nat) : AV := .i .i64 (.s k)
def iC (k : Nat) : AV := .i .i64 (.c (.ofNat k))
abbrev Cm := BinOp × AI × AI × Bool
def nC (n : Nat) : AI := .c (.ofNat n)
def fT (r : Nat) : Facts := ⟨[(.e .rem .u64 (.w .u64 (.s 0)) (nC 8), (r : Int))], [(.geq, .s 1, nC 0, true), (.geq, .s 2, nC 0, true), (.lss, .s 1, nC 0, false), (.lss, .s 2, nC 0, false)]⟩
def fN : Facts := ⟨[], [(.lss, .s 1, nC 0, true)]⟩
def fM : Facts := ⟨[], [(.lss, .s 1, nC 0, false), (.lss, .s 2, nC 0, true)]⟩
def noF : Facts := ⟨[], []⟩
def wkR : Row := ⟨11, [], .b true⟩
theorem wk_says : saysG noF tree [] glD [] 400 30 11 [] (.b true) = true := by kernel_rfl
noncomputable def lawT (r : Nat) : Bool := saysG (fT r) tree [] glD [wkR] 400 30 3 [iS 0, iS 1, iS 2] (.b true)
theorem lawN : saysG fN tree [] glD [] 400 30 3 [iS 0, iS 1, iS 2] (.b true) = true := by kernel_rfl
theorem lawM : saysG fM tree [] glD [] 400 30 3 [iS 0, iS 1, iS 2] (.b true) = true := by kernel_rfl
theorem lawT_0 : lawT 0 = true := by kernel_rfl
theorem lawT_1 : lawT 1 = true := by kernel_rfl
theorem lawT_2 : lawT 2 = true := by kernel_rfl
theorem lawT_3 : lawT 3 = true := by kernel_rfl
end Go.Proofs.YtcikcmphnaogbaaDoor
