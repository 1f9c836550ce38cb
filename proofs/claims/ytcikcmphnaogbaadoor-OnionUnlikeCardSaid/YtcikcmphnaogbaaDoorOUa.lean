/-
  OnionUnlike: the law, run for each case of its numbers. Own work.
-/
import Derived.Test.YtcikcmphnaogbaaDoorTab
import Derived.Test.YtcikcmphnaogbaaDoorShG3
namespace Go.Proofs.YtcikcmphnaogbaaDoor
open Go.Sh
set_option maxRecDepth 100000

def iS (k : Nat) : AV := .i .i64 (.s k)
def iC (k : Nat) : AV := .i .i64 (.c (.ofNat k))
abbrev Cm := BinOp × AI × AI × Bool
def nC (n : Nat) : AI := .c (.ofNat n)
/-- The calls that may write, told. -/
def wideV : List (AI × Int) := [(nC 57, 57), (nC 58, 58)]
def noF : Facts := ⟨wideV, []⟩
theorem wide_val (ν : Nat → Int) : ∀ p ∈ wideV, p.1.val ν = p.2 := by
  intro p hp
  simp only [wideV, List.mem_cons, List.not_mem_nil, or_false] at hp
  rcases hp with rfl | rfl <;> rfl
theorem noF_hold (ν : Nat → Int) : noF.Hold ν := ⟨wide_val ν, fun p hp => by cases hp⟩
theorem wk_says : saysG noF tree [] [] [] 400 40 19 [] (.b true) = true := by kernel_rfl
def wkR : Row := ⟨19, [], .b true⟩
/-- Eight bytes of a number. -/
def by8 (x : AI) : List AI := (List.range 8).map fun i => .w .u8 (.e .shr .i64 x (nC (8 * i)))
/-- What a term without arguments is found by. -/
def keyS (k s : Nat) : List AI := nC k :: by8 (.s s)
def keyC (k c : Nat) : List AI := nC k :: nC c :: List.replicate 7 (nC 0)
def neS (a b : List AI) : Cm := (.neq, jointS a b, nC 0, true)
def fU : Facts := ⟨wideV, (List.range 4).map (fun j => (.lss, .s j, nC 0, false)) ++
  [(.eql, .s 0, .s 0, true), (.eql, .s 2, .s 2, true), (.eql, .s 0, .s 1, false), (.eql, .s 2, .s 3, false)] ++
  [1, 2, 3].map (fun c => (.eql, .s 0, nC c, false)) ++ [1, 2, 3].map (fun c => (.eql, nC c, .s 1, false)) ++
  [1, 2, 3].map (fun c => neS (keyS 1 0) (keyC 1 c)) ++ [1, 2, 3].map (fun c => neS (keyS 1 1) (keyC 1 c)) ++ [neS (keyS 1 1) (keyS 1 0), neS (keyS 2 3) (keyS 2 2)]⟩
/-! a term of that kind and number, without arguments, may be -/
def fR (g : Bool) : Facts := ⟨[], [(.lss, .s 0, nC 0, false), (.gtr, .s 0, nC 0, g)]⟩
noncomputable def rgt (k : Nat) (g : Bool) : Bool := saysB (fR g) tree [] [] [] [] [] 64 400 10 35 [iC k, iS 0, .nsl] (iC 0)
theorem rgt_1f : rgt 1 false = true := by kernel_rfl
theorem rgt_1t : rgt 1 true = true := by kernel_rfl
theorem rgt_2f : rgt 2 false = true := by kernel_rfl
theorem rgt_2t : rgt 2 true = true := by kernel_rfl
def rowR (k s : Nat) : RowM := ⟨35, [iC k, iS s, .nsl], [], [.v (iC 0)]⟩
def rowsR : List RowM := [rowR 1 0, rowR 1 1, rowR 2 2, rowR 2 3]
noncomputable def lawU (a b y : AV) : Bool := saysB fU tree [] [] [wkR] rowsR [] 64 400 40 5 [a, b, iS 2, y] (.b true)
def fNg (k : Nat) : Facts := ⟨[], (List.range k).map (fun j => (.lss, .s j, nC 0, false)) ++ [(.lss, .s k, nC 0, true)]⟩
noncomputable def lawNg (k : Nat) : Bool := saysB (fNg k) tree [] [] [] [] [] 64 400 40 5 [iS 0, iS 1, iS 2, iS 3] (.b true)
theorem lawNg_0 : lawNg 0 = true := by kernel_rfl
theorem lawNg_1 : lawNg 1 = true := by kernel_rfl
theorem lawNg_2 : lawNg 2 = true := by kernel_rfl
theorem lawNg_3 : lawNg 3 = true := by kernel_rfl
theorem lawU_0 : lawU (iS 0) (iS 1) (iS 3) = true := by kernel_rfl
end Go.Proofs.YtcikcmphnaogbaaDoor
