/-
  LogsBegin: what is known of the numbers that came in. Own work.
-/
import Derived.Test.YtkicmmpdfhbjaaaTab
import Derived.Test.YtkicmmpdfhbjaaaShG3
import Derived.IntWalk
namespace Go.Proofs.Ytkicmmpdfhbjaaa
open Go.Sh
set_option maxRecDepth 100000

def iS (k : Nat) : AV := .i .i64 (.s k)
abbrev Cm := BinOp × AI × AI × Bool
def hI (i : Nat) : AI := .s (10 + i)
def nC (n : Nat) : AI := .c (.ofNat n)
def ad (x : AI) (k : Nat) : AI := .e .add .i64 x (nC k)
def top : Nat := 1073741824
def bodE : AI := .w .i64 (.e .rem .u64 (.w .u64 (.s 3)) (nC 1048577))
def cE : AI := .e .rem .u64 (.w .u64 (.s 2)) (nC 8)
def inF (i : Nat) : List Cm := [(.lss, hI i, nC 0, false), (.gtr, hI i, nC top, false), (.geq, hI i, nC 0, true), (.leq, hI i, hI i, true), (.lss, hI i, ad (hI i) 0, false), (.neq, ad (hI i) 0, hI i, false), (.neq, hI i, hI i, false), (.leq, hI i, ad (hI i) 0, true)]
def allF (n : Nat) : List Cm := (List.range n).flatMap inF
def cF (c d : Nat) : List Cm := [(.eql, hI c, nC top, Nat.beq d 2), (.gtr, hI c, nC 0, !(Nat.beq d 0)), (.lss, hI c, nC 1, Nat.beq d 0), (.eql, ad (hI c) 1, ad (hI c) 1, true), (.neq, ad (hI c) 1, ad (hI c) 1, false), (.lss, ad (hI c) 1, nC 1, false), (.lss, ad (hI c) 2, nC 1, false),
  (.leq, ad (hI c) 1, ad (hI c) 0, false), (.leq, ad (hI c) 2, ad (hI c) 0, false), (.gtr, ad (hI c) 1, ad (ad (hI c) 0) 1, false), (.gtr, ad (hI c) 2, ad (ad (hI c) 0) 1, true), (.lss, hI c, ad (hI c) 1, true)]
def bodF : List Cm := [(.eql, bodE, bodE, true), (.geq, bodE, nC 0, true), (.leq, bodE, nC 1048576, true), (.lss, bodE, nC 0, false), (.gtr, bodE, nC 1048576, false)]
def fMain (c d : Nat) : Facts := ⟨[(cE, (c : Int)), (.e .sub .i64 (hI c) (hI c), 0)], cF c d ++ (bodF ++ allF 8)⟩
def fBad (k : Nat) (t : Bool) : Facts := ⟨[], [(.lss, hI k, nC 0, t), (.gtr, hI k, nC top, !t)] ++ allF k⟩
def cells8 : List AV := (List.range 8).map fun i => iS (10 + i)
def noF : Facts := ⟨[], []⟩
theorem noFacts_hold (ν : Nat → Int) : (⟨[], []⟩ : Facts).Hold ν := ⟨fun p hp => (by cases hp), fun p hp => (by cases hp)⟩
theorem wk_says : says noF tree [] 400 6 5 [] (heap0 [] gmax) (.b true) = true := by kernel_rfl
theorem wakes_ok : Pure Try.prog 5 [] (.bool true) := pure_of (ν := fun _ => 0) (args := []) (noFacts_hold _) mixed tab_ok (fun r hr => by cases hr) wk_says rfl rfl
def wkR : List Row := [⟨5, [], .b true⟩]
theorem wkR_ok (ν : Nat → Int) : ∀ r ∈ wkR, r.Ok ν Try.prog := by
  intro r hr
  simp only [wkR, List.mem_cons, List.not_mem_nil, or_false] at hr
  subst hr
  exact ⟨[], .bool true, rfl, rfl, wakes_ok⟩
noncomputable def goX (F : Facts) (cs : List AV) (a : AV) : Bool := saysM F tree wkR [] [] [(64, ⟨cs, 3, true⟩)] 65 400 8 3 [a, iS 2, iS 3] (.b true)
noncomputable def goE (F : Facts) (a : AV) : Bool := saysM F tree wkR [] [] [] 64 400 8 3 [a, iS 2, iS 3] (.b true)
def sl8 : AV := .sl 64 0 (.c (.ofNat 8)) .any
def slS : AV := .sl 64 0 (.s 4) .any
def fLong : Facts := ⟨[], [(.gtr, .s 4, nC 50, true)]⟩
def fOther : Facts := ⟨[], [(.gtr, .s 4, nC 50, false), (.neq, .s 4, nC 8, true)]⟩
theorem l_nil : goE noF .nsl = true := by kernel_rfl
theorem l_sle : goE noF (.sle false) = true := by kernel_rfl
theorem l_long : goX fLong [iS 10] slS = true := by kernel_rfl
theorem l_other : goX fOther [iS 10] slS = true := by kernel_rfl
noncomputable def bad2 (k : Nat) : Bool := goX (fBad k true) cells8 sl8 && goX (fBad k false) cells8 sl8
theorem l_bad : (List.range 8).all bad2 = true := by kernel_rfl
end Go.Proofs.Ytkicmmpdfhbjaaa
