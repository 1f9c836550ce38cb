/-
  SlotsExact: what is known of the numbers that came in; its runs. Own work.
-/
import Derived.Test.YtelidpbhonnllaaTab
import Derived.Test.YtelidpbhonnllaaShG3
namespace Go.Proofs.Ytelidpbhonnllaa
open Go.Sh
set_option maxRecDepth 100000

def ii (n : Nat) : AV := .i .i64 (.c (.ofNat n))
def iS (k : Nat) : AV := .i .i64 (.s k)
abbrev Cm := BinOp × AI × AI × Bool
def nI (i : Nat) : AI := .s (10 + i)
def rnd : AI := .s 1
def meI : AI := .s 2
def cm1 : AI := .c (.negSucc 0)
def lastI : Nat → AI
  | 0 => cm1
  | i + 1 => nI i
def lastOf (m : Nat) : Nat := m + m % 2 - 1
def refl (n : Nat) : List Cm := (List.range n).map fun i => (.neq, nI i, nI i, false)
def goodF (i : Nat) : List Cm := [(.leq, nI i, lastI i, false), (.geq, nI i, .c (.ofNat 8), false), (.lss, nI i, .c (.ofNat 0), false)]
def pre (n : Nat) : List Cm := (List.range n).flatMap goodF
def badF (k d : Nat) : List Cm := [(.leq, nI k, lastI k, !(Nat.beq d 2)), (.geq, nI k, .c (.ofNat 8), Nat.beq d 2), (.lss, nI k, .c (.ofNat 0), Nat.beq d 0)]
def eqs (n j : Nat) : List Cm := (List.range n).flatMap fun i => [(.eql, meI, nI i, Nat.beq i j), (.eql, nI i, meI, Nat.beq i j), (.eql, nI i, nI i, true)]
def par (b : Bool) : List Cm := [(.eql, .e .rem .i64 rnd (.c (.ofNat 2)), .c (.ofNat 0), b)]
def rnF (b : Bool) : List Cm := [(.lss, rnd, .c (.ofNat 0), b)]
def cellsX (n : Nat) : List AV := (List.range n).map fun i => iS (10 + i)
def slX (n : Nat) : AV := .sl 64 0 (.c (.ofNat n)) .any
def noF : Facts := ⟨[], []⟩
theorem noFacts_hold (ν : Nat → Int) : (⟨[], []⟩ : Facts).Hold ν := ⟨fun p hp => (by cases hp), fun p hp => (by cases hp)⟩
theorem wk_says : says noF tree [] 400 4 9 [] (heap0 [] gmax) (.b true) = true := by kernel_rfl
theorem wakes_ok : Pure Try.prog 9 [] (.bool true) := pure_of (ν := fun _ => 0) (args := []) (noFacts_hold _) mixed tab_ok (fun r hr => by cases hr) wk_says rfl rfl
def wkR : List Row := [⟨9, [], .b true⟩]
theorem wkR_ok (ν : Nat → Int) : ∀ r ∈ wkR, r.Ok ν Try.prog := by
  intro r hr
  simp only [wkR, List.mem_cons, List.not_mem_nil, or_false] at hr
  subst hr
  exact ⟨[], .bool true, rfl, rfl, wakes_ok⟩
noncomputable def goX (F : Facts) (n : Nat) (a : AV) : Bool := saysM F tree wkR [] [] [(64, ⟨cellsX n, 3, true⟩)] 65 400 6 3 [a, iS 2, iS 1] (.b true)
noncomputable def goE (F : Facts) (a : AV) : Bool := saysM F tree wkR [] [] [] 64 400 6 3 [a, iS 2, iS 1] (.b true)
noncomputable def go2 (f : Bool → Facts) (n : Nat) : Bool := goX (f true) n (slX n) && goX (f false) n (slX n)
def fOut (n : Nat) (b : Bool) : Facts := ⟨[], par b ++ refl n⟩
def fBad (n k d : Nat) (b : Bool) : Facts := ⟨[], par b ++ (badF k d ++ (pre k ++ refl n))⟩
def fNeg (n : Nat) (b : Bool) : Facts := ⟨[], par b ++ (rnF true ++ (pre n ++ refl n))⟩
def fNone (n : Nat) (b : Bool) : Facts := ⟨[], par b ++ (rnF false ++ (eqs n 100 ++ (pre n ++ refl n)))⟩
def fAt (n j r : Nat) (b : Bool) : Facts := ⟨[(.e .rem .i64 rnd (.c (.ofNat (lastOf n))), (r : Int))], par b ++ (rnF false ++ (eqs n j ++ (pre n ++ refl n)))⟩
theorem go2_at {f : Bool → Facts} {n : Nat} (h : go2 f n = true) (b : Bool) : goX (f b) n (slX n) = true := by
  simp only [go2, Bool.and_eq_true] at h
  cases b
  · exact h.2
  · exact h.1
end Go.Proofs.Ytelidpbhonnllaa
