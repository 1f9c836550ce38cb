/-
  SlotsExact: runs where the numbers are no members, or nobody is meant. Own work.
-/
import Derived.Test.YtelidpbhonnllaaEa
namespace Go.Proofs.Ytelidpbhonnllaa
open Go.Sh
set_option maxRecDepth 100000

theorem e_nil (b : Bool) : goE (fOut 0 b) .nsl = true := by cases b <;> kernel_rfl
theorem e_sle (b : Bool) : goE (fOut 0 b) (.sle false) = true := by cases b <;> kernel_rfl
theorem e_long : goX ⟨[], [(.gtr, .s 3, .c (.ofNat 50), true)]⟩ 1 (.sl 64 0 (.s 3) .any) = true := by kernel_rfl
theorem e_out0 : (List.range 21).all (fun i => go2 (fOut (9 + i)) (9 + i)) = true := by kernel_rfl
theorem e_out1 : (List.range 21).all (fun i => go2 (fOut (30 + i)) (30 + i)) = true := by kernel_rfl
noncomputable def badAll (n : Nat) : Bool := (List.range n).all fun k => (List.range 3).all fun d => Nat.beq k 0 && Nat.beq d 1 || go2 (fBad n k d) n
theorem e_bad1 : badAll 1 = true := by kernel_rfl
theorem e_neg1 : go2 (fNeg 1) 1 = true := by kernel_rfl
theorem e_none1 : go2 (fNone 1) 1 = true := by kernel_rfl
theorem e_bad2 : badAll 2 = true := by kernel_rfl
theorem e_neg2 : go2 (fNeg 2) 2 = true := by kernel_rfl
theorem e_none2 : go2 (fNone 2) 2 = true := by kernel_rfl
theorem e_bad3 : badAll 3 = true := by kernel_rfl
theorem e_neg3 : go2 (fNeg 3) 3 = true := by kernel_rfl
theorem e_none3 : go2 (fNone 3) 3 = true := by kernel_rfl
theorem e_bad4 : badAll 4 = true := by kernel_rfl
theorem e_neg4 : go2 (fNeg 4) 4 = true := by kernel_rfl
theorem e_none4 : go2 (fNone 4) 4 = true := by kernel_rfl
theorem e_bad5 : badAll 5 = true := by kernel_rfl
theorem e_neg5 : go2 (fNeg 5) 5 = true := by kernel_rfl
theorem e_none5 : go2 (fNone 5) 5 = true := by kernel_rfl
theorem e_bad6 : badAll 6 = true := by kernel_rfl
theorem e_neg6 : go2 (fNeg 6) 6 = true := by kernel_rfl
theorem e_none6 : go2 (fNone 6) 6 = true := by kernel_rfl
theorem e_bad7 : badAll 7 = true := by kernel_rfl
theorem e_neg7 : go2 (fNeg 7) 7 = true := by kernel_rfl
theorem e_none7 : go2 (fNone 7) 7 = true := by kernel_rfl
theorem e_bad8 : badAll 8 = true := by kernel_rfl
theorem e_neg8 : go2 (fNeg 8) 8 = true := by kernel_rfl
theorem e_none8 : go2 (fNone 8) 8 = true := by kernel_rfl
end Go.Proofs.Ytelidpbhonnllaa
