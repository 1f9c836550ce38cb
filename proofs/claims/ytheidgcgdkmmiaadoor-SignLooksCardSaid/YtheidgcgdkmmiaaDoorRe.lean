/-
 SIGNATURES: wakes, evaluated. Own work.
-/
import Derived.Test.YtheidgcgdkmmiaaDoorRw
namespace Go.Proofs.YtheidgcgdkmmiaaDoor
open Go.Sh
open Go.ChangeShapes Go.WideShapes Go.ChangeAt Go.RowKit
set_option maxRecDepth 100000
def kX (j : Nat) : AI := nA ((byL wx).getD j 0)
def rowSeedW (b : Nat) : RowM := rowSum (.sl b 0 (nA 32) (.ex 32)) [(b, ⟨rowC .u8 kX 32, e32, true⟩)] (nmA 32)
def wkM : List RowM := [rowSeedW 67, rowSeedW 76, sg1E 85, sg2E 95]
theorem rowSeedW_ok {b : Nat} : (rowSeedW b).Ok (nuS9 gW 0 zz0) Tryd.prog gl9 := by
 refine rowSum_ok (n := 32) (z := zS wx) (isText_row (off := 0) (n := 32) List.mem_cons_self (by decide) (by decide) (by decide) fun j hj => ?_) (by decide) fun j hj => ?_
 ·rw [Nat.zero_add]
  rfl
 ·exact nu9_dg (L := sgL gW) (j := 1) (by decide) gW_ok.h1 gW_ok.h2 hj
def wkB : List (Nat × Nat × Nat) := [(4, 0, 215), (4, 1, 90), (4, 31, 26), (8, 0, 229), (8, 1, 86), (12, 31, 11)]
def wkF : Facts := ⟨[], wkB.map fun p => (.eql, .s (32 * p.1 + p.2.1), nA p.2.2, true), []⟩
theorem wkF_hold : wkF.Hold (nuS9 gW 0 zz0) := by
 refine ⟨fun p hp => (by cases hp), fun p hp => ?_, fun p hp => by cases hp⟩
 obtain ⟨q, hq, rfl⟩ := List.mem_map.1 hp
 have h : q.1 < 125 ∧ q.2.1 < 32 ∧ (byL ((sgL gW).getD q.1 0)).getD q.2.1 0 = q.2.2 := by
  simp only [wkB, List.mem_cons, List.not_mem_nil, or_false] at hq
  rcases hq with rfl | rfl | rfl | rfl | rfl | rfl <;> exact ⟨by decide, by decide, by kernel_rfl⟩
 show (nuS9 gW 0 zz0 (32 * q.1 + q.2.1) == ((q.2.2 : Nat) : Int)) = true
 rw [show nuS9 gW 0 zz0 (32 * q.1 + q.2.1) = _ from nu9_at (L := sgL gW) h.1 h.2.1, h.2.2]
 exact beq_self_eq_true _
theorem wkM_ok : ∀ r ∈ wkM, r.Ok (nuS9 gW 0 zz0) Tryd.prog gl9 := by
 intro r hr
 simp only [wkM, List.mem_cons, List.not_mem_nil, or_false] at hr
 rcases hr with rfl | rfl | rfl | rfl
 ·exact rowSeedW_ok
 ·exact rowSeedW_ok
 ·exact sg1E_ok gW_ok
 ·exact sg2E_ok gW_ok
theorem wk9_go : saysB wkF tree sgT gl9 sgG wkM [] 64 300 8 15 [] (.b true) = true := by kernel_rfl
theorem wakes9 : qa4 Tryd.prog gl9 15 [] (.bool true) :=
 have h := law_row9 (ν := nuS9 gW 0 zz0) (by decide) wkF_hold sgT_ok (sgG_ok gW_ok) wkM_ok wk9_go (fun p hp => by cases hp) rfl
 ⟨h.1, fun _ hw => yes_ofN (ρ := embF fun _ => none) h hw (fun p hp => by cases hp) (lr_of (vs := []) trivial)⟩
theorem rowWk9_ok {ν : Nat → Int} : rowWk9.OkG ν Tryd.prog gl9 := ⟨[], .bool true, rfl, rfl, wakes9⟩
end Go.Proofs.YtheidgcgdkmmiaaDoor
