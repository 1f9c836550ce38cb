/-
  CurveNumbers: what the machine answers, length by length. Own work.
-/
import Derived.Test.YtnlhpiieihnbiaaDoorNu
namespace Go.Proofs.YtnlhpiieihnbiaaDoor
open Go.Sh
open Go.ChangeShapes Go.WideShapes Go.ChangeAt Go.RowKit
set_option maxRecDepth 100000

def nuN (L : List Nat) (r : Nat) (f : Nat → Nat) (len : Nat) : Nat → Int := fun k => if k < 1000 then nuM 5 L [r] k else if k < 2000 then ((f (k - 1000) : Nat) : Int) else ((len : Nat) : Int)
theorem nuN_b (L : List Nat) (r : Nat) (f : Nat → Nat) (len j : Nat) (hj : j < 5) : conc2 (nuN L r f len) (rw8 j) = some (byt (L.getD j 0)) := rw8_of fun i hi => by
  have h : 32 * j + i < 1000 := by omega
  show (if 32 * j + i < 1000 then nuM 5 L [r] (32 * j + i) else _) = _
  rw [if_pos h]
  exact nuM_at 5 L [r] j hj i hi
theorem nuN_bc (L : List Nat) (r : Nat) (f : Nat → Nat) (len j : Nat) (hj : j < 5) : conc (nuN L r f len) (rw8 j) = some (byt (L.getD j 0)) := nuN_b L r f len j hj
theorem nuN_w (L : List Nat) (r : Nat) (f : Nat → Nat) (len : Nat) : conc2 (nuN L r f len) (rw4 40) = some (num r) := by kernel_rfl
theorem nuN_s (L : List Nat) (r : Nat) (f : Nat → Nat) (len i : Nat) (hi : i < 1000) : nuN L r f len (1000 + i) = ((f i : Nat) : Int) := by
  show (if 1000 + i < 1000 then _ else if 1000 + i < 2000 then ((f (1000 + i - 1000) : Nat) : Int) else _) = _
  rw [if_neg (by omega), if_pos (by omega), Nat.add_sub_cancel_left]

def celB (n : Nat) : List AV := (List.range n).map fun i => bt (1000 + i)
def cnP (t : Bool) : List Row := [⟨12, [rw8 0, rw8 1, rw8 2], rw8 4⟩, ⟨13, [rw8 0], .b t⟩]
def cnQ (t : Bool) : List Row := [⟨11, [rw8 0, rw8 1, rw8 2], rw8 4⟩, ⟨10, [rw8 4], .b true⟩, ⟨10, [rw8 0], .b t⟩, ⟨14, [], .b true⟩]
def cnT (n : Nat) (t : Bool) : List Row := ⟨22, [rw4 40], rw8 3⟩ :: ⟨24, [wAG 1000 n], rw4 40⟩ :: ⟨21, [rw4 40], rw8 3⟩ :: cnP t
def cnG (n : Nat) (t : Bool) : List Row := ⟨23, [wAG 1000 n], rw4 40⟩ :: ⟨10, [rw8 3], .b true⟩ :: cnQ t
noncomputable def cnGo (n : Nat) (a : AV) (t : Bool) : Bool := saysM noFacts tree (cnT n t) glN (cnG n t) [(64, ⟨celB n, 5, true⟩)] 65 1000 8 3 [a, rw8 0, rw8 1, rw8 2] (.b true)
noncomputable def cnTry (n : Nat) : Bool := cnGo n (slA 64 (celB n)) true && cnGo n (slA 64 (celB n)) false
def lenF (n : Nat) (b : Bool) : List (BinOp × AI × AI × Bool) := [(.gtr, .s 2000, .c (.ofNat n), b)]
theorem cn_over : saysM ⟨[], lenF 200 true⟩ tree [] glN [] [(64, ⟨[bt 1000], 5, true⟩)] 65 1000 8 3 [.sl 64 0 (.s 2000) .any, rw8 0, rw8 1, rw8 2] (.b true) = true := by kernel_rfl
theorem cn_long (t : Bool) : saysM ⟨[], lenF 200 false ++ lenF 64 true⟩ tree (cnP t) glN (cnQ t) [(64, ⟨[bt 1000], 5, true⟩)] 65 1000 8 3 [.sl 64 0 (.s 2000) .any, rw8 0, rw8 1, rw8 2] (.b true) = true := by cases t <;> kernel_rfl

theorem cn_r (a b : Nat) (h : (List.range 8).all (fun i => cnTry (a + i)) = true) (n : Nat) (h1 : a ≤ n) (h2 : n < a + 8) : cnTry n = true := by
  have := List.all_eq_true.1 h (n - a) (List.mem_range.2 (by omega))
  rwa [show a + (n - a) = n by omega] at this
theorem cn0 : (List.range 8).all (fun i => cnTry (1 + i)) = true := by kernel_rfl
theorem cn1 : (List.range 8).all (fun i => cnTry (9 + i)) = true := by kernel_rfl
theorem cn2 : (List.range 8).all (fun i => cnTry (17 + i)) = true := by kernel_rfl
theorem cn3 : (List.range 8).all (fun i => cnTry (25 + i)) = true := by kernel_rfl
theorem cn4 : (List.range 8).all (fun i => cnTry (33 + i)) = true := by kernel_rfl
theorem cn5 : (List.range 8).all (fun i => cnTry (41 + i)) = true := by kernel_rfl
theorem cn6 : (List.range 8).all (fun i => cnTry (49 + i)) = true := by kernel_rfl
theorem cn7 : (List.range 8).all (fun i => cnTry (57 + i)) = true := by kernel_rfl
theorem cn_all (n : Nat) (h0 : 0 < n) (h : n ≤ 64) : cnTry n = true := by
  by_cases g0 : n < 9
  · exact cn_r 1 9 cn0 n h0 g0
  by_cases g1 : n < 17
  · exact cn_r 9 9 cn1 n (by omega) g1
  by_cases g2 : n < 25
  · exact cn_r 17 9 cn2 n (by omega) g2
  by_cases g3 : n < 33
  · exact cn_r 25 9 cn3 n (by omega) g3
  by_cases g4 : n < 41
  · exact cn_r 33 9 cn4 n (by omega) g4
  by_cases g5 : n < 49
  · exact cn_r 41 9 cn5 n (by omega) g5
  by_cases g6 : n < 57
  · exact cn_r 49 9 cn6 n (by omega) g6
  · exact cn_r 57 9 cn7 n (by omega) (by omega)
noncomputable def cnGo0 (a : AV) (t : Bool) : Bool := saysM noFacts tree (cnT 0 t) glN (cnG 0 t) [] 64 1000 8 3 [a, rw8 0, rw8 1, rw8 2] (.b true)
theorem cn_nil (t : Bool) : cnGo0 .nsl t = true := by cases t <;> kernel_rfl
theorem cn_sle (t : Bool) : cnGo0 (.sle false) t = true := by cases t <;> kernel_rfl

end Go.Proofs.YtnlhpiieihnbiaaDoor
