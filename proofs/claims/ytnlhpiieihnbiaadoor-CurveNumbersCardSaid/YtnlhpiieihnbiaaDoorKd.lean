/-
  NAMES that mix bytes and words; the page's less. Own work.
-/
import Derived.Test.YtnlhpiieihnbiaaDoorJc
namespace Go.Proofs.YtnlhpiieihnbiaaDoor
open Go.Sh
set_option maxRecDepth 100000

theorem nuwRc (l : List Nat) (j : Nat) : conc (nuw l) (rw4 j) = some (num (l.getD j 0)) := nuwR l j

def kN (x : Nat) : AV := .ag ((numL x).map fun n => .i .u64 (.c (.ofNat n)))

theorem kN_val (ν : Nat → Int) (x : Nat) : conc2 ν (kN x) = some (num x) := by kernel_rfl

theorem kN_valc (ν : Nat → Int) (x : Nat) : conc ν (kN x) = some (num x) := by kernel_rfl

theorem lessY_says : says noFacts tree [⟨38, [rw4 0, rw4 1], .tp [rw4 2, .i .u64 (.c (.ofNat 1))]⟩] 100 3 31 [rw4 0, rw4 1] (heap0 [] gmax) (.b true) = true := by kernel_rfl

theorem lessN_says : says noFacts tree [⟨38, [rw4 0, rw4 1], .tp [rw4 2, .i .u64 (.c (.ofNat 0))]⟩] 100 3 31 [rw4 0, rw4 1] (heap0 [] gmax) (.b false) = true := by kernel_rfl

theorem less_val (x y s : Nat) (k : Nat) : conc (nuw [x, y, s]) (.tp [rw4 2, .i .u64 (.c (.ofNat k))]) = some (.tuple #[num s, u64 k]) := by
  show (concT (nuw [x, y, s]) [rw4 2, .i .u64 (.c (.ofNat k))]).map (fun vs => Value.tuple vs.toArray) = _
  simp only [concT, nuwR [x, y, s] 2]
  rfl

theorem less_core (x y s k : Nat) (b : Bool) (h : Pure Tryd.prog 38 [num x, num y] (.tuple #[num s, u64 k])) (hs : says noFacts tree [⟨38, [rw4 0, rw4 1], .tp [rw4 2, .i .u64 (.c (.ofNat k))]⟩] 100 3 31 [rw4 0, rw4 1] (heap0 [] gmax) (.b b) = true) : Pure Tryd.prog 31 [num x, num y] (.bool b) := by
  refine pure_of (ν := nuw [x, y, s]) (args := [rw4 0, rw4 1]) (noFacts_hold _) mixed tab_ok (fun r hr => ?_) hs (by simp [concT, nuwR]) rfl
  simp only [List.mem_cons, List.not_mem_nil, or_false] at hr
  subst hr
  exact ⟨[num x, num y], _, by simp [concT, nuwR], less_val x y s k, h⟩

theorem less_yes {x y : Nat} (hy : y < B4) (h : x < y) : Pure Tryd.prog 31 [num x, num y] (.bool true) := less_core x y _ 1 true (rsub_lt x y hy h) lessY_says

theorem less_no {x y : Nat} (hx : x < B4) (h : ¬ x < y) : Pure Tryd.prog 31 [num x, num y] (.bool false) := less_core x y _ 0 false (rsub_ge x y hx (Nat.le_of_not_lt h)) lessN_says

theorem rowOfP {ν : Nat → Int} {p r : AV} {x : Nat} (h1 : conc2 ν p = some (byt x)) (h2 : conc ν r = some (num x)) : Row.Ok ν Tryd.prog ⟨29, [p], r⟩ := ⟨[byt x], num x, by simp [concT, h1], h2, Of_ok x⟩

theorem rowLess {ν : Nat → Int} {p q : AV} {x y : Nat} (b : Bool) (h : Pure Tryd.prog 31 [num x, num y] (.bool b)) (h1 : conc2 ν p = some (num x)) (h2 : conc2 ν q = some (num y)) : Row.Ok ν Tryd.prog ⟨31, [p, q], .b b⟩ := ⟨[num x, num y], _, by simp [concT, h1, h2], rfl, h⟩

def nuM (m : Nat) (L l : List Nat) : Nat → Int := fun k => if k < 32 * m then nub L k else nuw l (k - 32 * m)

theorem nuM_b (m : Nat) (L l : List Nat) (j : Nat) (hj : j < m) : conc2 (nuM m L l) (rw8 j) = some (byt (L.getD j 0)) := by
  have e := mid_conc (ν := nuM m L l) (j := 32 * j) 32 (byL (L.getD j 0)) (fun i hi => by
    unfold nuM
    rw [if_pos (by omega)]
    exact nub_get L j i hi) rfl [] [] rfl
  rw [List.append_nil, List.append_nil] at e
  show (concL (nuM m L l) ((List.range 32).map fun i => bt (32 * j + i))).map (fun vs => Value.agg vs.toArray) = _
  rw [e]
  rfl

theorem nuM_bc (m : Nat) (L l : List Nat) (j : Nat) (hj : j < m) : conc (nuM m L l) (rw8 j) = some (byt (L.getD j 0)) := nuM_b m L l j hj

theorem nuM_wel (m : Nat) (L l : List Nat) (j : Nat) : concL (nuM m L l) (wel (8 * m + j)) = some ((numL (l.getD j 0)).map u64) := by
  have h : concT (nuw l) (wel j) = some (welV (l.getD j 0)) := nuw_wel l j
  have e : ∀ i, nuM m L l (4 * (8 * m + j) + i) = nuw l (4 * j + i) := by
    intro i
    unfold nuM
    rw [if_neg (by omega), show 4 * (8 * m + j) + i - 32 * m = 4 * j + i by omega]
  show some [Value.int .u64 (nuM m L l (4 * (8 * m + j) + 0)), .int .u64 (nuM m L l (4 * (8 * m + j) + 1)), .int .u64 (nuM m L l (4 * (8 * m + j) + 2)), .int .u64 (nuM m L l (4 * (8 * m + j) + 3))] = _
  rw [e, e, e, e]
  exact h

theorem nuM_w (m : Nat) (L l : List Nat) (j : Nat) : conc2 (nuM m L l) (rw4 (8 * m + j)) = some (num (l.getD j 0)) := by
  show (concL (nuM m L l) (wel (8 * m + j))).map (fun vs => Value.agg vs.toArray) = _
  rw [nuM_wel]
  rfl

theorem nuM_wc (m : Nat) (L l : List Nat) (j : Nat) : conc (nuM m L l) (rw4 (8 * m + j)) = some (num (l.getD j 0)) := nuM_w m L l j

def cN (x : Nat) : List AV := (numL x).map fun n => .i .u64 (.c (.ofNat n))

theorem cN_val (ν : Nat → Int) (x : Nat) : concL ν (cN x) = some ((numL x).map u64) := by kernel_rfl

theorem bit_at (e j r : Nat) (hr : r < 64) : e / 2 ^ (64 * j) % 2 ^ 64 / 2 ^ r % 2 = e / 2 ^ (64 * j + r) % 2 := by
  have h1 : (e / 2 ^ (64 * j) % 2 ^ 64).testBit r = e.testBit (64 * j + r) := by
    rw [Nat.testBit_mod_two_pow, decide_eq_true hr, Bool.true_and, Nat.testBit_div_two_pow, Nat.add_comm]
  rw [Nat.testBit_eq_decide_div_mod_eq, Nat.testBit_eq_decide_div_mod_eq] at h1
  have h2 := decide_eq_decide.1 h1
  omega

end Go.Proofs.YtnlhpiieihnbiaaDoor
