/-
  SIGNATURES: what the rows of a signature that is looked at answer. Own work.
-/
import Derived.Test.YtheidgcgdkmmiaaDoorRf
namespace Go.Proofs.YtheidgcgdkmmiaaDoor
open Go.Sh
open Go.ChangeShapes Go.WideShapes Go.ChangeAt Go.RowKit
set_option maxRecDepth 100000
/-! curve's Add of what is no point -/
def ones : Nat := 115792089237316195423570985008687907853269984665640564039457584007913129639935
theorem smul_red (n : Nat) : smul (n % ordL) pB0 = smul n pB0 := by
  have h := Nat.div_add_mod n ordL
  have e : smul n pB0 = (smul (ordL * (n / ordL)) pB0).add (smul (n % ordL) pB0) := by rw [← smul_add, h]
  rw [e, smul_ord, zero_add']
/-! the numbers beside -/
def zF (p : Nat) (zz : Nat → Nat) : Wd := fun j => if j < 32 then 255 else if j < 64 then (((byL p).getD (j - 32) 0 : Nat) : Int) else (zz (j - 64) : Int)
structure Bk where
  q : Nat
  v : Nat
  f1 : Nat
  f2 : Nat
  k : Nat
  w : Nat
structure Bk.Ok (b : Bk) (g : Sg) (n : Nat) (zz : Nat → Nat) : Prop where
  hq : enc (smul g.k (smul g.a pB0)) = b.q
  hv : enc ((smul g.r pB0).add (smul g.k (smul g.a pB0))) = b.v
  h1 : b.f1 = dLo (zF g.p zz) (64 + n)
  h2 : b.f2 = dHi (zF g.p zz) (64 + n)
  hk : wS (dgt (zF g.p zz) (64 + n)) 64 % ordL = b.k
  hw : enc (smul b.k (smul g.a pB0)) = b.w
def Bk.e (b : Bk) (g : Sg) (zz : Nat → Nat) : Ex := ⟨[b.q, b.v, b.f1, b.f2, b.k, b.w], [b.k], fun _ => zF g.p zz⟩
section
variable {g : Sg} {b : Bk} {n : Nat} {zz : Nat → Nat}
theorem Bk.Ok.kB (B : b.Ok g n zz) : b.k < B4 := by rw [← B.hk]; exact modB _
theorem cat64 {e : Ex} {cells : List AI} {z : Wd} (hl : cells.length = 64) (h1 : ∀ j x, cells[j]? = some x → z j = x.val (nuX9 g e n zz)) (h2 : ∀ j, z (64 + j) = (zz j : Int)) {t T : Nat} (ht : t = 2 ∨ t = 4) (hT : 12 < T) (hz : e.zx T = z) (hn : n < 1000000000) : 0 ≤ nuX9 g e n zz (pinL (tg T)) ∧ lst (nuX9 g e n zz) (tg T) = lst0 (nuX9 g e n zz) 0 ++ cells.map (AI.val (nuX9 g e n zz)) ++ lst0 (nuX9 g e n zz) (tg t) := by
  have e1 : sgN n T = 64 + n := by unfold sgN; rw [if_neg (by omega), if_neg (by omega)]
  have e2 : sgN n t = n := by unfold sgN; rw [if_pos (by omega)]
  have hL : nuX9 g e n zz (pinL (tg T)) = ((64 + n : Nat) : Int) := by rw [← e1]; exact nu9_L (t := T) (by omega)
  have hl2 : nuX9 g e n zz (pinL (tg t)) = (n : Int) := (nu9_L (t := t) (by omega)).trans (congrArg (fun n : Nat => (n : Int)) e2)
  have zT : ∀ j, j < 1099511627774 → nuX9 g e n zz (pinB (tg T) j) = z j := fun j hj => (nu9_B (by omega) hj).trans (by unfold sgZ; rw [if_neg (by omega), if_neg (by omega), if_neg (by omega), hz])
  have zt : ∀ j, j < 1099511627774 → nuX9 g e n zz (pinB (tg t) j) = (zz j : Int) := fun j hj => (nu9_B (by omega) hj).trans (by unfold sgZ; rw [if_pos (by omega)])
  refine ⟨by rw [hL]; omega, ?_⟩
  rw [lst0_zero, List.nil_append, lst0_row _ (tgT (t := t) (by omega) (by omega)).1]
  refine lst_pre (cells := cells) (by rw [hl]; exact hL) hl2 (fun j y hy => ?_) fun j hj => ?_
  · have hj : j < 64 := by
      have := (List.getElem?_eq_some_iff.1 hy).1
      omega
    rw [zT j (by omega)]
    exact h1 j y hy
  · rw [hl, zT _ (by omega), zt j (by omega)]
    exact h2 j
end
end Go.Proofs.YtheidgcgdkmmiaaDoor
