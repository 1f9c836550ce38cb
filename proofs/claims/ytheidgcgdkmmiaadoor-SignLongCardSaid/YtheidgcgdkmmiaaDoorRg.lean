/-
  SIGNATURES: what the rows of a signature that is looked at answer. Own work.
-/
import Derived.Test.YtheidgcgdkmmiaaDoorRf
namespace Go.Proofs.YtheidgcgdkmmiaaDoor
open Go.Sh
open Go.ChangeShapes Go.WideShapes Go.ChangeAt Go.RowKit
set_option maxRecDepth 100000
/-! curve's Add of what is no point -/
def ones : Nat := 115792089237316195423570985008687907853269984665640564039457584007913129639935
theorem smul_red (n : Nat) : smul (n % ordL) pB0 = smul n pB0 := by
  have h := Nat.div_add_mod n ordL
  have e : smul n pB0 = (smul (ordL * (n / ordL)) pB0).add (smul (n % ordL) pB0) := by rw [← smul_add, h]
  rw [e, smul_ord, zero_add']
theorem sig_holds (k a r : Nat) : smul ((k * a + r) % ordL) pB0 = (smul r pB0).add (smul k (smul a pB0)) := by rw [smul_red, smul_add, smul_mul, add_comm']
/-! the numbers beside -/
def zF (p : Nat) (zz : Nat → Nat) : Wd := fun j => if j < 32 then 255 else if j < 64 then (((byL p).getD (j - 32) 0 : Nat) : Int) else (zz (j - 64) : Int)
structure Bk where
  q : Nat
  v : Nat
  f1 : Nat
  f2 : Nat
  k : Nat
  w : Nat
structure Bk.Ok (b : Bk) (g : Sg) (n : Nat) (zz : Nat → Nat) : Prop where
  hq : enc (smul g.k (smul g.a pB0)) = b.q
  hv : enc ((smul g.r pB0).add (smul g.k (smul g.a pB0))) = b.v
  h1 : b.f1 = dLo (zF g.p zz) (64 + n)
  h2 : b.f2 = dHi (zF g.p zz) (64 + n)
  hk : wS (dgt (zF g.p zz) (64 + n)) 64 % ordL = b.k
  hw : enc (smul b.k (smul g.a pB0)) = b.w
theorem bk_is (g : Sg) (n : Nat) (zz : Nat → Nat) : ∃ b : Bk, b.Ok g n zz := by
  obtain ⟨q, hq⟩ : ∃ x, enc (smul g.k (smul g.a pB0)) = x := ⟨_, rfl⟩
  obtain ⟨v, hv⟩ : ∃ x, enc ((smul g.r pB0).add (smul g.k (smul g.a pB0))) = x := ⟨_, rfl⟩
  obtain ⟨f1, h1⟩ : ∃ d, d = dLo (zF g.p zz) (64 + n) := ⟨_, rfl⟩
  obtain ⟨f2, h2⟩ : ∃ d, d = dHi (zF g.p zz) (64 + n) := ⟨_, rfl⟩
  obtain ⟨k, hk⟩ : ∃ r, wS (dgt (zF g.p zz) (64 + n)) 64 % ordL = r := ⟨_, rfl⟩
  obtain ⟨w, hw⟩ : ∃ x, enc (smul k (smul g.a pB0)) = x := ⟨_, rfl⟩
  exact ⟨⟨q, v, f1, f2, k, w⟩, hq, hv, h1, h2, hk, hw⟩
def Bk.e (b : Bk) (g : Sg) (zz : Nat → Nat) : Ex := ⟨[b.q, b.v, b.f1, b.f2, b.k, b.w], [b.k], fun _ => zF g.p zz⟩
section
variable {g : Sg} {b : Bk} {n : Nat} {zz : Nat → Nat}
theorem vfG_ok (H : g.Ok n zz) (B : b.Ok g n zz) : ∀ r ∈ vfG, r.OkG (nuX9 g (b.e g zz) n zz) Tryd.prog gl9 := by
  intro r hr
  simp only [vfG, List.mem_cons, List.not_mem_nil, or_false] at hr
  rcases hr with rfl | rfl | rfl
  · exact OkG_up upC9 (rowTimesPt (P := smul g.a pB0) H.kB H.hp B.hq (nu9_b 11 (by decide)) (nu9_b 4 (by decide)) (nu9_b 13 (by decide)))
  · exact OkG_up upC9 (rowAddPt H.hpl B.hq B.hv (nu9_b 8 (by decide)) (nu9_b 13 (by decide)) (nu9_b 14 (by decide)))
  · exact OkG_up upB9 (rowBase (n := g.s) (ordB H.sL) (by rw [← H.hs, sig_holds]; exact B.hv) (nu9_b 12 (by decide)) (nu9_bc 14 (by decide)))
theorem Bk.Ok.kB (B : b.Ok g n zz) : b.k < B4 := by rw [← B.hk]; exact modB _
end
end Go.Proofs.YtheidgcgdkmmiaaDoor
