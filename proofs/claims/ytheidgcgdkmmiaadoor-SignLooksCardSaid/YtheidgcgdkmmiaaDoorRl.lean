/-
 SIGNATURES: the page's rows of a signature. Own work.
-/
import Derived.Test.YtheidgcgdkmmiaaDoorRe
import Derived.Test.YtheidgcgdkmmiaaDoorMe
import Derived.Test.YtheidgcgdkmmiaaDoorMh
namespace Go.Proofs.YtheidgcgdkmmiaaDoor
open Go.Sh
open Go.ChangeShapes Go.WideShapes Go.ChangeAt Go.RowKit
set_option maxRecDepth 100000
def rowPS (x : AV) (need : Gl) (g : Nat → AI) : RowM := ⟨28, [x], need, [.v (.ag (rowC .u8 g 64))]⟩
def ps2 (b t : Nat) : RowM := rowPS (slE b (tg t) 0) [wO b t] (nmA 288)
def ps2E (b : Nat) : RowM := rowPS (.sl b 0 (nA 64) (.own 1)) [(b, ⟨rowC .u8 plA 64, eU, true⟩)] (nmA 288)
/-! what they answer -/
theorem rowPS_ok {ν : Nat → Int} {need : Gl} {x : AV} {n : Nat} {z : Wd} {g : Nat → AI} (hx : IsText ν need x n z) (hb : Bytes z n) (hn : n < 100000000000) (hg : ∀ j, j < 64 → (g j).val ν = qbd z n j) : (rowPS x need g).Ok ν Tryd.prog gl9 := by
 refine ⟨⟨_, Tryd.func28, by kernel_rfl, by kernel_rfl⟩, fun ρ w vs hw hnd hl => ?_⟩
 obtain ⟨u, rfl, hu⟩ := one_arg hl
 exact (PSum256_okQ (hx ρ w u hnd hu) hb (by omega)).2.mono fun e w' ⟨he, hB⟩ => ⟨[_], he, packR hg, hB⟩
theorem byL_b (x : Nat) {j : Nat} (h : j < 32) : ∃ b : Nat, (((byL x).getD j 0 : Nat) : Int) = (b : Int) ∧ b < 256 := ⟨_, rfl, by rw [byL_get _ j h]; exact Nat.mod_lt _ (by decide)⟩
theorem zK_b {p q : Nat} {zz : Nat → Nat} (hz : ∀ j, zz j < 256) (n : Nat) : Bytes (zK p q zz) n := fun j _ => by
 unfold zK
 split
 ·exact byL_b _ (by assumption)
 ·split
  ·exact byL_b _ (by omega)
  ·exact ⟨_, rfl, hz _⟩
theorem rowPBase {ν : Nat → Int} {p r : AV} {x e : Nat} (hx : x < B4) (he : enc (smul x pB0) = e) (h1 : qag ν p = some (byt x)) (h2 : conc ν r = some (byt e)) : Row.Ok ν Tryd.prog ⟨27, [p], r⟩ := ⟨[byt x], byt e, by simp [qai, h1], h2, PBase_ok _ _ hx he⟩
end Go.Proofs.YtheidgcgdkmmiaaDoor
