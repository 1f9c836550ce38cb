/-
  Laws over texts: their rows, their names. Own work.
-/
import Derived.Test.YtjdcaipgfolgoaaDoorXc
namespace Go.Proofs.YtjdcaipgfolgoaaDoor
open Go.Sh
open Go.ChangeShapes Go.WideShapes Go.ChangeAt Go.RowKit
set_option maxRecDepth 100000

abbrev Cm := BinOp × AI × AI × Bool
def outB (b : Nat) : Nat × ABlk := (b, ⟨rowC .u8 (nmA 0) 32, eO, true⟩)
def outC (b : Nat) : Nat × ABlk := (b, ⟨rowC .u8 (nmA 100) 64, eB, true⟩)
def slO (b : Nat) : AV := .sl b 0 (nA 32) (.ex 32)
def slC (b : Nat) : AV := .sl b 0 (nA 64) (.ex 64)
theorem rows_app {ν : Nat → Int} {P : Program} {gl : Gl} {A B : List RowM} (ha : ∀ r ∈ A, r.Ok ν P gl) (hb : ∀ r ∈ B, r.Ok ν P gl) : ∀ r ∈ A ++ B, r.Ok ν P gl := fun r hr => (List.mem_append.1 hr).elim (ha r) (hb r)
/-- A text that is too long. -/
def txO : Nat × ABlk := (64, ⟨[], 0, false⟩)
def slO0 : AV := .sl 64 0 (.s 0) .any
def fO (a : Nat) : Facts := ⟨[], [(.gtr, .s 0, nA a, true)], []⟩
theorem fO_hold {n a : Nat} (h : a < n) : (fO a).Hold (fun _ => (n : Int)) := by
  refine ⟨fun p hp => (by cases hp), fun p hp => ?_, fun p hp => by cases hp⟩
  simp only [fO, List.mem_cons, List.not_mem_nil, or_false] at hp
  subst hp
  show decide ((n : Int) > ((a : Nat) : Int)) = true
  exact decide_eq_true (by omega)
theorem over_need {w : World} {cb o c n : Nat} {z : Wd} (hle : n ≤ c) (hz : CellsAt w .u8 cb o n z) :
    NeedOk (fun _ => (n : Int)) (embF (at1 64 ⟨cb, o, 0⟩)) w [txO] ∧ VR (fun _ => (n : Int)) (embF (at1 64 ⟨cb, o, 0⟩)) slO0 (.slice (some ⟨cb, o, none⟩) n c) := by
  obtain ⟨C, ty, fz, hC, hz⟩ := hz
  refine ⟨fun p hp => ?_, .sl 64 0 _ .any ⟨cb, o, 0⟩ n c (at1_at (by decide)) rfl trivial hle⟩
  simp only [List.mem_cons, List.not_mem_nil, or_false] at hp
  subst hp
  exact ⟨⟨cb, o, 0⟩, at1_at (by decide), ⟨fun _ => ⟨C, ty, fz, hC, fun j c hc => by simp [txO, ABlk.shut] at hc, fun h => by cases h⟩, fun h => by exact absurd h (by decide), fun h => by exact absurd h (by decide)⟩⟩
theorem need_txP : ∀ p ∈ [txP], p.1 < 65 ∧ p.2.elem ≠ mapTag ∧ ∃ us, ∀ ν, concL ν p.2.cells = some us := fun p hp => by
  simp only [List.mem_cons, List.not_mem_nil, or_false] at hp
  subst hp
  exact ⟨by decide, by decide, [], fun _ => rfl⟩
theorem need_txO : ∀ p ∈ [txO], p.1 < 65 ∧ p.2.elem ≠ mapTag ∧ ∃ us, ∀ ν, concL ν p.2.cells = some us := fun p hp => by
  simp only [List.mem_cons, List.not_mem_nil, or_false] at hp
  subst hp
  exact ⟨by decide, by decide, [], fun _ => rfl⟩
/-! Sums under names of their own. -/
theorem wrap_u8 (x : Int) : ∃ b : Nat, IntKind.u8.wrap x = (b : Int) ∧ b < 256 := by
  refine ⟨(x % 256).toNat, ?_, by omega⟩
  simp only [IntKind.wrap, IntKind.bits, IntKind.signed]
  simp
  omega
theorem sum_bytes (z : Wd) (n m : Nat) : Bytes (sum256 z n) m := fun _ _ => wrap_u8 _
section
variable {ν : Nat → Int} {X U : Wd}
theorem outB_textG (hX : ∀ j, j < 32 → ν j = X j) {b : Nat} {need : Gl} (hm : outB b ∈ need) : IsText ν need (slO b) 32 X := isText_row (off := 0) (n := 32) hm (by decide) (by decide) (by decide) fun j hj => by show ν (0 + (0 + j)) = _; rw [Nat.zero_add, Nat.zero_add]; exact hX j hj
theorem outC_textG (hU : ∀ j, j < 64 → ν (100 + j) = U j) {b : Nat} {need : Gl} (hm : outC b ∈ need) : IsText ν need (slC b) 64 U := isText_row (off := 0) (n := 64) hm (by decide) (by decide) (by decide) fun j hj => by show ν (100 + (0 + j)) = _; rw [Nat.zero_add]; exact hU j hj
end
end Go.Proofs.YtjdcaipgfolgoaaDoor
