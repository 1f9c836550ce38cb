/-
  "abc"; a text that came in. Own work.
-/
import Derived.Test.YtjdcaipgfolgoaaDoorXb
namespace Go.Proofs.YtjdcaipgfolgoaaDoor
open Go.Sh
open Go.ChangeShapes Go.WideShapes Go.ChangeAt Go.RowKit
set_option maxRecDepth 100000

def eU : Nat := 5
/-! A text that came in. -/
theorem cellsAt_of {w : World} {k : IntKind} {b o n : Nat} {z : Wd} (h0 : 0 < n) (h : ∀ i, i < n → w.cell? ⟨b, o + i, none⟩ = some (.int k (z i))) : CellsAt w k b o n z := by
  have h1 := h 0 h0
  unfold World.cell? at h1
  split at h1
  · rename_i C t fz hC
    refine ⟨C, t, fz, hC, fun j hj => ?_⟩
    have h2 := h j hj
    unfold World.cell? at h2
    rw [hC] at h2
    simpa using h2
  all_goals cases h1
theorem bytes_of {zs : List Int} (hw : ∀ z ∈ zs, (Lit.int .u8 z).wf = true) (n : Nat) : Bytes (fun i => zs.getD i 0) n := by
  obtain ⟨f, hf, hz⟩ := nat_bytes hw
  exact fun j _ => ⟨f j, hz j, hf j⟩
theorem text_need {ν : Nat → Int} {w : World} {cb o c n : Nat} {z : Wd} (hL : ν (pinL T0) = (n : Int)) (hB : ∀ j, j < n → ν (pinB T0 j) = z j) (hle : n ≤ c) (hz : CellsAt w .u8 cb o n z) :
    NeedOk ν (embF (at1 64 ⟨cb, o, 0⟩)) w [txP] ∧ VR ν (embF (at1 64 ⟨cb, o, 0⟩)) slP0 (.slice (some ⟨cb, o, none⟩) n c) := by
  obtain ⟨C, ty, fz, hC, hz⟩ := hz
  refine ⟨fun p hp => ?_, .sl 64 0 _ .any ⟨cb, o, 0⟩ n c (at1_at (by decide)) hL trivial hle⟩
  simp only [List.mem_cons, List.not_mem_nil, or_false] at hp
  subst hp
  refine ⟨⟨cb, o, 0⟩, at1_at (by decide), ⟨fun _ => ⟨C, ty, fz, hC, fun j c hc => by simp [txP, ABlk.shut] at hc, fun h => by cases h⟩, fun h => by exact absurd h (by decide), fun _ => ?_⟩⟩
  unfold PinB
  rw [if_pos (by decide)]
  have hpn : Sh.Pinned ν w T0 ⟨cb, o, 0⟩ := by
    refine ⟨C, ty, fz, hC, fun j hj => ?_⟩
    rw [hL] at hj
    have hj : j < n := by omega
    rw [T0_K, hB j hj]
    exact hz j hj
  exact hpn
/-- The names: sums below, a text's row, its twin's. -/
def nuL (lo : Wd) (n : Nat) (z : Wd) : Nat → Int := fun k => if k < 10000 then lo k else nuG n z n z k
section
variable {lo z : Wd} {n : Nat}
theorem nuL_lo {k : Nat} (h : k < 10000) : nuL lo n z k = lo k := if_pos h
theorem nuL_L0 : nuL lo n z (pinL T0) = (n : Int) := (if_neg (by rw [T0_L]; decide)).trans nuG_L0
theorem nuL_B0 {j : Nat} (h : j < 1000000000000) : nuL lo n z (pinB T0 j) = z j := (if_neg (by rw [T0_B]; omega)).trans (nuG_B0 h)
theorem nuL_L1 : nuL lo n z (pinL T1) = (n : Int) := (if_neg (by rw [T1_L]; decide)).trans nuG_L
theorem nuL_B1 (j : Nat) : nuL lo n z (pinB T1 j) = z j := (if_neg (by rw [T1_B]; omega)).trans (nuG_B j)
end
def txQ1 : Nat × ABlk := (65, ⟨[], T1, false⟩)
def slQ1 : AV := .sl 65 0 (.s (pinL T1)) .any
theorem tx0_text {lo z : Wd} {n : Nat} {need : Gl} (hm : txP ∈ need) (h0 : 0 < n) (hn : n < 100000000000) : IsText (nuL lo n z) need slP0 n z := isText_pin hm ⟨by decide, by decide⟩ T0_K h0 nuL_L0 fun j hj => nuL_B0 (by omega)
theorem tx1_text {lo z : Wd} {n : Nat} {need : Gl} (hm : txQ1 ∈ need) (h0 : 0 < n) (hn : n < 100000000000) : IsText (nuL lo n z) need slQ1 n z := isText_pin hm ⟨by decide, by decide⟩ T1_K h0 nuL_L1 fun j hj => nuL_B1 j
end Go.Proofs.YtjdcaipgfolgoaaDoor
