/-
  TERMCOUNTS: what the walks need. Own work.
-/
import Derived.Test.YtenllpaochcjfaaDoorTY
namespace Go.Proofs.YtenllpaochcjfaaDoor
open Go.RowKit Go.Maps
set_option maxRecDepth 100000
theorem cput1 : put [] (1, 1, []) = (0, 0, [(1, 1, [])]) := by decide +kernel
theorem zeros_snoc (j : Nat) : (List.replicate (j + 1) (0 : Int)).map (Value.int .i64) = (List.replicate j (0 : Int)).map (Value.int .i64) ++ [.int .i64 0] := by
  rw [List.replicate_succ', List.map_append]
  rfl
theorem node_at {F : Nat → Prop} {w : World} {ab : Nat} {L : List Tm} (A : Ar w ab L F) (i : Nat) (t : Tm) (hi : L[i]? = some t) : Calls Tryd.prog 52 #[.pointer (some ⟨ab, 0, none⟩), .int .i64 i] w fun e w' => ∃ p c, e = .returned (.tuple #[.agg #[.int .i64 t.1, .int .i64 t.2.1, .slice p t.2.2.length c], .int .i64 0]) ∧ w'.ownsRow w.heap.size 3 1 (.slice p t.2.2.length c) t.2.2.length (t.2.2.map (Value.int .i64)) ∧ Below w.heap.size w w' := by
  obtain ⟨h, rfl⟩ := List.getElem?_eq_some_iff.1 hi
  exact node_ok A i h
def Told (y : Int) (L' : List Tm) (t : Tm) : Prop := ∃ q : Nat, y = q ∧ L'[q]? = some t
theorem put_told {L : List Tm} {t : Tm} (h : shape t = 0) (hf : fitsIn L.length t) (hr : L.length < 1048576) : ∃ y L', put L t = (y, 0, L') ∧ Told y L' t := by
  by_cases hin : t ∈ L
  · refine ⟨_, _, put_in h hf hin, L.idxOf t, rfl, ?_⟩
    have hi := List.idxOf_lt_length_iff.2 hin
    rw [List.getElem?_eq_getElem hi, List.getElem_idxOf]
  · refine ⟨_, _, put_new h hf hin (by omega), L.length, rfl, ?_⟩
    rw [List.getElem?_append_right (Nat.le_refl _)]
    simp
theorem counts_end {F0 F1 : Nat → Prop} {w w1 w2 wr w4 w6 : World} (B0 : Below w.heap.size w w1) (G0 : Hid (∀ k, F0 k → w.heap.size ≤ k)) (K1 : Keeps F0 w1 w2) (G1 : Hid (∀ k, F1 k → F0 k ∨ w1.heap.size ≤ k)) (hB : Below w2.heap.size w2 wr) (K3 : Keeps F1 wr w4) (B6 : Below w4.heap.size w4 w6) : Below w.heap.size w w6 := by
  have b1 := B0.size
  have b2 := K1.size
  have b3 := hB.size
  have b4 := K3.size
  exact (((B0.trans (K1.below b1 G0.out)).trans (hB.mono (by omega))).trans (K3.below (by omega) (foot_below G0.out G1.out b1))).trans (B6.mono (by omega))
end Go.Proofs.YtenllpaochcjfaaDoor
