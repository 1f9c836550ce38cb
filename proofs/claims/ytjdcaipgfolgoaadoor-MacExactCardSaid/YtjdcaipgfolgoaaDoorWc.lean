/-
  The sums of a text that is told: its words and its rounds, from a table. Own work.
-/
import Derived.Test.YtjdcaipgfolgoaaDoorSg
namespace Go.Proofs.YtjdcaipgfolgoaaDoor
open Go.Sh
open Go.ChangeShapes Go.WideShapes Go.RowKit
set_option maxRecDepth 100000

def rdT (T : List Int) : Wd := fun j => T.getD j 0
def chkW (p : Pr) (T : List Int) (m : Nat) : Bool := (List.range m).all fun i => wI p (rdT T) (16 + i) == rdT T (16 + i)
def chkV (p : Pr) (K W : Wd) (T : List (List Int)) (m : Nat) : Bool := (List.range m).all fun i => (List.range 8).all fun j => rdI p (K i) (W i) (rdT (T.getD i [])) j == rdT (T.getD (i + 1) []) j
theorem wI_congr (p : Pr) {W W' : Wd} {t : Nat} (ht : 16 ≤ t) (h : ∀ j, j < t → W j = W' j) : wI p W t = wI p W' t := by
  unfold wI
  rw [h (t - 2) (by omega), h (t - 7) (by omega), h (t - 15) (by omega), h (t - 16) (by omega)]
theorem wst_tab (p : Pr) {W0 : Wd} {T : List Int} {m : Nat} (h0 : ∀ j, j < 16 → W0 j = rdT T j) (hc : chkW p T m = true) : ∀ i, i ≤ m → ∀ j, j < 16 + i → wst p W0 i j = rdT T j
  | 0, _, j, hj => h0 j hj
  | i + 1, hi, j, hj => by
    have ih := wst_tab p h0 hc i (by omega)
    show (if j = 16 + i then wI p (wst p W0 i) (16 + i) else wst p W0 i j) = _
    by_cases hji : j = 16 + i
    · rw [if_pos hji, hji, wI_congr p (by omega) ih]
      exact eq_of_beq (List.all_eq_true.1 hc i (List.mem_range.2 (by omega)))
    · rw [if_neg hji]
      exact ih j (by omega)
theorem rdI_congr (p : Pr) {k w : Int} {v v' : Wd} (h : ∀ j, j < 8 → v j = v' j) {j : Nat} (hj : j < 8) : rdI p k w v j = rdI p k w v' j := by
  have e : ∀ i, i < 8 → v i = v' i := h
  match j, hj with
  | 0, _ => simp only [rdI, t1I, t2I]; rw [e 0 (by decide), e 1 (by decide), e 2 (by decide), e 4 (by decide), e 5 (by decide), e 6 (by decide), e 7 (by decide)]
  | 1, _ => exact e 0 (by decide)
  | 2, _ => exact e 1 (by decide)
  | 3, _ => exact e 2 (by decide)
  | 4, _ => simp only [rdI, t1I]; rw [e 3 (by decide), e 4 (by decide), e 5 (by decide), e 6 (by decide), e 7 (by decide)]
  | 5, _ => exact e 4 (by decide)
  | 6, _ => exact e 5 (by decide)
  | 7, _ => exact e 6 (by decide)
theorem vst_tab (p : Pr) {K W W' v0 : Wd} {T : List (List Int)} {m : Nat} (h0 : ∀ j, j < 8 → v0 j = rdT (T.getD 0 []) j) (hW : ∀ i, i < m → W i = W' i) (hc : chkV p K W' T m = true) : ∀ i, i ≤ m → ∀ j, j < 8 → vst p K W v0 i j = rdT (T.getD i []) j
  | 0, _, j, hj => h0 j hj
  | i + 1, hi, j, hj => by
    have ih := vst_tab p h0 hW hc i (by omega)
    show rdI p (K i) (W i) (vst p K W v0 i) j = _
    rw [rdI_congr p ih hj, hW i (by omega)]
    exact eq_of_beq (List.all_eq_true.1 (List.all_eq_true.1 hc i (List.mem_range.2 (by omega))) j (List.mem_range.2 hj))
end Go.Proofs.YtjdcaipgfolgoaaDoor
