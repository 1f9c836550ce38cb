/-
 SUMS: what a block's words hang on. Own work.
-/
import Derived.Test.YtheidgcgdkmmiaaDoorBa
namespace Go.Proofs.YtheidgcgdkmmiaaDoor
open Go.Sh
open Go.ChangeShapes Go.WideShapes Go.RowKit
set_option maxRecDepth 100000
theorem vst_congr {p : Pr} {K W h h' : Wd} (hh : ∀ j, j < 8 → h j = h' j) : ∀ n j, j < 8 → vst p K W h n j = vst p K W h' n j
 | 0, j, hj => hh j hj
 | n + 1, j, hj => by
   have e := vst_congr (p := p) (K := K) (W := W) hh n
   have k1 : t1I p (K n) (W n) (vst p K W h n) = t1I p (K n) (W n) (vst p K W h' n) := by
    unfold t1I
    rw [e 4 (by decide), e 5 (by decide), e 6 (by decide), e 7 (by decide)]
   have k2 : t2I p (vst p K W h n) = t2I p (vst p K W h' n) := by
    unfold t2I
    rw [e 0 (by decide), e 1 (by decide), e 2 (by decide)]
   show rdI p (K n) (W n) (vst p K W h n) j = rdI p (K n) (W n) (vst p K W h' n) j
   match j, hj with
   | 0, _ => show adI p _ _ = adI p _ _; rw [k1, k2]
   | 1, _ => exact e 0 (by decide)
   | 2, _ => exact e 1 (by decide)
   | 3, _ => exact e 2 (by decide)
   | 4, _ => show adI p _ _ = adI p _ _; rw [k1, e 3 (by decide)]
   | 5, _ => exact e 4 (by decide)
   | 6, _ => exact e 5 (by decide)
   | 7, _ => exact e 6 (by decide)
theorem comp_congr {p : Pr} {K W h h' : Wd} (hh : ∀ j, j < 8 → h j = h' j) (n j : Nat) (hj : j < 8) : comp p K W h n j = comp p K W h' n j := by
 unfold comp
 rw [hh j hj, vst_congr hh n j hj]
end Go.Proofs.YtheidgcgdkmmiaaDoor
