/-
  DERIVED. GIVEN WITH THE SEED: THE PROGRAM's TIES (one call each: nine closed facts by the kernel) AND EACH ROW's TIE, after the 31st guide's Derived/Test/Toyas{Tie, Card}.lean. No idea stands in it: it is a product of the set-up. Laid BY PROGRAM, IN A SANDBOX (cutbox-door.mjs). By AI agents, Wed Nov 11 2026. No macro, syntax, notation, axiom, sorry.
-/
import Derived.Test.YtheidgcgdkmmiaaDoorRows
import Derived.LaidByTextLater
import Derived.SevenTiedAt
import Derived.LaidSub
import Derived.LaidOnce
namespace Go.Proofs.YtheidgcgdkmmiaaDoor
open Go
set_option maxRecDepth 100000
theorem seatTie1 : Tryd.prog.laidByTextLater [("tryst/curve.d", Rows.laid_tryst_curve_d), ("tryst/curve.twiceD", Rows.laid_tryst_curve_twiceD), ("tryst/curve.baseX", Rows.laid_tryst_curve_baseX), ("tryst/curve.baseY", Rows.laid_tryst_curve_baseY), ("tryst/curve.order", Rows.laid_tryst_curve_order), ("tryst/sha.k512", Rows.laid_tryst_sha_k512), ("tryst/sha.h512", Rows.laid_tryst_sha_h512)] [.data, .data, .data, .data, .data, .data, .data] true :=
  Program.laidByTextLater_by_one 44 8 81 (by kernel_rfl) (by kernel_rfl) (by kernel_rfl) (by kernel_rfl) (by kernel_rfl) (by kernel_rfl) (fun _ _ => by kernel_rfl)
theorem noOwnUnsafe : Tryd.pinned.checked.prog.headLifts.contains "ownunsafe" = false := by kernel_rfl
theorem tie : Tryd.prog.laidByTextLater [("tryst/curve.twiceD", Rows.laid_tryst_curve_twiceD), ("tryst/curve.baseX", Rows.laid_tryst_curve_baseX), ("tryst/curve.baseY", Rows.laid_tryst_curve_baseY), ("tryst/curve.order", Rows.laid_tryst_curve_order), ("tryst/sha.k512", Rows.laid_tryst_sha_k512), ("tryst/sha.h512", Rows.laid_tryst_sha_h512)] [.data, .data, .data, .data, .data, .data] true :=
  Program.laidByTextLater.sub seatTie1 ["tryst/curve.twiceD", "tryst/curve.baseX", "tryst/curve.baseY", "tryst/curve.order", "tryst/sha.k512", "tryst/sha.h512"] (by kernel_rfl) (by kernel_rfl)
theorem signExact_row_tie : Rows.signExactRow.laidByTextAt .later Tryd.pinned [.data, .data, .data, .data, .data, .data] true :=
  OpenClaim.laidByTextAt_later rfl rfl tie noOwnUnsafe
theorem tie2 : Tryd.prog.laidByTextLater [("tryst/curve.d", Rows.laid_tryst_curve_d), ("tryst/curve.twiceD", Rows.laid_tryst_curve_twiceD), ("tryst/curve.baseX", Rows.laid_tryst_curve_baseX), ("tryst/curve.baseY", Rows.laid_tryst_curve_baseY), ("tryst/curve.order", Rows.laid_tryst_curve_order), ("tryst/sha.k512", Rows.laid_tryst_sha_k512), ("tryst/sha.h512", Rows.laid_tryst_sha_h512)] [.data, .data, .data, .data, .data, .data, .data] true :=
  Program.laidByTextLater.sub seatTie1 ["tryst/curve.d", "tryst/curve.twiceD", "tryst/curve.baseX", "tryst/curve.baseY", "tryst/curve.order", "tryst/sha.k512", "tryst/sha.h512"] (by kernel_rfl) (by kernel_rfl)
theorem signLooks_row_tie : Rows.signLooksRow.laidByTextAt .later Tryd.pinned [.data, .data, .data, .data, .data, .data, .data] true :=
  OpenClaim.laidByTextAt_later rfl rfl tie2 noOwnUnsafe
theorem signBack_row_tie : Rows.signBackRow.laidByTextAt .later Tryd.pinned [.data, .data, .data, .data, .data, .data, .data] true :=
  OpenClaim.laidByTextAt_later rfl rfl tie2 noOwnUnsafe
theorem signLong_row_tie : Rows.signLongRow.laidByTextAt .later Tryd.pinned [.data, .data, .data, .data, .data, .data, .data] true :=
  OpenClaim.laidByTextAt_later rfl rfl tie2 noOwnUnsafe
theorem signTwice_row_tie : Rows.signTwiceRow.laidByTextAt .later Tryd.pinned [.data, .data, .data, .data, .data, .data, .data] true :=
  OpenClaim.laidByTextAt_later rfl rfl tie2 noOwnUnsafe
theorem signNeutral_row_tie : Rows.signNeutralRow.laidByTextAt .later Tryd.pinned [.data, .data, .data, .data, .data, .data, .data] true :=
  OpenClaim.laidByTextAt_later rfl rfl tie2 noOwnUnsafe
theorem signExactUpto_row_tie : Rows.signExactUptoRow.laidByTextAt .later Tryd.pinned [.data, .data, .data, .data, .data, .data] true :=
  OpenClaim.laidByTextAt_later rfl rfl tie noOwnUnsafe
theorem signLooksUpto_row_tie : Rows.signLooksUptoRow.laidByTextAt .later Tryd.pinned [.data, .data, .data, .data, .data, .data, .data] true :=
  OpenClaim.laidByTextAt_later rfl rfl tie2 noOwnUnsafe
theorem signBackUpto_row_tie : Rows.signBackUptoRow.laidByTextAt .later Tryd.pinned [.data, .data, .data, .data, .data, .data, .data] true :=
  OpenClaim.laidByTextAt_later rfl rfl tie2 noOwnUnsafe
theorem signLongUpto_row_tie : Rows.signLongUptoRow.laidByTextAt .later Tryd.pinned [.data, .data, .data, .data, .data, .data, .data] true :=
  OpenClaim.laidByTextAt_later rfl rfl tie2 noOwnUnsafe
theorem signTwiceUpto_row_tie : Rows.signTwiceUptoRow.laidByTextAt .later Tryd.pinned [.data, .data, .data, .data, .data, .data, .data] true :=
  OpenClaim.laidByTextAt_later rfl rfl tie2 noOwnUnsafe
theorem signNeutralUpto_row_tie : Rows.signNeutralUptoRow.laidByTextAt .later Tryd.pinned [.data, .data, .data, .data, .data, .data, .data] true :=
  OpenClaim.laidByTextAt_later rfl rfl tie2 noOwnUnsafe
end Go.Proofs.YtheidgcgdkmmiaaDoor
