/-
  DERIVED. GIVEN WITH THE SEED: THE PROGRAM's TIES (one call each: nine closed facts by the kernel) AND EACH ROW's TIE, after the 31st guide's Derived/Test/Toyas{Tie, Card}.lean. No idea stands in it: it is a product of the set-up. Laid BY PROGRAM, IN A SANDBOX (cutbox-door.mjs). By AI agents, Wed Nov 11 2026. No macro, syntax, notation, axiom, sorry.
-/
import Derived.Test.YtnlhpiieihnbiaaDoorRows
import Derived.LaidByTextLater
import Derived.SevenTiedAt
import Derived.LaidSub
import Derived.LaidOnce
namespace Go.Proofs.YtnlhpiieihnbiaaDoor
open Go
set_option maxRecDepth 100000
theorem seatTie1 : Tryd.prog.laidByTextLater [("tryst/curve.d", Rows.laid_tryst_curve_d), ("tryst/curve.twiceD", Rows.laid_tryst_curve_twiceD), ("tryst/curve.baseX", Rows.laid_tryst_curve_baseX), ("tryst/curve.baseY", Rows.laid_tryst_curve_baseY), ("tryst/curve.order", Rows.laid_tryst_curve_order)] [.data, .data, .data, .data, .data] true :=
  Program.laidByTextLater_by_one 34 8 33 (by kernel_rfl) (by kernel_rfl) (by kernel_rfl) (by kernel_rfl) (by kernel_rfl) (by kernel_rfl) (fun _ _ => by kernel_rfl)
theorem noOwnUnsafe : Tryd.pinned.checked.prog.headLifts.contains "ownunsafe" = false := by kernel_rfl
theorem tie : Tryd.prog.laidByTextLater [("tryst/curve.twiceD", Rows.laid_tryst_curve_twiceD), ("tryst/curve.baseX", Rows.laid_tryst_curve_baseX), ("tryst/curve.baseY", Rows.laid_tryst_curve_baseY), ("tryst/curve.order", Rows.laid_tryst_curve_order)] [.data, .data, .data, .data] true :=
  Program.laidByTextLater.sub seatTie1 ["tryst/curve.twiceD", "tryst/curve.baseX", "tryst/curve.baseY", "tryst/curve.order"] (by kernel_rfl) (by kernel_rfl)
theorem curveNumbers_row_tie : Rows.curveNumbersRow.laidByTextAt .later Tryd.pinned [.data, .data, .data, .data] true :=
  OpenClaim.laidByTextAt_later rfl rfl tie noOwnUnsafe
theorem curveOrder_row_tie : Rows.curveOrderRow.laidByTextAt .later Tryd.pinned [.data, .data, .data, .data] true :=
  OpenClaim.laidByTextAt_later rfl rfl tie noOwnUnsafe
theorem curveRing_row_tie : Rows.curveRingRow.laidByTextAt .later Tryd.pinned [.data, .data, .data, .data] true :=
  OpenClaim.laidByTextAt_later rfl rfl tie noOwnUnsafe
theorem tie2 : Tryd.prog.laidByTextLater [("tryst/curve.d", Rows.laid_tryst_curve_d), ("tryst/curve.twiceD", Rows.laid_tryst_curve_twiceD), ("tryst/curve.baseX", Rows.laid_tryst_curve_baseX), ("tryst/curve.baseY", Rows.laid_tryst_curve_baseY)] [.data, .data, .data, .data] true :=
  Program.laidByTextLater.sub seatTie1 ["tryst/curve.d", "tryst/curve.twiceD", "tryst/curve.baseX", "tryst/curve.baseY"] (by kernel_rfl) (by kernel_rfl)
theorem curveGroup_row_tie : Rows.curveGroupRow.laidByTextAt .later Tryd.pinned [.data, .data, .data, .data] true :=
  OpenClaim.laidByTextAt_later rfl rfl tie2 noOwnUnsafe
theorem tie3 : Tryd.prog.laidByTextLater [("tryst/curve.d", Rows.laid_tryst_curve_d), ("tryst/curve.twiceD", Rows.laid_tryst_curve_twiceD), ("tryst/curve.baseX", Rows.laid_tryst_curve_baseX), ("tryst/curve.baseY", Rows.laid_tryst_curve_baseY), ("tryst/curve.order", Rows.laid_tryst_curve_order)] [.data, .data, .data, .data, .data] true :=
  Program.laidByTextLater.sub seatTie1 ["tryst/curve.d", "tryst/curve.twiceD", "tryst/curve.baseX", "tryst/curve.baseY", "tryst/curve.order"] (by kernel_rfl) (by kernel_rfl)
theorem curveMultiples_row_tie : Rows.curveMultiplesRow.laidByTextAt .later Tryd.pinned [.data, .data, .data, .data, .data] true :=
  OpenClaim.laidByTextAt_later rfl rfl tie3 noOwnUnsafe
theorem curveNumbersUpto_row_tie : Rows.curveNumbersUptoRow.laidByTextAt .later Tryd.pinned [.data, .data, .data, .data] true :=
  OpenClaim.laidByTextAt_later rfl rfl tie noOwnUnsafe
theorem curveGroupUpto_row_tie : Rows.curveGroupUptoRow.laidByTextAt .later Tryd.pinned [.data, .data, .data, .data] true :=
  OpenClaim.laidByTextAt_later rfl rfl tie2 noOwnUnsafe
theorem curveMultiplesUpto_row_tie : Rows.curveMultiplesUptoRow.laidByTextAt .later Tryd.pinned [.data, .data, .data, .data, .data] true :=
  OpenClaim.laidByTextAt_later rfl rfl tie3 noOwnUnsafe
theorem curveOrderUpto_row_tie : Rows.curveOrderUptoRow.laidByTextAt .later Tryd.pinned [.data, .data, .data, .data] true :=
  OpenClaim.laidByTextAt_later rfl rfl tie noOwnUnsafe
theorem curveRingUpto_row_tie : Rows.curveRingUptoRow.laidByTextAt .later Tryd.pinned [.data, .data, .data, .data] true :=
  OpenClaim.laidByTextAt_later rfl rfl tie noOwnUnsafe
end Go.Proofs.YtnlhpiieihnbiaaDoor
