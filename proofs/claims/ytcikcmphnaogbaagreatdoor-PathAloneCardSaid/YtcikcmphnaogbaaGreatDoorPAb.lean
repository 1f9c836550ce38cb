/-
  PathAlone: the table that the program's text lays. Own work.
-/
import Derived.Test.YtcikcmphnaogbaaGreatDoorPAa
import Derived.Test.YtcikcmphnaogbaaGreatDoorCards
import Derived.Test.YtcikcmphnaogbaaGreatDoorTie
import Derived.LaidMore
import Derived.LaidSub
import Derived.LaidHandle
import Derived.OpenShut
import Derived.Stop.Joined
import Derived.MakeChecks
namespace Go.Proofs.YtcikcmphnaogbaaGreatDoor
open Go.Sh
open Go.ChangeShapes Go.WideShapes Go.ChangeAt Go.RowKit
set_option maxRecDepth 100000

/-! the table that the program's text lays -/
theorem own : ownKnob Tryz.prog.godebug = none := by kernel_rfl
theorem gDeb : Tryz.prog.globalNamed "math/bits.deBruijn64tab" = some 1 := by kernel_rfl
theorem tDeb : (Tryz.prog.globals[1]?).map (·.type) = some 157 := by kernel_rfl
theorem cellsU8 : Tryz.prog.cellsOf 5 = 1 := by kernel_rfl
theorem deb_laid {H : Type} : (Rows.laid_math_bits_deBruijn64tab : DataW H) = .agg (deb.map fun z => .lit (.int .u8 z)) := rfl
theorem laidD {W : World} (h : laidMetH Tryz.prog [("math/bits.deBruijn32tab", Rows.laid_math_bits_deBruijn32tab), ("math/bits.deBruijn64tab", Rows.laid_math_bits_deBruijn64tab), ("internal/strconv.uint64pow10", Rows.laid_internal_strconv_uint64pow10), ("errors.errorType", Rows.laid_errors_errorType)] W) : Laid glD W := by
  have h1 := (laidMetH_iff.1 h).1
  replace h1 : laidMet Tryz.prog [("math/bits.deBruijn32tab", Rows.laid_math_bits_deBruijn32tab), ("math/bits.deBruijn64tab", Rows.laid_math_bits_deBruijn64tab), ("internal/strconv.uint64pow10", Rows.laid_internal_strconv_uint64pow10)] W := h1
  obtain ⟨ps, ⟨g9, t9, cs9, f9, p9, q9, _, _, _, _, ⟨g0, t0, cs0, f0, p0, q0, hg0, ht0, hv0, hd0, _⟩, _⟩, _⟩ := h1
  obtain rfl := Option.some.inj (gDeb.symm.trans hg0)
  obtain rfl := Option.some.inj (tDeb.symm.trans ht0)
  rw [deb_laid] at hd0
  intro p hp ν ρ
  simp only [glD, List.mem_cons, List.not_mem_nil, or_false] at hp
  subst hp
  refine br_cells (by intro h; have := congrArg List.length h; simp [ABlk.shut, debA, deb] at this) (by decide) fun j c hc => ?_
  have hd : debA[j]? = some c := hc
  simp only [debA, List.getElem?_map, Option.map_eq_some_iff] at hd
  obtain ⟨z, hz, rfl⟩ := hd
  refine ⟨.int .u8 z, ?_, .i _ (.c z)⟩
  have hcc := array_cells Tryz.underlying157 Tryz.underlying5 cellsU8 hd0 j z hz
  have hcell := World.var?_cell hg0 hv0 j
  rw [Nat.zero_add, hcell]
  simpa using hcc
end Go.Proofs.YtcikcmphnaogbaaGreatDoor
