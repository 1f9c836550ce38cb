/-
  The program's variables, as its text lays them: the sums' numbers. Own work.
-/
import Derived.Test.YtjdcaipgfolgoaaDoorXa
import Derived.Test.YtjdcaipgfolgoaaDoorCards
import Derived.Test.YtjdcaipgfolgoaaDoorTie
import Derived.LaidMore
import Derived.OpenShut
import Derived.Stop.Joined
import Derived.MakeChecks
namespace Go.Proofs.YtjdcaipgfolgoaaDoor
open Go.Sh
open Go.ChangeShapes Go.WideShapes Go.ChangeAt Go.RowKit
set_option maxRecDepth 100000

theorem own : ownKnob Tryd.prog.godebug = none := by kernel_rfl
theorem cells1 : Tryd.prog.cellsOf 5 = 1 := by kernel_rfl
theorem cells32 : Tryd.prog.cellsOf 40 = 1 := by kernel_rfl
theorem cells64 : Tryd.prog.cellsOf 45 = 1 := by kernel_rfl
theorem laidOut : laidOutB Tryd.prog = true := by kernel_rfl
/-- A variable of numbers. -/
theorem var_br {W : World} {nm : String} {g t ta te m : Nat} {k : IntKind} {cs : Array Value} {L : List Nat} {fuel : Nat} {q : List MemPlace} {d : DataW Unit} (hu : Tryd.prog.underlying ta = some (.array m te)) (hue : Tryd.prog.underlying te = some (.int k)) (hc1 : Tryd.prog.cellsOf te = 1) (hne : L ≠ [])
    (hg0 : Tryd.prog.globalNamed nm = some g) (ht0 : (Tryd.prog.globals[g]?).map (·.type) = some ta) (hl : d = .agg ((L.map fun n => ((n : Nat) : Int)).map fun z => .lit (.int k z))) {g' : Nat} (hg : Tryd.prog.globalNamed nm = some g') (ht : (Tryd.prog.globals[g']?).map (·.type) = some t) (hv : W.var? Tryd.prog nm = some cs)
    (hd : DataW.trod (fun _ => ()) Tryd.prog W 0 (fun _ => true) false fuel t cs.toList = some (d, q)) (e : Nat) (he : e < mapTag) : ∀ ν ρ, BR ν ρ W (ABlk.shut ⟨L.map fun n => .i k (nA n), e, true⟩) ⟨g, 0, 0⟩ := by
  intro ν ρ
  obtain rfl := Option.some.inj (hg0.symm.trans hg)
  obtain rfl := Option.some.inj (ht0.symm.trans ht)
  rw [hl] at hd
  refine br_cells (by intro h; exact hne (List.map_eq_nil_iff.1 h)) (by rw [Bool.eq_false_iff]; intro h; exact absurd (Nat.le_of_ble_eq_true h) (Nat.not_le_of_lt he)) fun j c hc => ?_
  simp only [List.getElem?_map, Option.map_eq_some_iff] at hc
  obtain ⟨z, hz, rfl⟩ := hc
  have hzz : (L.map fun n => ((n : Nat) : Int))[j]? = some (z : Int) := by
    rw [List.getElem?_map, hz]
    rfl
  have hcell := array_cells hu hue hc1 hd j z hzz
  refine ⟨.int k (z : Int), ?_, .i _ (nA z)⟩
  rw [Nat.zero_add, World.var?_cell hg hv j]
  simpa using hcell
theorem gk256 : Tryd.prog.globalNamed "tryst/sha.k256" = some 2 := by kernel_rfl
theorem gh256 : Tryd.prog.globalNamed "tryst/sha.h256" = some 0 := by kernel_rfl
theorem tk256 : (Tryd.prog.globals[2]?).map (·.type) = some 47 := by kernel_rfl
theorem th256 : (Tryd.prog.globals[0]?).map (·.type) = some 41 := by kernel_rfl
theorem lk256 {H : Type} : (Rows.laid_tryst_sha_k256 : DataW H) = .agg ((k256L.map fun n => ((n : Nat) : Int)).map fun z => .lit (.int .u32 z)) := by kernel_rfl
theorem lh256 {H : Type} : (Rows.laid_tryst_sha_h256 : DataW H) = .agg ((h256L.map fun n => ((n : Nat) : Int)).map fun z => .lit (.int .u32 z)) := by kernel_rfl
theorem laidT {W : World} (h : laidMetH Tryd.prog [("tryst/sha.k256", Rows.laid_tryst_sha_k256), ("tryst/sha.h256", Rows.laid_tryst_sha_h256)] W) : Laid gl256 W := by
  rw [MakeChecks.laidMetH_plain _ _ _ (by kernel_rfl)] at h
  obtain ⟨ps, ⟨g0, t0, cs0, f0, p0, q0, hg0, ht0, hv0, hd0, ⟨g1, t1, cs1, f1, p1, q1, hg1, ht1, hv1, hd1, _⟩, _⟩, _⟩ := h
  intro p hp
  simp only [gl256, List.mem_cons, List.not_mem_nil, or_false] at hp
  rcases hp with rfl | rfl
  · exact var_br Tryd.underlying41 Tryd.underlying40 cells32 (by decide) gh256 th256 lh256 hg1 ht1 hv1 hd1 _ (by decide)
  · exact var_br Tryd.underlying47 Tryd.underlying40 cells32 (by decide) gk256 tk256 lk256 hg0 ht0 hv0 hd0 _ (by decide)
end Go.Proofs.YtjdcaipgfolgoaaDoor
