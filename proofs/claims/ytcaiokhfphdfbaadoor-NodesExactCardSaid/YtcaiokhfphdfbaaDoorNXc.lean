/-
  NodesExact: the law over what its functions answer. Own work.
-/
import Derived.Test.YtcaiokhfphdfbaaDoorNXb
import Derived.Test.YtcaiokhfphdfbaaDoorCards
import Derived.Test.YtcaiokhfphdfbaaDoorTie
import Derived.LaidMore
import Derived.OpenShut
import Derived.Stop.Joined
import Derived.MakeChecks
namespace Go.Proofs.YtcaiokhfphdfbaaDoor
open Go.Sh
open Go.ChangeShapes Go.WideShapes Go.ChangeAt Go.RowKit
set_option maxRecDepth 100000

/-! the level of any number -/
def lNeg : Facts := ⟨[], [(.lss, .s 0, nC 0, true), (.gtr, .s 0, nC 0, false)]⟩
theorem l_neg1 : saysG lNeg tree [] glD [] 400 6 7 [iS 0] (iC 0) = true := by kernel_rfl
theorem l_neg2 : says lNeg tree [] 400 6 4 [iS 0] (heap0 [] gmax) (iC 0) = true := by kernel_rfl
theorem lev_ok {x : Int} (hx : x < 9223372036854775808) : ∃ k : Nat, (x < 0 → k = 0) ∧ PureG Tryd.prog glD 7 [I64 x] (I64 (k : Int)) ∧ Pure Tryd.prog 4 [I64 x] (I64 (k : Int)) := by
  by_cases h0 : x < 0
  · have hF : lNeg.Hold fun _ => x := by
      refine ⟨fun p hp => (by cases hp), fun p hp => ?_⟩
      simp only [lNeg, List.mem_cons, List.not_mem_nil, or_false] at hp
      rcases hp with rfl | rfl
      · exact decide_eq_true h0
      · exact decide_eq_false (show ¬ x > 0 by omega)
    exact ⟨0, fun _ => rfl, pureG_of hF mixed tab_ok glD_ok (fun r hr => by cases hr) (fun r hr => by cases hr) l_neg1 rfl rfl, pure_of hF mixed tab_ok (fun r hr => by cases hr) l_neg2 rfl rfl⟩
  · obtain ⟨a, rfl⟩ := Int.eq_ofNat_of_zero_le (Int.not_lt.1 h0)
    obtain ⟨k, _, h1, h2⟩ := level_ok (x := a) (by omega)
    exact ⟨k, fun h => absurd h h0, h1, h2⟩

/-! rows -/
def rowsP (N I : AV) (h k q : Bool) : List Row := [⟨4, [iS 0], iS 3⟩, ⟨10, [iS 0, I], .b h⟩, ⟨13, [iS 0], .tp [iS 4, iS 5, .b k]⟩, ⟨16, [iS 0, N], .tp [iS 6, .b q]⟩, ⟨17, [iS 0, N], .tp [iS 7, .b q]⟩]
def rowsG (N I : AV) (h k q : Bool) : List Row := [⟨7, [iS 0], iS 3⟩, ⟨9, [iS 0, I], .b h⟩, ⟨11, [iS 0], .tp [iS 4, eA k]⟩, ⟨12, [iS 0], .tp [iS 5, eA k]⟩, ⟨14, [iS 0, N], .tp [iS 6, eA q]⟩, ⟨15, [iS 0, N], .tp [iS 7, eA q]⟩, ⟨19, [], .b true⟩]
def rowsN : List Row := [⟨6, [iS 1], .b false⟩, ⟨5, [iS 1], .b false⟩, ⟨8, [iS 1], iC 0⟩]
def parP (n : Nat) : List Row := (List.range (2 * n - 1)).map fun x => ⟨16, [iC x, iC n], .tp [iC (parT x n).1, .b (parT x n).2.2]⟩
def parG (n : Nat) : List Row := (List.range (2 * n - 1)).map fun x => ⟨14, [iC x, iC n], .tp [iC (parT x n).1, eA (parT x n).2.2]⟩
def fC (g : Bool) : List Cm := [(.geq, .s 0, nC 0, g), (.neq, .s 3, .s 3, false), (.neq, .s 4, .s 4, false), (.neq, .s 5, .s 5, false), (.neq, .s 6, .s 6, false), (.neq, .s 7, .s 7, false)] ++ (match g with | true => [] | false => [(.neq, .s 3, nC 0, false)])
def fI (n : Nat) (a : Bool) : List Cm := [(.lss, .s 2, nC 0, a), (.geq, .s 2, nC n, !a)]
noncomputable def law0 (g h k q : Bool) : Bool := saysG ⟨[], fC g⟩ tree (rowsN ++ rowsP (iS 1) (iS 2) h k q) glD (rowsG (iS 1) (iS 2) h k q) 400 8 3 [iS 0, iS 1, iS 2] (.b true)
noncomputable def law1 (n : Nat) (a g h k q : Bool) : Bool := saysG ⟨[], fI n a ++ fC g⟩ tree (rowsP (iC n) (iS 2) h k q) glD (rowsG (iC n) (iS 2) h k q) 400 8 3 [iS 0, iC n, iS 2] (.b true)
noncomputable def law2 (n i : Nat) (g h k q : Bool) : Bool := saysG ⟨[], fC g⟩ tree (rowsP (iC n) (iC i) h k q ++ parP n) glD (rowsG (iC n) (iC i) h k q ++ parG n) 400 8 3 [iS 0, iC n, iC i] (.b true)
theorem law0_all : (b2.all fun g => b2.all fun h => b2.all fun k => b2.all fun q => law0 g h k q) = true := by kernel_rfl
theorem law1_all : (ns.all fun n => b2.all fun a => b2.all fun g => b2.all fun h => b2.all fun k => b2.all fun q => law1 n a g h k q) = true := by kernel_rfl
theorem law2_1 : ((List.range 1).all fun i => b2.all fun g => b2.all fun h => b2.all fun k => b2.all fun q => law2 1 i g h k q) = true := by kernel_rfl
theorem law2_2 : ((List.range 2).all fun i => b2.all fun g => b2.all fun h => b2.all fun k => b2.all fun q => law2 2 i g h k q) = true := by kernel_rfl
theorem law2_4 : ((List.range 4).all fun i => b2.all fun g => b2.all fun h => b2.all fun k => b2.all fun q => law2 4 i g h k q) = true := by kernel_rfl
theorem law2_8t : ((List.range 8).all fun i => b2.all fun h => b2.all fun k => b2.all fun q => law2 8 i true h k q) = true := by kernel_rfl
theorem law2_8f : ((List.range 8).all fun i => b2.all fun h => b2.all fun k => b2.all fun q => law2 8 i false h k q) = true := by kernel_rfl

/-! the table that the program's text lays -/
theorem own : ownKnob Tryd.prog.godebug = none := by kernel_rfl
theorem gDeb : Tryd.prog.globalNamed "math/bits.deBruijn64tab" = some 0 := by kernel_rfl
theorem tDeb : (Tryd.prog.globals[0]?).map (·.type) = some 43 := by kernel_rfl
theorem cellsU8 : Tryd.prog.cellsOf 5 = 1 := by kernel_rfl
theorem deb_laid {H : Type} : (Rows.laid_math_bits_deBruijn64tab : DataW H) = .agg (deb.map fun z => .lit (.int .u8 z)) := rfl
theorem laidD {W : World} (h : laidMetH Tryd.prog [("math/bits.deBruijn64tab", Rows.laid_math_bits_deBruijn64tab)] W) : Laid glD W := by
  rw [MakeChecks.laidMetH_plain _ _ _ (by kernel_rfl)] at h
  obtain ⟨ps, ⟨g0, t0, cs0, f0, p0, q0, hg0, ht0, hv0, hd0, _⟩, _⟩ := h
  obtain rfl := Option.some.inj (gDeb.symm.trans hg0)
  obtain rfl := Option.some.inj (tDeb.symm.trans ht0)
  rw [deb_laid] at hd0
  intro p hp ν ρ
  simp only [glD, List.mem_cons, List.not_mem_nil, or_false] at hp
  subst hp
  refine br_cells (by intro h; have := congrArg List.length h; simp [ABlk.shut, debA, deb] at this) (by decide) fun j c hc => ?_
  have hd : debA[j]? = some c := hc
  simp only [debA, List.getElem?_map, Option.map_eq_some_iff] at hd
  obtain ⟨z, hz, rfl⟩ := hd
  refine ⟨.int .u8 z, ?_, .i _ (.c z)⟩
  have hcc := array_cells Tryd.underlying43 Tryd.underlying5 cellsU8 hd0 j z hz
  have hcell := World.var?_cell hg0 hv0 j
  rw [Nat.zero_add, hcell]
  simpa using hcc
end Go.Proofs.YtcaiokhfphdfbaaDoor
