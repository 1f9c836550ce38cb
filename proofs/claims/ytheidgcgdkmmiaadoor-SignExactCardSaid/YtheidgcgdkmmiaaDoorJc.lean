/-
 THE CURVE: what its functions answer of points; how a law is told whose row lists the curve's variables. Own work.
-/
import Derived.Test.YtheidgcgdkmmiaaDoorJb
import Derived.Test.YtheidgcgdkmmiaaDoorCards
import Derived.Test.YtheidgcgdkmmiaaDoorTie
import Derived.LaidMore
import Derived.Stop.Joined
import Derived.MakeChecks
namespace Go.Proofs.YtheidgcgdkmmiaaDoor
open Go.Sh
open Go.ChangeShapes Go.WideShapes Go.ChangeAt Go.RowKit
set_option maxRecDepth 100000
/-! read, of points and of others -/
theorem enc_parts (P : Pt) : pmask (enc P) = P.y.val ∧ enc P / two255 = P.x.val % 2 := by
 have h := val_lt P.y
 unfold enc pmask two255
 unfold prime at h
 omega
theorem root_of_sq {x : F} {xx : Nat} (h : em xx = x * x) (hx : x ≠ 0) : ∃ r, rootBy e8 e4 xx = some r := by
 refine root_there (pow_half_sq (z := x.val) ?_ ?_)
 ·have e : em (x.val * x.val % prime) = em xx := by rw [em_mul, em_val, h]
  have := em_eq.1 e
  rwa [Nat.mod_mod] at this
 ·intro h0
  have : em xx = 0 := em_is_zero.2 h0
  rw [h] at this
  rcases fz this with h1 | h1 <;> exact hx h1
theorem root_em {xx r : Nat} (h : rootBy e8 e4 xx = some r) : em r * em r = em xx ∧ r < prime ∧ r % 2 = 0 := by
 obtain ⟨h1, h2, h3⟩ := root_some h
 refine ⟨?_, h1, h2⟩
 rw [← em_mul, h3, em_mod]
/-! rows of these -/
theorem rep_read (P : Pt) : Rep (em4 P.x.val P.y.val 1 (P.x * P.y).val) P := by
 unfold em4
 rw [em_val, em_val, em_val]
 refine ⟨by show em 1 ≠ 0; decide +kernel, ?_, ?_, ?_⟩
 ·show P.x = P.x * em 1
  have : em 1 = 1 := rfl
  rw [this]
  grobner
 ·show P.y = P.y * em 1
  have : em 1 = 1 := rfl
  rw [this]
  grobner
 ·show P.x * P.y = P.x * P.y * em 1
  have : em 1 = 1 := rfl
  rw [this]
  grobner
theorem em4_of (p : P4) : em4 p.x.val p.y.val p.z.val p.t.val = p := by
 unfold em4
 rw [em_val, em_val, em_val, em_val]
theorem rowLayG {ν : Nat → Int} {p r : AV} {a b c d : Nat} (la : a < B4) (lb : b < B4) (lc : c < B4) {P : Pt} (h : Rep (em4 a b c d) P) (h1 : conc2 ν p = some (ptv a b c d)) (h2 : conc ν r = some (byt (enc P))) : Row.OkG ν Tryd.prog glB ⟨45, [p], r⟩ := ⟨[ptv a b c d], _, by simp [concT, h1], h2, layP_ok la lb lc h⟩
theorem vB (x : F) : x.val < B4 := pBl (val_lt x)
/-! Times -/
theorem rowTimesG {ν : Nat → Int} {p q r : AV} {n a b c d : Nat} (la : a < B4) (lb : b < B4) (lc : c < B4) (ld : d < B4) {s : P4} (h : ftimes (em4 a b c d) n 256 = s) (h1 : conc2 ν p = some (byt n)) (h2 : conc2 ν q = some (ptv a b c d)) (h3 : conc ν r = some (ptv s.x.val s.y.val s.z.val s.t.val)) : Row.OkG ν Tryd.prog glB ⟨46, [p, q], r⟩ := ⟨[byt n, ptv a b c d], _, by simp [concT, h1, h2], h3, timesP_ok n a b c d la lb lc ld s h⟩
theorem B4_is : B4 = 2 ^ 256 := by decide
/-! Base -/
def bXn : Nat := 15112221349535400772501151409588531511454012693041857206046113283949847762202
def bYn : Nat := 46316835694926478169428394003475163141307993866256225615783033603165251855960
def bTn : Nat := 46827403850823179245072216630277197565144205554125654976674165829533817101731
def bPt : AV := .ag (c8 bXn ++ (c8 bYn ++ (c8 1 ++ c8 bTn)))
def bsT : List Row := [⟨72, [kB bXn, kB bYn], kB bTn⟩]
theorem bs_says : saysG noFacts tree bsT glB [] 100 3 47 [] bPt = true := by kernel_rfl
theorem bPt_val (ν : Nat → Int) : conc2 ν bPt = some (ptv bXn bYn 1 bTn) := ptv_of (c8_val _ bXn) (c8_val _ bYn) (c8_val _ 1) (c8_val _ bTn) ⟨_, _, _, rfl⟩
theorem base_ok : PureG Tryd.prog glB 47 [] (ptv bXn bYn 1 bTn) := by
 refine pureG_of (ν := nub []) (args := []) (noFacts_hold _) mixed tab_ok glB_ok (fun r hr => ?_) (fun r hr => by cases hr) bs_says rfl (bPt_val _)
 simp only [bsT, List.mem_cons, List.not_mem_nil, or_false] at hr
 subst hr
 exact rowMulB (x := bXn) (y := bYn) (by decide) (by decide) (kB_val _ _) (kB_val _ _) (by rw [show bXn * bYn % prime = bTn by decide +kernel]; exact kB_valc _ _)
theorem rep_base : Rep (em4 bXn bYn 1 bTn) pB0 := by
 refine ⟨by decide +kernel, by decide +kernel, by decide +kernel, by decide +kernel⟩
def baT : List Row := [⟨47, [], bPt⟩, ⟨46, [rw8 0, bPt], rwP 1 2 3 4⟩, ⟨45, [rwP 1 2 3 4], rw8 5⟩]
theorem ba_says : saysG noFacts tree [] glB baT 100 3 23 [rw8 0] (rw8 5) = true := by kernel_rfl
theorem base_core (n : Nat) (s : P4) (hs : ftimes (em4 bXn bYn 1 bTn) n 256 = s) (R : Pt) (hR : Rep s R) : PureG Tryd.prog glB 23 [byt n] (byt (enc R)) := by
 have hR' : Rep (em4 s.x.val s.y.val s.z.val s.t.val) R := by rw [em4_of]; exact hR
 refine pureG_of (ν := nub [n, s.x.val, s.y.val, s.z.val, s.t.val, enc R]) (args := [rw8 0]) (noFacts_hold _) mixed tab_ok glB_ok (fun r hr => by cases hr) (fun r hr => ?_) ba_says (by simp [concT, nubR8]) (nubR8c _ 5)
 simp only [baT, List.mem_cons, List.not_mem_nil, or_false] at hr
 rcases hr with rfl | rfl | rfl
 ·exact ⟨[], _, rfl, bPt_val _, base_ok⟩
 ·exact rowTimesG (by decide) (by decide) (by decide) (by decide) hs (nubR8 _ 0) (bPt_val _) (nubPc _ 1 2 3 4)
 ·exact rowLayG (vB _) (vB _) (vB _) hR' (nubP _ 1 2 3 4) (nubR8c _ 5)
theorem Base_ok (n : Nat) (hn : n < B4) : PureG Tryd.prog glB 23 [byt n] (byt (enc (smul n pB0))) :=
 base_core n _ rfl _ (ftimes_all rep_base (by rw [← B4_is]; exact hn))
/-! wakes -/
theorem rowBase {ν : Nat → Int} {p r : AV} {n e : Nat} (hn : n < B4) (he : enc (smul n pB0) = e) (h1 : conc2 ν p = some (byt n)) (h2 : conc ν r = some (byt e)) : Row.OkG ν Tryd.prog glB ⟨23, [p], r⟩ := ⟨[byt n], _, by simp [concT, h1], by rw [he]; exact h2, Base_ok n hn⟩
theorem gT : Tryd.prog.globalNamed "tryst/curve.twiceD" = some 5 := by kernel_rfl
theorem gX : Tryd.prog.globalNamed "tryst/curve.baseX" = some 2 := by kernel_rfl
theorem gY : Tryd.prog.globalNamed "tryst/curve.baseY" = some 3 := by kernel_rfl
theorem tT : (Tryd.prog.globals[5]?).map (·.type) = some 22 := by kernel_rfl
theorem tX : (Tryd.prog.globals[2]?).map (·.type) = some 22 := by kernel_rfl
theorem tY : (Tryd.prog.globals[3]?).map (·.type) = some 22 := by kernel_rfl
def zsOf (x : Nat) : List Int := (byL x).map fun n => ((n : Nat) : Int)
theorem lT {H : Type} : (Rows.laid_tryst_curve_twiceD : DataW H) = .agg ((zsOf twD).map fun z => .lit (.int .u8 z)) := by kernel_rfl
theorem lX {H : Type} : (Rows.laid_tryst_curve_baseX : DataW H) = .agg ((zsOf bXn).map fun z => .lit (.int .u8 z)) := by kernel_rfl
theorem lY {H : Type} : (Rows.laid_tryst_curve_baseY : DataW H) = .agg ((zsOf bYn).map fun z => .lit (.int .u8 z)) := by kernel_rfl
theorem var_br {W : World} {nm : String} {g t : Nat} {cs : Array Value} {x fuel : Nat} {q : List MemPlace} {d : DataW Unit} (hg0 : Tryd.prog.globalNamed nm = some g) (ht0 : (Tryd.prog.globals[g]?).map (·.type) = some 22) (hl : d = .agg ((zsOf x).map fun z => .lit (.int .u8 z))) {g' : Nat} (hg : Tryd.prog.globalNamed nm = some g') (ht : (Tryd.prog.globals[g']?).map (·.type) = some t) (hv : W.var? Tryd.prog nm = some cs)
  (hd : DataW.trod (fun _ => ()) Tryd.prog W 0 (fun _ => true) false fuel t cs.toList = some (d, q)) (e : Nat) (he : e < mapTag) : ∀ ν ρ, BR ν ρ W (ABlk.shut ⟨(byL x).map fun n => .i .u8 (.c (.ofNat n)), e, true⟩) ⟨g, 0, 0⟩ := by
 intro ν ρ
 obtain rfl := Option.some.inj (hg0.symm.trans hg)
 obtain rfl := Option.some.inj (ht0.symm.trans ht)
 rw [hl] at hd
 refine br_cells (by intro h; have := congrArg List.length h; simp [byL_len] at this) (by rw [Bool.eq_false_iff]; intro h; exact absurd (Nat.le_of_ble_eq_true h) (Nat.not_le_of_lt he)) fun j c hc => ?_
 simp only [List.getElem?_map, Option.map_eq_some_iff] at hc
 obtain ⟨z, hz, rfl⟩ := hc
 have hzz : (zsOf x)[j]? = some (z : Int) := by
  unfold zsOf
  rw [List.getElem?_map, hz]
  rfl
 have hcell := array_cells Tryd.underlying22 Tryd.underlying5 cells1 hd j z hzz
 refine ⟨.int .u8 (z : Int), ?_, .i _ (.c (.ofNat z))⟩
 rw [Nat.zero_add, World.var?_cell hg hv j]
 simpa using hcell
end Go.Proofs.YtheidgcgdkmmiaaDoor
