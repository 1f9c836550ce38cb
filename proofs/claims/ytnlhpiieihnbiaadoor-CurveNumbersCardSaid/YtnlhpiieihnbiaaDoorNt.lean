/-
  NUMBERS MODULO L: what curve's MulAdd answers; the variables that the scalars' rows list. Own work.
-/
import Derived.Test.YtnlhpiieihnbiaaDoorNm
import Derived.Test.YtnlhpiieihnbiaaDoorLd
namespace Go.Proofs.YtnlhpiieihnbiaaDoor
open Go.Sh
open Go.ChangeShapes Go.WideShapes Go.ChangeAt Go.RowKit
set_option maxRecDepth 100000

def rw8w (j : Nat) : AV := .ag (wel j ++ wel (j + 1))
theorem nuM_w8 {m : Nat} {L l : List Nat} {j T : Nat} (h : l.getD j 0 = T) (h' : l.getD (j + 1) 0 = T / B4) : conc2 (nuM m L l) (rw8w (8 * m + j)) = some (num8 T) := by
  have e1 := nuM_wel m L l j
  have e2 := nuM_wel m L l (j + 1)
  rw [h] at e1
  rw [h'] at e2
  have e := concL_app e1 e2
  show (concL _ (wel (8 * m + j) ++ wel (8 * m + j + 1))).map (fun vs => Value.agg vs.toArray) = _
  rw [show 8 * m + j + 1 = 8 * m + (j + 1) from rfl, e]
  rfl
theorem nuM_w8c {m : Nat} {L l : List Nat} {j T : Nat} (h : l.getD j 0 = T) (h' : l.getD (j + 1) 0 = T / B4) : conc (nuM m L l) (rw8w (8 * m + j)) = some (num8 T) := nuM_w8 h h'

/-! readScalar, layScalar, reduce, as rows -/

theorem rowReadS {ν : Nat → Int} {p r : AV} {x : Nat} (h1 : conc2 ν p = some (byt x)) (h2 : conc ν r = some (num x)) : Row.Ok ν Tryd.prog ⟨26, [p], r⟩ := ⟨[byt x], num x, by simp [concT, h1], h2, ReadS_ok x⟩
theorem rowLayS {ν : Nat → Int} {p r : AV} {x : Nat} (h1 : conc2 ν p = some (num x)) (h2 : conc ν r = some (byt x)) : Row.Ok ν Tryd.prog ⟨22, [p], r⟩ := ⟨[num x], byt x, by simp [concT, h1], h2, LayS_ok x⟩
theorem rowMulA {ν : Nat → Int} {p q r s : AV} {x y z T : Nat} (hx : x < B4) (hy : y < B4) (hz : z < B4) (hT : T = x * y + z) (h1 : conc2 ν p = some (num x)) (h2 : conc2 ν q = some (num y)) (h3 : conc2 ν r = some (num z)) (h4 : conc ν s = some (num8 T)) : Row.Ok ν Tryd.prog ⟨27, [p, q, r], s⟩ :=
  ⟨[num x, num y, num z], num8 T, by simp [concT, h1, h2, h3], h4, by rw [hT]; exact mulAdd_ok x y z hx hy hz⟩
theorem rowRed {ν : Nat → Int} {p r : AV} {T n : Nat} (hT : T < B4 * B4) (hn : T % ordL = n) (h1 : conc2 ν p = some (num8 T)) (h2 : conc ν r = some (num n)) : Row.OkG ν Tryd.prog glO ⟨23, [p], r⟩ :=
  ⟨[num8 T], num n, by simp [concT, h1], h2, by rw [← hn]; exact reduce_ok T hT⟩

/-! MulAdd -/

def muT : List Row := [⟨26, [rw8 0], rw4 32⟩, ⟨26, [rw8 1], rw4 33⟩, ⟨26, [rw8 2], rw4 34⟩, ⟨27, [rw4 32, rw4 33, rw4 34], rw8w 35⟩, ⟨22, [rw4 37], rw8 3⟩]
def muG : List Row := [⟨23, [rw8w 35], rw4 37⟩]
theorem mu_says : saysG noFacts tree muT glO muG 100 3 11 [rw8 0, rw8 1, rw8 2] (rw8 3) = true := by kernel_rfl
theorem mu_bound {x y z : Nat} (hx : x < B4) (hy : y < B4) (hz : z < B4) : x * y + z < B4 * B4 := by
  have h : x * y ≤ (B4 - 1) * (B4 - 1) := Nat.mul_le_mul (by unfold B4 at *; omega) (by unfold B4 at *; omega)
  have e : (B4 - 1) * (B4 - 1) + B4 ≤ B4 * B4 := by decide
  omega
theorem mu_core (x y z T n : Nat) (hx : x < B4) (hy : y < B4) (hz : z < B4) (hT : T = x * y + z) (hn : T % ordL = n) : PureG Tryd.prog glO 11 [byt x, byt y, byt z] (byt n) := by
  refine pureG_of (ν := nuM 4 [x, y, z, n] [x, y, z, T, T / B4, n]) (args := [rw8 0, rw8 1, rw8 2]) (noFacts_hold _) mixed tab_ok glO_ok (fun r hr => ?_) (fun r hr => ?_) mu_says (by simp [concT, nuM_b]) (nuM_bc 4 [x, y, z, n] _ 3 (by decide))
  · simp only [muT, List.mem_cons, List.not_mem_nil, or_false] at hr
    rcases hr with rfl | rfl | rfl | rfl | rfl
    · exact rowReadS (nuM_b 4 _ _ 0 (by decide)) (nuM_wc 4 _ _ 0)
    · exact rowReadS (nuM_b 4 _ _ 1 (by decide)) (nuM_wc 4 _ _ 1)
    · exact rowReadS (nuM_b 4 _ _ 2 (by decide)) (nuM_wc 4 _ _ 2)
    · exact rowMulA hx hy hz hT (nuM_w 4 _ _ 0) (nuM_w 4 _ _ 1) (nuM_w 4 _ _ 2) (nuM_w8c (m := 4) (j := 3) rfl rfl)
    · exact rowLayS (nuM_w 4 _ _ 5) (nuM_bc 4 _ _ 3 (by decide))
  · simp only [muG, List.mem_cons, List.not_mem_nil, or_false] at hr
    subst hr
    exact rowRed (hT ▸ mu_bound hx hy hz) hn (nuM_w8 (m := 4) (j := 3) rfl rfl) (nuM_wc 4 _ _ 5)
theorem MulAdd_ok {x y z n : Nat} (hx : x < B4) (hy : y < B4) (hz : z < B4) (hn : (x * y + z) % ordL = n) : PureG Tryd.prog glO 11 [byt x, byt y, byt z] (byt n) := mu_core x y z _ n hx hy hz rfl hn
theorem rowMu {ν : Nat → Int} {p q r s : AV} {x y z n : Nat} (hx : x < B4) (hy : y < B4) (hz : z < B4) (hn : (x * y + z) % ordL = n) (h1 : conc2 ν p = some (byt x)) (h2 : conc2 ν q = some (byt y)) (h3 : conc2 ν r = some (byt z)) (h4 : conc ν s = some (byt n)) : Row.OkG ν Tryd.prog glO ⟨11, [p, q, r], s⟩ :=
  ⟨[byt x, byt y, byt z], byt n, by simp [concT, h1, h2, h3], h4, MulAdd_ok hx hy hz hn⟩
theorem rowBelow {ν : Nat → Int} {p : AV} {x : Nat} (b : Bool) (hx : x < B4) (hb : decide (x < ordL) = b) (h1 : conc2 ν p = some (byt x)) : Row.OkG ν Tryd.prog glO ⟨10, [p], .b b⟩ :=
  ⟨[byt x], .bool b, by simp [concT, h1], rfl, by rw [← hb]; exact Below_ok x hx⟩
theorem ordB {x : Nat} (h : x < ordL) : x < B4 := Nat.lt_trans h (by decide)
theorem modB (x : Nat) : x % ordL < B4 := ordB (Nat.mod_lt _ (by decide))

/-! A number's bytes, read into eight words. -/

def mdW (k : Nat) : AV := .ag [.i .u64 (ofE k), .i .u64 (ofE (k + 8)), .i .u64 (ofE (k + 16)), .i .u64 (ofE (k + 24)), c0, c0, c0, c0]
theorem mdW_val {ν : Nat → Int} {j x : Nat} (hx : x < B4) (h : ∀ i, i < 32 → ν (32 * j + i) = (((byL x).getD i 0 : Nat) : Int)) : conc2 ν (mdW (32 * j)) = some (num8 x) := by
  obtain ⟨l0, l1, l2, l3⟩ := w_lt x
  have g : ∀ i, i < 32 → ν (32 * j + i) = (((byL x).getD i 0 : Nat) : Int) := h
  have e0 : (ofE (32 * j)).val ν = ((Sh.w0 x : Nat) : Int) := ofE_word l0 (h 0 (by decide)) (h 1 (by decide)) (h 2 (by decide)) (h 3 (by decide)) (h 4 (by decide)) (h 5 (by decide)) (h 6 (by decide)) (h 7 (by decide))
  have e1 : (ofE (32 * j + 8)).val ν = ((w1 x : Nat) : Int) := ofE_word l1 (h 8 (by decide)) (h 9 (by decide)) (h 10 (by decide)) (h 11 (by decide)) (h 12 (by decide)) (h 13 (by decide)) (h 14 (by decide)) (h 15 (by decide))
  have e2 : (ofE (32 * j + 16)).val ν = ((w2 x : Nat) : Int) := ofE_word l2 (h 16 (by decide)) (h 17 (by decide)) (h 18 (by decide)) (h 19 (by decide)) (h 20 (by decide)) (h 21 (by decide)) (h 22 (by decide)) (h 23 (by decide))
  have e3 : (ofE (32 * j + 24)).val ν = ((w3 x : Nat) : Int) := ofE_word l3 (h 24 (by decide)) (h 25 (by decide)) (h 26 (by decide)) (h 27 (by decide)) (h 28 (by decide)) (h 29 (by decide)) (h 30 (by decide)) (h 31 (by decide))
  show (concL ν [.i .u64 (ofE (32 * j)), .i .u64 (ofE (32 * j + 8)), .i .u64 (ofE (32 * j + 16)), .i .u64 (ofE (32 * j + 24)), c0, c0, c0, c0]).map (fun vs => Value.agg vs.toArray) = _
  have ez : conc1 ν c0 = some (.int .u64 ((0 : Nat) : Int)) := rfl
  simp only [concL, conc1, e0, e1, e2, e3, ez, Option.map_some]
  unfold num8
  rw [Nat.div_eq_of_lt hx]
  rfl
theorem nuM_at (m : Nat) (L l : List Nat) (j : Nat) (hj : j < m) : ∀ i, i < 32 → nuM m L l (32 * j + i) = (((byL (L.getD j 0)).getD i 0 : Nat) : Int) := by
  intro i hi
  have h : 32 * j + i < 32 * m := by omega
  show (if 32 * j + i < 32 * m then nub L (32 * j + i) else _) = _
  rw [if_pos h]
  exact nub_get L j i hi

/-! Which variables. -/

def glN : Gl := glB ++ glO
def glM : Gl := glC ++ glO
theorem gl_app {a b : Gl} (ha : GlOk a) (hb : GlOk b) : GlOk (a ++ b) := fun p hp => (List.mem_append.1 hp).elim (ha p) (hb p)
theorem glN_ok : GlOk glN := gl_app glB_ok glO_ok
theorem glM_ok : GlOk glM := gl_app glC_ok glO_ok
theorem upBN : ∀ p ∈ glB, p ∈ glN := fun _ h => List.mem_append_left _ h
theorem upON : ∀ p ∈ glO, p ∈ glN := fun _ h => List.mem_append_right _ h
theorem upCM : ∀ p ∈ glC, p ∈ glM := fun _ h => List.mem_append_left _ h
theorem upOM : ∀ p ∈ glO, p ∈ glM := fun _ h => List.mem_append_right _ h
theorem upBM : ∀ p ∈ glB, p ∈ glM := fun p h => upCM p (upC p h)
theorem gO : Tryd.prog.globalNamed "tryst/curve.order" = some 0 := by kernel_rfl
theorem tO : (Tryd.prog.globals[0]?).map (·.type) = some 40 := by kernel_rfl
def wsOf (x : Nat) : List Int := (numL x).map fun n => ((n : Nat) : Int)
theorem lO {H : Type} : (Rows.laid_tryst_curve_order : DataW H) = .agg ((wsOf ordL).map fun z => .lit (.int .u64 z)) := by kernel_rfl
theorem cells64 : Tryd.prog.cellsOf 36 = 1 := by kernel_rfl

/-- A variable of four words. -/
theorem var_br4 {W : World} {nm : String} {g t : Nat} {cs : Array Value} {x fuel : Nat} {q : List MemPlace} {d : DataW Unit} (hg0 : Tryd.prog.globalNamed nm = some g) (ht0 : (Tryd.prog.globals[g]?).map (·.type) = some 40) (hl : d = .agg ((wsOf x).map fun z => .lit (.int .u64 z))) {g' : Nat} (hg : Tryd.prog.globalNamed nm = some g') (ht : (Tryd.prog.globals[g']?).map (·.type) = some t) (hv : W.var? Tryd.prog nm = some cs)
    (hd : DataW.trod (fun _ => ()) Tryd.prog W 0 (fun _ => true) false fuel t cs.toList = some (d, q)) (e : Nat) (he : e ≠ mapTag) : ∀ ν ρ, BR ν ρ W (ABlk.shut ⟨(numL x).map fun n => .i .u64 (.c (.ofNat n)), e, true⟩) ⟨g, 0, 0⟩ := by
  intro ν ρ
  obtain rfl := Option.some.inj (hg0.symm.trans hg)
  obtain rfl := Option.some.inj (ht0.symm.trans ht)
  rw [hl] at hd
  refine br_cells (by intro h; have := congrArg List.length h; simp [numL] at this) (by rw [Bool.eq_false_iff]; intro h; exact he (Nat.eq_of_beq_eq_true h)) fun j c hc => ?_
  simp only [List.getElem?_map, Option.map_eq_some_iff] at hc
  obtain ⟨z, hz, rfl⟩ := hc
  have hzz : (wsOf x)[j]? = some (z : Int) := by
    unfold wsOf
    rw [List.getElem?_map, hz]
    rfl
  have hcell := array_cells Tryd.underlying40 Tryd.underlying36 cells64 hd j z hzz
  refine ⟨.int .u64 (z : Int), ?_, .i _ (.c (.ofNat z))⟩
  rw [Nat.zero_add, World.var?_cell hg hv j]
  simpa using hcell

theorem laidN {W : World} (h : laidMetH Tryd.prog [("tryst/curve.twiceD", Rows.laid_tryst_curve_twiceD), ("tryst/curve.baseX", Rows.laid_tryst_curve_baseX), ("tryst/curve.baseY", Rows.laid_tryst_curve_baseY), ("tryst/curve.order", Rows.laid_tryst_curve_order)] W) : Laid glN W := by
  rw [MakeChecks.laidMetH_plain _ _ _ (by kernel_rfl)] at h
  obtain ⟨ps, ⟨g1, t1, cs1, f1, p1, q1, hg1, ht1, hv1, hd1, ⟨g2, t2, cs2, f2, p2, q2, hg2, ht2, hv2, hd2, ⟨g3, t3, cs3, f3, p3, q3, hg3, ht3, hv3, hd3, ⟨g4, t4, cs4, f4, p4, q4, hg4, ht4, hv4, hd4, _⟩, _⟩, _⟩, _⟩, _⟩ := h
  intro p hp
  simp only [glN, glB, glO, List.mem_append, List.mem_cons, List.not_mem_nil, or_false] at hp
  rcases hp with (rfl | rfl | rfl) | rfl
  · exact var_br gT tT lT hg1 ht1 hv1 hd1 _ (by decide)
  · exact var_br gX tX lX hg2 ht2 hv2 hd2 _ (by decide)
  · exact var_br gY tY lY hg3 ht3 hv3 hd3 _ (by decide)
  · exact var_br4 gO tO lO hg4 ht4 hv4 hd4 _ (by decide)
theorem laidM {W : World} (h : laidMetH Tryd.prog [("tryst/curve.d", Rows.laid_tryst_curve_d), ("tryst/curve.twiceD", Rows.laid_tryst_curve_twiceD), ("tryst/curve.baseX", Rows.laid_tryst_curve_baseX), ("tryst/curve.baseY", Rows.laid_tryst_curve_baseY), ("tryst/curve.order", Rows.laid_tryst_curve_order)] W) : Laid glM W := by
  rw [MakeChecks.laidMetH_plain _ _ _ (by kernel_rfl)] at h
  obtain ⟨ps, ⟨g0, t0, cs0, f0, p0, q0, hg0, ht0, hv0, hd0, ⟨g1, t1, cs1, f1, p1, q1, hg1, ht1, hv1, hd1, ⟨g2, t2, cs2, f2, p2, q2, hg2, ht2, hv2, hd2, ⟨g3, t3, cs3, f3, p3, q3, hg3, ht3, hv3, hd3, ⟨g4, t4, cs4, f4, p4, q4, hg4, ht4, hv4, hd4, _⟩, _⟩, _⟩, _⟩, _⟩, _⟩ := h
  intro p hp
  simp only [glM, glC, glB, glO, List.mem_append, List.mem_cons, List.not_mem_nil, or_false] at hp
  rcases hp with (rfl | rfl | rfl | rfl) | rfl
  · exact var_br gD tD lD hg0 ht0 hv0 hd0 _ (by decide)
  · exact var_br gT tT lT hg1 ht1 hv1 hd1 _ (by decide)
  · exact var_br gX tX lX hg2 ht2 hv2 hd2 _ (by decide)
  · exact var_br gY tY lY hg3 ht3 hv3 hd3 _ (by decide)
  · exact var_br4 gO tO lO hg4 ht4 hv4 hd4 _ (by decide)

/-! A word, as thirty-two bytes. -/

def sbK (n : Nat) : AV := .i .u8 (.w .u8 (.e .shr .u64 (.s 0) (.c (.ofNat n))))
def smallRK : List AV := [sbK 0, sbK 8, sbK 16, sbK 24, sbK 32, sbK 40, sbK 48, sbK 56, z8, z8, z8, z8, z8, z8, z8, z8, z8, z8, z8, z8, z8, z8, z8, z8, z8, z8, z8, z8, z8, z8, z8, z8]
theorem smallK_says : says noFacts tree [] 100 5 18 [wd 0] (heap0 [] gmax) (.ag smallRK) = true := by kernel_rfl
theorem sbK_val {ν : Nat → Int} {y : Nat} (h : ν 0 = (y : Int)) (n : Nat) (hn : n ≤ 64) : conc1 ν (sbK n) = some (u8 (y / 2 ^ n % 256)) := congrArg (fun z => some (Value.int .u8 z)) (layE_val h n hn)
theorem z8K_val {ν : Nat → Int} : conc1 ν z8 = some (u8 0) := rfl
theorem SmallK_ok (x : Nat) (hx : x < 18446744073709551616) : Pure Tryd.prog 18 [u64 x] (byt x) := by
  refine pure_of (ν := nu [x]) (noFacts_hold _) mixed tab_ok (fun r hr => by cases hr) smallK_says rfl ?_
  have f0 : nu [x] 0 = (x : Int) := rfl
  show (concL _ smallRK).map (fun vs => Value.agg vs.toArray) = _
  simp only [smallRK, concL, sbK_val f0 0 (by decide), sbK_val f0 8 (by decide), sbK_val f0 16 (by decide), sbK_val f0 24 (by decide), sbK_val f0 32 (by decide), sbK_val f0 40 (by decide), sbK_val f0 48 (by decide), sbK_val f0 56 (by decide), z8K_val, Option.map_some]
  have g0 : Sh.w0 x = x := Nat.mod_eq_of_lt hx
  have g1 : w1 x = 0 := by unfold w1; omega
  have g2 : w2 x = 0 := by unfold w2; omega
  have g3 : w3 x = 0 := by unfold w3; omega
  unfold byt byL
  rw [g0, g1, g2, g3]
  simp [bL]
theorem rowSmallK {ν : Nat → Int} {p r : AV} {x : Nat} (hx : x < 18446744073709551616) (h1 : conc2 ν p = some (u64 x)) (h2 : conc ν r = some (byt x)) : Row.Ok ν Tryd.prog ⟨18, [p], r⟩ := ⟨[u64 x], byt x, by simp [concT, h1], h2, SmallK_ok x hx⟩

end Go.Proofs.YtnlhpiieihnbiaaDoor
