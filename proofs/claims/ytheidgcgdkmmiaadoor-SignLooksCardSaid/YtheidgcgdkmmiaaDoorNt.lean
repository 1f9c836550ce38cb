/-
 NUMBERS MODULO L: what curve's MulAdd answers; the variables that the scalars' rows list. Own work.
-/
import Derived.Test.YtheidgcgdkmmiaaDoorNm
import Derived.Test.YtheidgcgdkmmiaaDoorLd
namespace Go.Proofs.YtheidgcgdkmmiaaDoor
open Go.Sh
open Go.ChangeShapes Go.WideShapes Go.ChangeAt Go.RowKit
set_option maxRecDepth 100000
def rw8w (j : Nat) : AV := .ag (wel j ++ wel (j + 1))
theorem nuM_w8 {m : Nat} {L l : List Nat} {j T : Nat} (h : l.getD j 0 = T) (h' : l.getD (j + 1) 0 = T / B4) : qag (nuM m L l) (rw8w (8 * m + j)) = some (num8 T) := by
 have e1 := nuM_wel m L l j
 have e2 := nuM_wel m L l (j + 1)
 rw [h] at e1
 rw [h'] at e2
 have e := concL_app e1 e2
 show (qap _ (wel (8 * m + j) ++ wel (8 * m + j + 1))).map (fun vs => Value.agg vs.toArray) = _
 rw [show 8 * m + j + 1 = 8 * m + (j + 1) from rfl, e]
 rfl
theorem nuM_w8c {m : Nat} {L l : List Nat} {j T : Nat} (h : l.getD j 0 = T) (h' : l.getD (j + 1) 0 = T / B4) : conc (nuM m L l) (rw8w (8 * m + j)) = some (num8 T) := nuM_w8 h h'
/-! readScalar, layScalar, reduce, as rows -/
theorem rowReadS {ν : Nat → Int} {p r : AV} {x : Nat} (h1 : qag ν p = some (byt x)) (h2 : conc ν r = some (num x)) : Row.Ok ν Tryd.prog ⟨41, [p], r⟩ := ⟨[byt x], num x, by simp [qai, h1], h2, ReadS_ok x⟩
theorem rowLayS {ν : Nat → Int} {p r : AV} {x : Nat} (h1 : qag ν p = some (num x)) (h2 : conc ν r = some (byt x)) : Row.Ok ν Tryd.prog ⟨42, [p], r⟩ := ⟨[num x], byt x, by simp [qai, h1], h2, LayS_ok x⟩
theorem rowMulA {ν : Nat → Int} {p q r s : AV} {x y z T : Nat} (hx : x < B4) (hy : y < B4) (hz : z < B4) (hT : T = x * y + z) (h1 : qag ν p = some (num x)) (h2 : qag ν q = some (num y)) (h3 : qag ν r = some (num z)) (h4 : conc ν s = some (num8 T)) : Row.Ok ν Tryd.prog ⟨44, [p, q, r], s⟩ :=
 ⟨[num x, num y, num z], num8 T, by simp [qai, h1, h2, h3], h4, by rw [hT]; exact mulAdd_ok x y z hx hy hz⟩
theorem rowRed {ν : Nat → Int} {p r : AV} {T n : Nat} (hT : T < B4 * B4) (hn : T % ordL = n) (h1 : qag ν p = some (num8 T)) (h2 : conc ν r = some (num n)) : Row.OkG ν Tryd.prog glO ⟨43, [p], r⟩ :=
 ⟨[num8 T], num n, by simp [qai, h1], h2, by rw [← hn]; exact reduce_ok T hT⟩
/-! MulAdd -/
def muT : List Row := [⟨41, [rw8 0], rw4 32⟩, ⟨41, [rw8 1], rw4 33⟩, ⟨41, [rw8 2], rw4 34⟩, ⟨44, [rw4 32, rw4 33, rw4 34], rw8w 35⟩, ⟨42, [rw4 37], rw8 3⟩]
def muG : List Row := [⟨43, [rw8w 35], rw4 37⟩]
theorem mu_says : saysG qae tree muT glO muG 100 3 22 [rw8 0, rw8 1, rw8 2] (rw8 3) = true := by kernel_rfl
theorem mu_bound {x y z : Nat} (hx : x < B4) (hy : y < B4) (hz : z < B4) : x * y + z < B4 * B4 := by
 have h : x * y ≤ (B4 - 1) * (B4 - 1) := Nat.mul_le_mul (by unfold B4 at *; omega) (by unfold B4 at *; omega)
 have e : (B4 - 1) * (B4 - 1) + B4 ≤ B4 * B4 := by decide
 omega
theorem mu_core (x y z T n : Nat) (hx : x < B4) (hy : y < B4) (hz : z < B4) (hT : T = x * y + z) (hn : T % ordL = n) : qa4 Tryd.prog glO 22 [byt x, byt y, byt z] (byt n) := by
 refine qaY (ν := nuM 4 [x, y, z, n] [x, y, z, T, T / B4, n]) (args := [rw8 0, rw8 1, rw8 2]) (qab _) qak qaf glO_ok (fun r hr => ?_) (fun r hr => ?_) mu_says (by simp [qai, nuM_b]) (nuM_bc 4 [x, y, z, n] _ 3 (by decide))
 ·simp only [muT, List.mem_cons, List.not_mem_nil, or_false] at hr
  rcases hr with rfl | rfl | rfl | rfl | rfl
  ·exact rowReadS (nuM_b 4 _ _ 0 (by decide)) (nuM_wc 4 _ _ 0)
  ·exact rowReadS (nuM_b 4 _ _ 1 (by decide)) (nuM_wc 4 _ _ 1)
  ·exact rowReadS (nuM_b 4 _ _ 2 (by decide)) (nuM_wc 4 _ _ 2)
  ·exact rowMulA hx hy hz hT (nuM_w 4 _ _ 0) (nuM_w 4 _ _ 1) (nuM_w 4 _ _ 2) (nuM_w8c (m := 4) (j := 3) rfl rfl)
  ·exact rowLayS (nuM_w 4 _ _ 5) (nuM_bc 4 _ _ 3 (by decide))
 ·simp only [muG, List.mem_cons, List.not_mem_nil, or_false] at hr
  subst hr
  exact rowRed (hT ▸ mu_bound hx hy hz) hn (nuM_w8 (m := 4) (j := 3) rfl rfl) (nuM_wc 4 _ _ 5)
theorem MulAdd_ok {x y z n : Nat} (hx : x < B4) (hy : y < B4) (hz : z < B4) (hn : (x * y + z) % ordL = n) : qa4 Tryd.prog glO 22 [byt x, byt y, byt z] (byt n) := mu_core x y z _ n hx hy hz rfl hn
theorem rowMu {ν : Nat → Int} {p q r s : AV} {x y z n : Nat} (hx : x < B4) (hy : y < B4) (hz : z < B4) (hn : (x * y + z) % ordL = n) (h1 : qag ν p = some (byt x)) (h2 : qag ν q = some (byt y)) (h3 : qag ν r = some (byt z)) (h4 : conc ν s = some (byt n)) : Row.OkG ν Tryd.prog glO ⟨22, [p, q, r], s⟩ :=
 ⟨[byt x, byt y, byt z], byt n, by simp [qai, h1, h2, h3], h4, MulAdd_ok hx hy hz hn⟩
theorem rowBelow {ν : Nat → Int} {p : AV} {x : Nat} (b : Bool) (hx : x < B4) (hb : decide (x < ordL) = b) (h1 : qag ν p = some (byt x)) : Row.OkG ν Tryd.prog glO ⟨21, [p], .b b⟩ :=
 ⟨[byt x], .bool b, by simp [qai, h1], rfl, by rw [← hb]; exact Below_ok x hx⟩
theorem ordB {x : Nat} (h : x < ordL) : x < B4 := Nat.lt_trans h (by decide)
theorem modB (x : Nat) : x % ordL < B4 := ordB (Nat.mod_lt _ (by decide))
/-! A number's bytes, read into eight words. -/
theorem nuM_at (m : Nat) (L l : List Nat) (j : Nat) (hj : j < m) : ∀ i, i < 32 → nuM m L l (32 * j + i) = (((byL (L.getD j 0)).getD i 0 : Nat) : Int) := by
 intro i hi
 have h : 32 * j + i < 32 * m := by omega
 show (if 32 * j + i < 32 * m then nub L (32 * j + i) else _) = _
 rw [if_pos h]
 exact qbj L j i hi
/-! Which variables. -/
theorem gl_app {a b : Gl} (ha : GlOk a) (hb : GlOk b) : GlOk (a ++ b) := fun p hp => (List.mem_append.1 hp).elim (ha p) (hb p)
theorem gO : Tryd.prog.globalNamed "tryst/curve.order" = some 1 := by kernel_rfl
theorem tO : (Tryd.prog.globals[1]?).map (·.type) = some 38 := by kernel_rfl
def wsOf (x : Nat) : List Int := (numL x).map fun n => ((n : Nat) : Int)
theorem lO {H : Type} : (Rows.laid_tryst_curve_order : DataW H) = .agg ((wsOf ordL).map fun z => .lit (.int .u64 z)) := by kernel_rfl
theorem cells64 : Tryd.prog.cellsOf 37 = 1 := by kernel_rfl
theorem var_br4 {W : World} {nm : String} {g t : Nat} {cs : Array Value} {x fuel : Nat} {q : List MemPlace} {d : DataW Unit} (hg0 : Tryd.prog.globalNamed nm = some g) (ht0 : (Tryd.prog.globals[g]?).map (·.type) = some 38) (hl : d = .agg ((wsOf x).map fun z => .lit (.int .u64 z))) {g' : Nat} (hg : Tryd.prog.globalNamed nm = some g') (ht : (Tryd.prog.globals[g']?).map (·.type) = some t) (hv : W.var? Tryd.prog nm = some cs)
  (hd : DataW.trod (fun _ => ()) Tryd.prog W 0 (fun _ => true) false fuel t cs.toList = some (d, q)) (e : Nat) (he : e < qac) : ∀ ν ρ, BR ν ρ W (ABlk.shut ⟨(numL x).map fun n => .i .u64 (.c (.ofNat n)), e, true⟩) ⟨g, 0, 0⟩ := by
 intro ν ρ
 obtain rfl := Option.some.inj (hg0.symm.trans hg)
 obtain rfl := Option.some.inj (ht0.symm.trans ht)
 rw [hl] at hd
 refine br_cells (by intro h; have := congrArg List.length h; simp [numL] at this) (by rw [Bool.eq_false_iff]; intro h; exact absurd (Nat.le_of_ble_eq_true h) (Nat.not_le_of_lt he)) fun j c hc => ?_
 simp only [List.getElem?_map, Option.map_eq_some_iff] at hc
 obtain ⟨z, hz, rfl⟩ := hc
 have hzz : (wsOf x)[j]? = some (z : Int) := by
  unfold wsOf
  rw [List.getElem?_map, hz]
  rfl
 have hcell := array_cells Tryd.underlying38 Tryd.underlying37 cells64 hd j z hzz
 refine ⟨.int .u64 (z : Int), ?_, .i _ (.c (.ofNat z))⟩
 rw [Nat.zero_add, World.var?_cell hg hv j]
 simpa using hcell
end Go.Proofs.YtheidgcgdkmmiaaDoor
