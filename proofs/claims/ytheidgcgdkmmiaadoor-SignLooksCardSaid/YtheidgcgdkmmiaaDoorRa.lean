/-
 SIGNATURES: all variables; sums as rows; numbers and words named beside texts. Own work.
-/
import Derived.Test.YtheidgcgdkmmiaaDoorNu
import Derived.Test.YtheidgcgdkmmiaaDoorTg
import Derived.OpenShut
namespace Go.Proofs.YtheidgcgdkmmiaaDoor
open Go.Sh
open Go.ChangeShapes Go.WideShapes Go.ChangeAt Go.RowKit
set_option maxRecDepth 100000
/-! which variables -/
def gl9 : Gl := glC ++ (glO ++ qat)
theorem gl9_ok : GlOk gl9 := gl_app glC_ok (gl_app glO_ok qa6)
theorem upC9 : ∀ p ∈ glC, p ∈ gl9 := fun _ h => List.mem_append_left _ h
theorem upB9 : ∀ p ∈ glB, p ∈ gl9 := fun p h => upC9 p (upC p h)
theorem upO9 : ∀ p ∈ glO, p ∈ gl9 := fun _ h => List.mem_append_right _ (List.mem_append_left _ h)
theorem upS9 : ∀ p ∈ qat, p ∈ gl9 := fun _ h => List.mem_append_right _ (List.mem_append_right _ h)
theorem RowM.up {ν : Nat → Int} {P : Program} {gl gl' : Gl} {r : RowM} (h : ∀ p ∈ gl, p ∈ gl') (hr : r.Ok ν P gl) : r.Ok ν P gl' := ⟨hr.1, fun ρ w vs hw => hr.2 ρ w vs fun p hp => hw p (h p hp)⟩
theorem var_brS {W : World} {nm : String} {g t ta te m : Nat} {k : IntKind} {cs : Array Value} {L : List Nat} {fuel : Nat} {q : List MemPlace} {d : DataW Unit} (hu : Tryd.prog.underlying ta = some (.array m te)) (hue : Tryd.prog.underlying te = some (.int k)) (hc1 : Tryd.prog.cellsOf te = 1) (hne : L ≠ [])
  (hg0 : Tryd.prog.globalNamed nm = some g) (ht0 : (Tryd.prog.globals[g]?).map (·.type) = some ta) (hl : d = .agg ((L.map fun n => ((n : Nat) : Int)).map fun z => .lit (.int k z))) {g' : Nat} (hg : Tryd.prog.globalNamed nm = some g') (ht : (Tryd.prog.globals[g']?).map (·.type) = some t) (hv : W.var? Tryd.prog nm = some cs)
  (hd : DataW.trod (fun _ => ()) Tryd.prog W 0 (fun _ => true) false fuel t cs.toList = some (d, q)) (e : Nat) (he : e < qac) : ∀ ν ρ, BR ν ρ W (ABlk.shut ⟨L.map fun n => .i k (nA n), e, true⟩) ⟨g, 0, 0⟩ := by
 intro ν ρ
 obtain rfl := Option.some.inj (hg0.symm.trans hg)
 obtain rfl := Option.some.inj (ht0.symm.trans ht)
 rw [hl] at hd
 refine br_cells (by intro h; exact hne (List.map_eq_nil_iff.1 h)) (by rw [Bool.eq_false_iff]; intro h; exact absurd (Nat.le_of_ble_eq_true h) (Nat.not_le_of_lt he)) fun j c hc => ?_
 simp only [List.getElem?_map, Option.map_eq_some_iff] at hc
 obtain ⟨z, hz, rfl⟩ := hc
 have hzz : (L.map fun n => ((n : Nat) : Int))[j]? = some (z : Int) := by
  rw [List.getElem?_map, hz]
  rfl
 have hcell := array_cells hu hue hc1 hd j z hzz
 refine ⟨.int k (z : Int), ?_, .i _ (nA z)⟩
 rw [Nat.zero_add, World.var?_cell hg hv j]
 simpa using hcell
theorem gk512 : Tryd.prog.globalNamed "tryst/sha.k512" = some 6 := by kernel_rfl
theorem gh512 : Tryd.prog.globalNamed "tryst/sha.h512" = some 4 := by kernel_rfl
theorem tk512 : (Tryd.prog.globals[6]?).map (·.type) = some 84 := by kernel_rfl
theorem th512 : (Tryd.prog.globals[4]?).map (·.type) = some 72 := by kernel_rfl
theorem lk512 {H : Type} : (Rows.laid_tryst_sha_k512 : DataW H) = .agg ((k256LQ.map fun n => ((n : Nat) : Int)).map fun z => .lit (.int .u64 z)) := by kernel_rfl
theorem lh512 {H : Type} : (Rows.laid_tryst_sha_h512 : DataW H) = .agg ((h256LQ.map fun n => ((n : Nat) : Int)).map fun z => .lit (.int .u64 z)) := by kernel_rfl
theorem laid9 {W : World} (h : laidMetH Tryd.prog [("tryst/curve.d", Rows.laid_tryst_curve_d), ("tryst/curve.twiceD", Rows.laid_tryst_curve_twiceD), ("tryst/curve.baseX", Rows.laid_tryst_curve_baseX), ("tryst/curve.baseY", Rows.laid_tryst_curve_baseY), ("tryst/curve.order", Rows.laid_tryst_curve_order), ("tryst/sha.k512", Rows.laid_tryst_sha_k512), ("tryst/sha.h512", Rows.laid_tryst_sha_h512)] W) : Laid gl9 W := by
 rw [MakeChecks.laidMetH_plain _ _ _ (by kernel_rfl)] at h
 obtain ⟨ps, ⟨g0, t0, cs0, f0, p0, q0, hg0, ht0, hv0, hd0, ⟨g1, t1, cs1, f1, p1, q1, hg1, ht1, hv1, hd1, ⟨g2, t2, cs2, f2, p2, q2, hg2, ht2, hv2, hd2, ⟨g3, t3, cs3, f3, p3, q3, hg3, ht3, hv3, hd3, ⟨g4, t4, cs4, f4, p4, q4, hg4, ht4, hv4, hd4, ⟨g5, t5, cs5, f5, p5, q5, hg5, ht5, hv5, hd5, ⟨g6, t6, cs6, f6, p6, q6, hg6, ht6, hv6, hd6, _⟩, _⟩, _⟩, _⟩, _⟩, _⟩, _⟩, _⟩ := h
 intro p hp
 simp only [gl9, glC, glB, glO, qat, List.cons_append, List.nil_append, List.mem_cons, List.not_mem_nil, or_false] at hp
 rcases hp with rfl | rfl | rfl | rfl | rfl | rfl | rfl
 ·exact var_br gD tD lD hg0 ht0 hv0 hd0 _ (by decide)
 ·exact var_br gT tT lT hg1 ht1 hv1 hd1 _ (by decide)
 ·exact var_br gX tX lX hg2 ht2 hv2 hd2 _ (by decide)
 ·exact var_br gY tY lY hg3 ht3 hv3 hd3 _ (by decide)
 ·exact var_br4 gO tO lO hg4 ht4 hv4 hd4 _ (by decide)
 ·exact var_brS Tryd.underlying72 Tryd.underlying37 cells64 (by decide) gh512 th512 lh512 hg6 ht6 hv6 hd6 _ (by decide)
 ·exact var_brS Tryd.underlying84 Tryd.underlying37 cells64 (by decide) gk512 tk512 lk512 hg5 ht5 hv5 hd5 _ (by decide)
/-! sums -/
def rowSum (x : AV) (need : Gl) (g : Nat → AI) : RowM := ⟨48, [x], need, [.v (.ag (rowC .u8 g 64))]⟩
theorem rowSum_ok {ν : Nat → Int} {need : Gl} {x : AV} {n : Nat} {z : Wd} {g : Nat → AI} (hx : IsText ν need x n z) (hn : n < 100000000000) (hg : ∀ j, j < 64 → (g j).val ν = qbd z n j) : (rowSum x need g).Ok ν Tryd.prog gl9 := by
 refine ⟨⟨_, Tryd.func48, by kernel_rfl, by kernel_rfl⟩, fun ρ w vs hw hnd hl => ?_⟩
 obtain ⟨u, rfl, hu⟩ := one_arg hl
 exact (Sum256_okQ (fun p hp => hw p (upS9 p hp)) (hx ρ w u hnd hu) (by omega)).2.mono fun e w' ⟨he, hB⟩ => ⟨[_], he, packR hg, hB⟩
/-! names: numbers' bytes, words, texts -/
def lo9 (L l : List Nat) (n : Int) : Nat → Int := fun k => if k < 5000 then nuM 125 L l k else n
def nu9 (L l : List Nat) (n : Int) (len : Nat → Nat) (z : Nat → Wd) : Nat → Int := nuR (lo9 L l n) len len z
section
variable {L l : List Nat} {n : Int} {len : Nat → Nat} {z : Nat → Wd}
theorem nu9_lo {k : Nat} (h : k < 5000) : nu9 L l n len z k = nuM 125 L l k := (nuR_lo (by omega)).trans (if_pos h)
theorem nu9_at {j i : Nat} (hj : j < 125) (hi : i < 32) : nu9 L l n len z (32 * j + i) = (((byL (L.getD j 0)).getD i 0 : Nat) : Int) := (nu9_lo (by omega)).trans (nuM_at 125 L l j hj i hi)
theorem qbC (j : Nat) (hj : j < 125) : qag (nu9 L l n len z) (rw8 j) = some (byt (L.getD j 0)) := rw8_of fun _ hi => nu9_at hj hi
theorem nu9_bc (j : Nat) (hj : j < 125) : conc (nu9 L l n len z) (rw8 j) = some (byt (L.getD j 0)) := qbC j hj
theorem nu9_L {t : Nat} (ht : 0 < t) : nu9 L l n len z (pinL (tg t)) = (len t : Int) := nuR_L ht
theorem nu9_A {t : Nat} (ht : 0 < t) : nu9 L l n len z (pinA (tg t)) = (len t : Int) := nuR_A ht
theorem nu9_B {t j : Nat} (ht : 0 < t) (hj : j < 1099511627774) : nu9 L l n len z (pinB (tg t) j) = z t j := nuR_B ht hj
theorem nu9_n : nu9 L l n len z 9000 = n := (nuR_lo (by decide)).trans (if_neg (by decide))
theorem nu9_w (j : Nat) (hj : j < 100) : qag (nu9 L l n len z) (rw4 (1000 + j)) = some (num (l.getD j 0)) := by
 rw [← nuM_w 125 L l j]
 have h : ∀ i, i < 4 → nu9 L l n len z (4 * (1000 + j) + i) = nuM 125 L l (4 * (1000 + j) + i) := fun i hi => nu9_lo (by omega)
 have h0 := h 0 (by decide); have h1 := h 1 (by decide); have h2 := h 2 (by decide); have h3 := h 3 (by decide)
 show (qap _ (wel (1000 + j))).map (fun vs => Value.agg vs.toArray) = (qap _ (wel (1000 + j))).map (fun vs => Value.agg vs.toArray)
 simp only [wel, qap, conc1, wd, AI.val]
 simp only [Nat.add_zero] at h0
 rw [h0, h1, h2, h3]
theorem nu9_wc (j : Nat) (hj : j < 100) : conc (nu9 L l n len z) (rw4 (1000 + j)) = some (num (l.getD j 0)) := nu9_w j hj
end
end Go.Proofs.YtheidgcgdkmmiaaDoor
