/-
  CurveMultiples: for all its arguments the law returns true, where the program's variables are laid as the program's text lays them. Conditions: none beside that one (the card ties it to the text).
-/
import Derived.Test.YtnlhpiieihnbiaaDoorNt
namespace Go.Proofs.YtnlhpiieihnbiaaDoor
open Go.Sh
open Go.ChangeShapes Go.WideShapes Go.ChangeAt Go.RowKit
set_option maxRecDepth 100000

def hlf (k : Nat) : AV := .i .u64 (.e .shr .u64 (.s k) (.c (.ofNat 1)))
def hsum : AV := .i .u64 (.e .add .u64 (.e .shr .u64 (.s 448) (.c (.ofNat 1))) (.e .shr .u64 (.s 452) (.c (.ofNat 1))))
def mlT : List Row := [⟨18, [hlf 448], rw8 2⟩, ⟨18, [hlf 452], rw8 3⟩, ⟨18, [hsum], rw8 4⟩, ⟨18, [wd 448], rw8 5⟩, ⟨18, [wd 452], rw8 6⟩]
def mlG : List Row := [⟨15, [rw8 0], rw8 1⟩, ⟨19, [rw8 2, rw8 1], .tp [rw8 7, eOKg]⟩, ⟨19, [rw8 3, rw8 1], .tp [rw8 8, eOKg]⟩, ⟨16, [rw8 7, rw8 8], .tp [rw8 9, eOKg]⟩, ⟨19, [rw8 4, rw8 1], .tp [rw8 9, eOKg]⟩,
  ⟨11, [rw8 5, rw8 0, rw8 6], rw8 10⟩, ⟨19, [rw8 5, rw8 1], .tp [rw8 11, eOKg]⟩, ⟨15, [rw8 6], rw8 12⟩, ⟨16, [rw8 11, rw8 12], .tp [rw8 13, eOKg]⟩, ⟨15, [rw8 10], rw8 13⟩, ⟨14, [], .b true⟩]
theorem ml_says : saysG noFacts tree mlT glM mlG 600 8 5 [wd 448, wd 452, rw8 0] (.b true) = true := by kernel_rfl
theorem smul_red (n : Nat) : smul (n % ordL) pB0 = smul n pB0 := by
  have h := Nat.div_add_mod n ordL
  have e : smul n pB0 = (smul (ordL * (n / ordL)) pB0).add (smul (n % ordL) pB0) := by rw [← smul_add, h]
  rw [e, smul_ord, zero_add']
theorem hlf_val {ν : Nat → Int} {k n : Nat} (h : ν k = (n : Int)) : (AI.e .shr .u64 (.s k) (.c (.ofNat 1))).val ν = ((n / 2 : Nat) : Int) := by
  show arith .shr .u64 (ν k) ((1 : Nat) : Int) = _
  rw [h, a_shr .u64 n 1 (by decide)]
theorem ml_core (n m k p a b s n2 m2 h x y q z : Nat) (hn : n < 18446744073709551616) (hm : m < 18446744073709551616) (hk : k < B4) (P : Pt) (hP : smul k pB0 = P) (e1 : enc P = p) (en : n / 2 = n2) (em : m / 2 = m2) (eh : n2 + m2 = h) (e2 : enc (smul n2 P) = a) (e3 : enc (smul m2 P) = b) (e4 : enc ((smul n2 P).add (smul m2 P)) = s)
    (e5 : (n * k + m) % ordL = x) (e6 : enc (smul n P) = y) (e7 : enc (smul m pB0) = q) (e8 : enc ((smul n P).add (smul m pB0)) = z) : PureG Tryd.prog glM 5 [u64 n, u64 m, byt k] (.bool true) := by
  have big : ∀ {i : Nat}, i < 18446744073709551616 → i < B4 := fun hi => Nat.lt_trans hi (by decide)
  have ln2 : n2 < 18446744073709551616 := by omega
  have lm2 : m2 < 18446744073709551616 := by omega
  have lh : h < 18446744073709551616 := by omega
  have vn : nuM 14 [k, p, n2, m2, h, n, m, a, b, s, x, y, q, z] [n, m] 448 = ((n : Nat) : Int) := by
    show ((Sh.w0 n : Nat) : Int) = _
    rw [show Sh.w0 n = n from Nat.mod_eq_of_lt hn]
  have vm : nuM 14 [k, p, n2, m2, h, n, m, a, b, s, x, y, q, z] [n, m] 452 = ((m : Nat) : Int) := by
    show ((Sh.w0 m : Nat) : Int) = _
    rw [show Sh.w0 m = m from Nat.mod_eq_of_lt hm]
  have wn : conc2 (nuM 14 [k, p, n2, m2, h, n, m, a, b, s, x, y, q, z] [n, m]) (wd 448) = some (u64 n) := congrArg (fun z => some (Value.int .u64 z)) vn
  have wm : conc2 (nuM 14 [k, p, n2, m2, h, n, m, a, b, s, x, y, q, z] [n, m]) (wd 452) = some (u64 m) := congrArg (fun z => some (Value.int .u64 z)) vm
  have hvn := hlf_val vn
  have hvm := hlf_val vm
  rw [en] at hvn
  rw [em] at hvm
  have hvs : (AI.e .add .u64 (.e .shr .u64 (.s 448) (.c (.ofNat 1))) (.e .shr .u64 (.s 452) (.c (.ofNat 1)))).val (nuM 14 [k, p, n2, m2, h, n, m, a, b, s, x, y, q, z] [n, m]) = ((h : Nat) : Int) := by
    show arith .add .u64 ((AI.e .shr .u64 (.s 448) (.c (.ofNat 1))).val _) ((AI.e .shr .u64 (.s 452) (.c (.ofNat 1))).val _) = _
    rw [hvn, hvm, a_add, Nat.mod_eq_of_lt (by omega), eh]
  have g : ∀ (j : Nat), j < 14 → conc2 (nuM 14 [k, p, n2, m2, h, n, m, a, b, s, x, y, q, z] [n, m]) (rw8 j) = some (byt ([k, p, n2, m2, h, n, m, a, b, s, x, y, q, z].getD j 0)) := fun j hj => nuM_b 14 _ [n, m] j hj
  have gc : ∀ (j : Nat), j < 14 → conc (nuM 14 [k, p, n2, m2, h, n, m, a, b, s, x, y, q, z] [n, m]) (rw8 j) = some (byt ([k, p, n2, m2, h, n, m, a, b, s, x, y, q, z].getD j 0)) := fun j hj => nuM_bc 14 _ [n, m] j hj
  refine pureG_of (ν := nuM 14 [k, p, n2, m2, h, n, m, a, b, s, x, y, q, z] [n, m]) (args := [wd 448, wd 452, rw8 0]) (noFacts_hold _) mixed tab_ok glM_ok (fun r hr => ?_) (fun r hr => ?_) ml_says (by simp only [concT, wn, wm, g 0 (by decide)]; rfl) rfl
  · simp only [mlT, List.mem_cons, List.not_mem_nil, or_false] at hr
    rcases hr with rfl | rfl | rfl | rfl | rfl
    · exact rowSmallK ln2 (congrArg (fun z => some (Value.int .u64 z)) hvn) (gc 2 (by decide))
    · exact rowSmallK lm2 (congrArg (fun z => some (Value.int .u64 z)) hvm) (gc 3 (by decide))
    · exact rowSmallK lh (congrArg (fun z => some (Value.int .u64 z)) hvs) (gc 4 (by decide))
    · exact rowSmallK hn wn (gc 5 (by decide))
    · exact rowSmallK hm wm (gc 6 (by decide))
  · simp only [mlG, List.mem_cons, List.not_mem_nil, or_false] at hr
    rcases hr with rfl | rfl | rfl | rfl | rfl | rfl | rfl | rfl | rfl | rfl | rfl
    · exact OkG_up upBM (rowBase hk (by rw [hP]; exact e1) (g 0 (by decide)) (gc 1 (by decide)))
    · exact OkG_up upCM (rowTimesPt (big ln2) e1 e2 (g 2 (by decide)) (g 1 (by decide)) (g 7 (by decide)))
    · exact OkG_up upCM (rowTimesPt (big lm2) e1 e3 (g 3 (by decide)) (g 1 (by decide)) (g 8 (by decide)))
    · exact OkG_up upCM (rowAddPt e2 e3 e4 (g 7 (by decide)) (g 8 (by decide)) (g 9 (by decide)))
    · exact OkG_up upCM (rowTimesPt (big lh) e1 (by rw [← eh, smul_add]; exact e4) (g 4 (by decide)) (g 1 (by decide)) (g 9 (by decide)))
    · exact OkG_up upOM (rowMu (big hn) hk (big hm) e5 (g 5 (by decide)) (g 0 (by decide)) (g 6 (by decide)) (gc 10 (by decide)))
    · exact OkG_up upCM (rowTimesPt (big hn) e1 e6 (g 5 (by decide)) (g 1 (by decide)) (g 11 (by decide)))
    · exact OkG_up upBM (rowBase (big hm) e7 (g 6 (by decide)) (gc 12 (by decide)))
    · exact OkG_up upCM (rowAddPt e6 e7 e8 (g 11 (by decide)) (g 12 (by decide)) (g 13 (by decide)))
    · exact OkG_up upBM (rowBase (n := x) (e5 ▸ modB _) (by rw [← e5, smul_red, smul_add, smul_mul, hP]; exact e8) (g 10 (by decide)) (gc 13 (by decide)))
    · exact OkG_up upBM rowWakesG
theorem curveMultiples_law (n m k : Nat) (hn : n < 18446744073709551616) (hm : m < 18446744073709551616) (hk : k < B4) : PureG Tryd.prog glM 5 [u64 n, u64 m, byt k] (.bool true) := ml_core n m k _ _ _ _ _ _ _ _ _ _ _ hn hm hk _ rfl rfl rfl rfl rfl rfl rfl rfl rfl rfl rfl rfl

abbrev curveMultiplesLaid : List (String × DataW Unit) := Rows.curveMultiplesRow.laid
theorem curveMultiples_met (os : Os) (args : Array Value) : laidMetH Tryd.prog curveMultiplesLaid ((World.doorLaid Tryd.prog 400 os).forCall (fun _ _ => 0) ⟨#[], args, []⟩).memory :=
  laidMetH_of_parts3 (fuel := 8) (laidMet_of_run' 8 (by kernel_rfl) (by kernel_rfl)) (by kernel_rfl) (by kernel_rfl)

theorem curveMultiples_lifted (os : Os) (started : os.Started) (H : Type) (enc : TypeId × Value → H) :
    ReturnsInHanded {} Tryd.checked os 5 .any (fun w args => (Rows.curveMultiplesSpec.pre enc Tryd.prog Tryd.f5 [] false w args ∧ laidMetH Tryd.prog curveMultiplesLaid w) ∧ sizedMet enc Tryd.prog Tryd.f5 (OpenSpec.ofChange Rows.curveMultiplesSpec) false w args)
      (Rows.curveMultiplesSpec.post enc Tryd.prog Tryd.f5 false true false false) := by
  refine returnsInHanded_of_change_and (C := Tryd.checked) (X := fun w _ => laidMetH Tryd.prog curveMultiplesLaid w) (fun _ _ _ hh h => h.of_heap hh) own started (by kernel_rfl) Tryd.func5
    (ChangeSpec.witness_shaped (enc := enc) (C := Tryd.checked) (os := os) (X := fun w _ => laidMetH Tryd.prog curveMultiplesLaid w) false (World.doorLaid Tryd.prog 400 os) #[.int .u64 0, .int .u64 0, byt 0] 8 rfl (World.shaped_of_RefB (by kernel_rfl) (by kernel_rfl)) (by kernel_rfl) (by kernel_rfl) (by kernel_rfl) (curveMultiples_met os _)) ?_
  intro W base args ds gs before hval0 hW _ _ hL _
  have hval : ∀ (j : Nat) t v, Tryd.f5.params[j]? = some t → args[j]? = some v → Value.okWide Tryd.prog W .any base t v := hval0
  have hW' := hW
  obtain ⟨p, q, hA0, hV, rfl, hfz, hnd⟩ := hW
  have hA : DataW.TrodAll enc Tryd.prog W 0 (fun _ => true) true Tryd.f5.params.toList args.toList ds p := hA0
  rw [Tryd.params5] at hA hval
  obtain ⟨v0, vs0, d0, ds0, p0, q0, hargs, rfl, rfl, h0, r0⟩ := trodAll_cons hA
  obtain ⟨v1, vs1, d1, ds1, p1, q1, rfl, rfl, rfl, h1, r1⟩ := trodAll_cons r0
  obtain ⟨v2, vs2, d2, ds2, p2, q2, rfl, rfl, rfl, h2, r2⟩ := trodAll_cons r1
  obtain ⟨rfl, rfl, rfl⟩ := trodAll_nil r2
  obtain rfl : args = #[v0, v1, v2] := by cases args; simp_all
  obtain ⟨rfl, rfl⟩ := trodVars_none hV
  obtain ⟨n0, rfl, rfl, rfl, w0⟩ := open_int Tryd.underlying36 (hval 0 _ v0 rfl rfl) h0
  have s0 := plain_int (H := H) Tryd.underlying36 w0
  obtain ⟨a0, rfl, b0⟩ := word_of w0
  obtain ⟨n1, rfl, rfl, rfl, w1⟩ := open_int Tryd.underlying36 (hval 1 _ v1 rfl rfl) h1
  have s1 := plain_int (H := H) Tryd.underlying36 w1
  obtain ⟨a1, rfl, b1⟩ := word_of w1
  obtain ⟨a2, b2, rfl, rfl, s2⟩ := open_num (hval 2 _ v2 rfl rfl) h2
  clear hA0 hval0
  simp only [List.append_nil] at hW'
  refine ((curveMultiples_law a0 a1 a2 b0 b1 b2).2 W (laidM hL)).mono fun e W' ⟨he, hg⟩ => ?_
  subst he
  exact ⟨_, rfl, post_below (pa := []) (pv := []) hW' (fun _ _ _ => trodAll_cons_mk (shut_bool Tryd.underlying4 _) trodAll_mk0) (fun sp _ => (trodAll_cons_mk (s0 _ _ _ _ _) (trodAll_cons_mk (s1 _ _ _ _ _) (trodAll_cons_mk (s2 _ _ _ _ _) trodAll_mk0)))) (fun _ _ => rfl) rfl
    hg (ok_one (by kernel_rfl) rfl (okWide_bool_mk Tryd.underlying4 _))⟩

theorem curveMultiples_over : Rows.CurveMultiplesSaid :=
  OpenClaim.holds_of_wide 5 Tryd.f5 rfl rfl rfl rfl rfl rfl rfl ⟨rfl, rfl, rfl, rfl, rfl⟩ rfl rfl rfl rfl rfl (by kernel_rfl) Tryd.func5 (by kernel_rfl)
    (of_decide_eq_true (by kernel_rfl)) (by unfold Func.isWrapper; first | (rw [if_pos (by decide +kernel)]; kernel_rfl) | (rw [if_neg (by decide +kernel)]; exact ⟨rfl, rfl⟩))
    (fun os started H enc _ => curveMultiples_lifted os started H enc)

/-- THE STATEMENT. -/
theorem curveMultiples_holds : Rows.CurveMultiplesCardSaid :=
  Claim7.holds_tied_plain_at .later [] [.data, .data, .data, .data, .data] true (true, "4fd09045e6821276d435d2d4998247e0789e5cdd2116a89db7f4265888bac662") false
    curveMultiples_over (fun _ h => by cases h) (by kernel_rfl) (fun _ h => by cases h) curveMultiples_row_tie rfl ⟨rfl, rfl⟩ (by kernel_rfl) rfl
    (fun f fn hf hfn => by
      obtain rfl : f = 5 := Option.some.inj ((show Tryd.prog.funcNamed "tryst/trystlaw08.CurveMultiples" = some 5 by kernel_rfl).symm.trans hf) |>.symm
      obtain rfl : fn = Tryd.f5 := (Option.some.inj (Tryd.func5.symm.trans hfn)).symm
      exact ⟨by kernel_rfl, fun j t ht => by
        rw [Tryd.params5] at ht
        have hm : t ∈ [36, 36, 23] := by simpa using Array.mem_of_getElem? ht
        have hall : ([36, 36, 23].all fun u => !Tryd.prog.wantsStandIn u) = true := by kernel_rfl
        exact (show Tryd.prog.wantsStandIn t = false by simpa using List.all_eq_true.1 hall t hm)⟩)
    (by kernel_rfl)
#print axioms curveMultiples_holds
end Go.Proofs.YtnlhpiieihnbiaaDoor
