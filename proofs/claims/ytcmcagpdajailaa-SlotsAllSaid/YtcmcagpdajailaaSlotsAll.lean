/-
  SlotsAll: for all its arguments the law returns true. Conditions: none.
-/
import Derived.Test.YtcmcagpdajailaaSr
namespace Go.Proofs.Ytcmcagpdajailaa
open Go.Sh
open Go.ChangeShapes Go.WideShapes Go.ChangeAt Go.RowKit
set_option maxRecDepth 100000

theorem two_conc {ν : Nat → Int} {x : AV} {u : Value} (h : conc2 ν x = some u) : concT ν [x, ii 0] = some [u, .int .i64 ((0 : Nat) : Int)] := by
  show (match conc2 ν x, concT ν [ii 0] with | some v, some l => some (v :: l) | _, _ => none) = _
  rw [h]
  rfl
theorem xA_conc (ν : Nat → Int) (m o : Nat) : ∃ u, conc2 ν (xA m o) = some u := by
  unfold xA
  split
  · exact ⟨_, rfl⟩
  · exact ⟨_, rfl⟩
theorem tmP_ok {l : List Nat} (h : Rises l) (R : Nat) (hR : R ≤ 1099511627776) : ∀ q ∈ tmP l.length (R % lastOf l.length), q.Ok (nuR l (R : Int)) Try.prog [] := by
  intro q hq
  simp only [tmP, List.mem_flatMap, List.mem_map, List.mem_range] at hq
  obtain ⟨i, hi, j, hj, rfl⟩ := hq
  obtain ⟨u, hu⟩ := xA_conc (nuR l (R : Int)) l.length (meetsN l.length i ((R % lastOf l.length + j) % lastOf l.length))
  have hl : 0 < lastOf l.length := lastOf_pos h.one
  refine rowM_of (us := [u, .int .i64 ((0 : Nat) : Int)]) (factsJ_ok h R hR) mixed tab_ok (fun p hp => by cases hp) (fun r hr => by cases hr) (fun r hr => by cases hr) (fun r hr => by cases hr)
    (goP_all _ _ i j h.one h.most (Nat.mod_lt _ hl) hi hj) (by show 64 ≤ 64 + 2 * l.length; omega) (fun p hp => ?_) ?_ ?_ ?_
  · simp only [needM, List.mem_cons, List.not_mem_nil, or_false] at hp
    subst hp
    exact ⟨by show 63 + 2 * l.length < 64 + 2 * l.length; omega, by show 3 ≠ mapTag; decide, _, concL_all (R : Int) l⟩
  · simp [argsP, inB, slM, iS, needM]
  · exact two_conc hu
  · show (concT _ _).map (fun vs => Value.tuple vs.toArray) = _
    rw [show concT (nuR l (R : Int)) (resP l.length (R % lastOf l.length) i j) = _ from two_conc hu]
    rfl

theorem goAll_all : ∀ m r, 1 ≤ m → m ≤ 8 → r < lastOf m → goRAll m r = true
  | 0, _, h, _, _ => by omega
  | 1, 0, _, _, _ => goAll_1_0
  | 1, r + 1, _, _, h => by have : lastOf 1 = 1 := rfl; omega
  | 2, 0, _, _, _ => goAll_2_0
  | 2, r + 1, _, _, h => by have : lastOf 2 = 1 := rfl; omega
  | 3, 0, _, _, _ => goAll_3_0
  | 3, 1, _, _, _ => goAll_3_1
  | 3, 2, _, _, _ => goAll_3_2
  | 3, r + 3, _, _, h => by have : lastOf 3 = 3 := rfl; omega
  | 4, 0, _, _, _ => goAll_4_0
  | 4, 1, _, _, _ => goAll_4_1
  | 4, 2, _, _, _ => goAll_4_2
  | 4, r + 3, _, _, h => by have : lastOf 4 = 3 := rfl; omega
  | 5, 0, _, _, _ => goAll_5_0
  | 5, 1, _, _, _ => goAll_5_1
  | 5, 2, _, _, _ => goAll_5_2
  | 5, 3, _, _, _ => goAll_5_3
  | 5, 4, _, _, _ => goAll_5_4
  | 5, r + 5, _, _, h => by have : lastOf 5 = 5 := rfl; omega
  | 6, 0, _, _, _ => goAll_6_0
  | 6, 1, _, _, _ => goAll_6_1
  | 6, 2, _, _, _ => goAll_6_2
  | 6, 3, _, _, _ => goAll_6_3
  | 6, 4, _, _, _ => goAll_6_4
  | 6, r + 5, _, _, h => by have : lastOf 6 = 5 := rfl; omega
  | 7, 0, _, _, _ => goAll_7_0
  | 7, 1, _, _, _ => goAll_7_1
  | 7, 2, _, _, _ => goAll_7_2
  | 7, 3, _, _, _ => goAll_7_3
  | 7, 4, _, _, _ => goAll_7_4
  | 7, 5, _, _, _ => goAll_7_5
  | 7, 6, _, _, _ => goAll_7_6
  | 7, r + 7, _, _, h => by have : lastOf 7 = 7 := rfl; omega
  | 8, 0, _, _, _ => goAll_8_0
  | 8, 1, _, _, _ => goAll_8_1
  | 8, 2, _, _, _ => goAll_8_2
  | 8, 3, _, _, _ => goAll_8_3
  | 8, 4, _, _, _ => goAll_8_4
  | 8, 5, _, _, _ => goAll_8_5
  | 8, 6, _, _, _ => goAll_8_6
  | 8, r + 7, _, _, h => by have : lastOf 8 = 7 := rfl; omega
  | n + 9, _, _, h, _ => by omega

def nu2 (bits round : Int) : Nat → Int := fun k => if k = 0 then bits else round
def fB : Facts := ⟨[], [(.lss, rnd, .c (.ofNat 0), false), (.gtr, rnd, .c (.ofNat 1099511627776), false)]⟩
def icAx : IC := t4.body.sub [false]
def icBx : IC := t4.body.sub [true, false]
def icCx : IC := t4.body.sub [true, true, false]
def cutx : IC := .seq icAx (.seq icBx (.seq icCx icRAll))
theorem shapex : t4 = ⟨cutx, [.t 4], t4.slots⟩ := by kernel_rfl
theorem goAx : goes noF tree [] 60 2 icAx nowA .normal nowA = true := by kernel_rfl
theorem goBx : goes fB tree [] 60 2 icBx nowA .normal nowA = true := by kernel_rfl
noncomputable def goCx (p : Nat) : Bool := goes (bitF p) tree [] 400 4 icCx nowA .normal (nowC p)
theorem goCx_0 : (List.range 64).all (fun p => goCx p) = true := by kernel_rfl
theorem goCx_1 : (List.range 64).all (fun p => goCx (64 + p)) = true := by kernel_rfl
theorem goCx_2 : (List.range 64).all (fun p => goCx (128 + p)) = true := by kernel_rfl
theorem goCx_3 : (List.range 64).all (fun p => goCx (192 + p)) = true := by kernel_rfl
theorem goCx_all (p : Nat) (h : p < 256) : goCx p = true := by
  have k : ∀ a, (List.range 64).all (fun q => goCx (a + q)) = true → a ≤ p → p < a + 64 → goCx p = true := by
    intro a ha h1 h2
    have := List.all_eq_true.1 ha (p - a) (List.mem_range.2 (by omega))
    rwa [show a + (p - a) = p by omega] at this
  by_cases h0 : p < 64
  · exact List.all_eq_true.1 goCx_0 p (List.mem_range.2 h0)
  by_cases h1 : p < 128
  · exact k 64 goCx_1 (by omega) h1
  by_cases h2 : p < 192
  · exact k 128 goCx_2 (by omega) h2
  · exact k 192 goCx_3 (by omega) h
theorem neg_says : says ⟨[], [(.lss, rnd, .c (.ofNat 0), true)]⟩ tree [] 60 3 4 [iS 0, iS 1] (heap0 [] gmax) (.b true) = true := by kernel_rfl
theorem ins2 (bits round : Int) : concT (nu2 bits round) [iS 0, iS 1] = some [.int .i64 bits, .int .i64 round] := rfl
theorem e0x : ∀ q ∈ nowA.e, ([iS 0, iS 1] : List AV)[q.1]? = some q.2 := by
  intro q hq
  simp only [nowA, List.mem_cons, List.not_mem_nil, or_false] at hq
  rcases hq with rfl | rfl <;> rfl
theorem resx (n : Nat) : resA (trL [(4, AV.b true)]) (heapL [] n) [.t 4] = some (.b true) := by kernel_rfl
theorem tabx : tree.get 4 = some t4 := by kernel_rfl
theorem lenx : ([iS 0, iS 1] : List AV).length ≤ t4.slots := by decide +kernel
theorem namedR {l : List Nat} {w : Int} (ν : Nat → Int) (h : ν 1 = w) : nuR l (ν 1) = nuR l w := by rw [h]
theorem big_says : says ⟨[], [(.lss, rnd, .c (.ofNat 0), false), (.gtr, rnd, .c (.ofNat 1099511627776), true)]⟩ tree [] 60 3 4 [iS 0, iS 1] (heap0 [] gmax) (.b true) = true := by kernel_rfl
theorem slotsAll_law (bits round : Int) (_ : (Lit.int .i64 bits).wf = true) (_ : (Lit.int .i64 round).wf = true) : Pure Try.prog 4 [.int .i64 bits, .int .i64 round] (.bool true) := by
  by_cases hneg : round < 0
  · refine pure_of (ν := nu2 bits round) (args := [iS 0, iS 1]) ⟨fun q hq => (by cases hq), fun q hq => ?_⟩ mixed tab_ok (fun r hr => by cases hr) neg_says (ins2 bits round) rfl
    simp only [List.mem_cons, List.not_mem_nil, or_false] at hq
    subst hq
    show decide (round < 0) = true
    exact decide_eq_true hneg
  obtain ⟨R, rfl⟩ : ∃ R : Nat, round = (R : Int) := ⟨round.toNat, by omega⟩
  by_cases hbig : 1099511627776 < R
  · refine pure_of (ν := nu2 bits R) (args := [iS 0, iS 1]) ⟨fun q hq => (by cases hq), fun q hq => ?_⟩ mixed tab_ok (fun r hr => by cases hr) big_says (ins2 bits R) rfl
    simp only [List.mem_cons, List.not_mem_nil, or_false] at hq
    rcases hq with rfl | rfl
    · show decide ((R : Int) < 0) = false
      exact decide_eq_false hneg
    · show decide ((R : Int) > 1099511627776) = true
      exact decide_eq_true (by omega)
  obtain ⟨p, hp, hF⟩ := bits_are (nu2 bits R)
  have hm := mem_ok p hp
  have hB : fB.Hold (nu2 bits R) := by
    refine ⟨fun q hq => (by cases hq), fun q hq => ?_⟩
    simp only [fB, List.mem_cons, List.not_mem_nil, or_false] at hq
    rcases hq with rfl | rfl
    · show decide ((R : Int) < 0) = false
      exact decide_eq_false hneg
    · show decide ((R : Int) > 1099511627776) = false
      exact decide_eq_false (by omega)
  have hr : R % lastOf (mem p).length < lastOf (mem p).length := Nat.mod_lt _ (lastOf_pos hm.one)
  refine pure_tri (ν := nu2 bits R) (ν' := nuR (mem p) R) (o := ⟨[(4, .b true)], [], 64 + 2 * (mem p).length⟩) (r := .b true) (args := [iS 0, iS 1]) tree tab_ok tabx shapex (ins2 bits R) lenx nowA.e e0x (fun w0 => ?_) (resx _) rfl
  refine Tri.seq (Tri.run (i := nowA) (noFacts_hold _) mixed tab_ok (fun r hr => by cases hr) goAx) ?_ (fun ex a w hne h => (hne h.1).elim)
  refine Tri.weak (Pre := Holds _ w0 (nu2 bits R) nowA) ?_ (fun _ _ h => h.2) (fun _ _ _ h => h)
  refine Tri.seq (Tri.run (i := nowA) hB mixed tab_ok (fun r hr => by cases hr) goBx) ?_ (fun ex a w hne h => (hne h.1).elim)
  refine Tri.weak (Pre := Holds _ w0 (nu2 bits R) nowA) ?_ (fun _ _ h => h.2) (fun _ _ _ h => h)
  refine Tri.seq (Tri.run (i := nowA) hF mixed tab_ok (fun r hr => by cases hr) (goCx_all p hp)) ?_ (fun ex a w hne h => (hne h.1).elim)
  refine Tri.weak (Pre := Holds _ w0 (nuR (mem p) R) (nowN (mem p).length)) ?_ (fun act w h => named hp h.2) (fun _ _ _ h => h)
  refine Tri.weak (Pre := HoldsG _ w0 (nuR (mem p) R) [] (nowN (mem p).length)) ?_ (fun act w h => h.toG) (fun _ _ _ h => h)
  exact (Tri.runA (i := nowN (mem p).length) (factsJ_ok hm R (by omega)) mixed tab_ok (fun p hp => by cases hp) (wkR_ok _) (fun r hr => by cases hr) (tmP_ok hm R (by omega)) (goAll_all _ _ hm.one hm.most hr)).weak (fun _ _ h => h) (fun ex act w h => ⟨.inr h.1, h.2.ofG⟩)

theorem own : ownKnob Try.prog.godebug = none := by kernel_rfl
theorem Pure.calls {f : Nat} {fn : Func} {us : List Value} {u : Value} (h : Pure Try.prog f us u) (hf : Try.prog.funcs[f]? = some fn) (hb : fn.body.isSome = true) (hn : (fn.name == "runtime.NumGoroutine") = false) (w : World) :
    Calls Try.prog f us.toArray w fun e w' => e = .returned u ∧ Below w.heap.size w w' := by
  rcases h with ⟨_, h⟩ | h
  · exact h w
  · exfalso
    have h1 := h w
    have h4 : ¬ fn.body = none := by intro hq; rw [hq] at hb; cases hb
    simp only [beq_eq_false_iff_ne, ne_eq] at hn
    simp [callFunc, hf, hn, h4] at h1

theorem slotsAll_lifted (os : Os) (started : os.Started) (H : Type) (enc : TypeId × Value → H) :
    ReturnsInHanded {} Try.checked os 4 .any (Rows.slotsAllSpec.pre6 enc Try.prog Try.f4 Rows.slotsAllRow.domain false) (Rows.slotsAllSpec.post enc Try.prog Try.f4 false true false false) := by
  refine returnsInHanded_of_change (C := Try.checked) own started (by kernel_rfl) Try.func4
    (ChangeSpec.witness6 (enc := enc) (C := Try.checked) false ⟨#[], #[.int .i64 0, .int .i64 0], []⟩ 8 (by kernel_rfl) (by kernel_rfl) (by kernel_rfl) (by kernel_rfl)) ?_
  intro W base args ds gs before hval0 hW hcnd _
  have hval : ∀ (j : Nat) t v, Try.f4.params[j]? = some t → args[j]? = some v → Value.okWide Try.prog W .any base t v := hval0
  have hW' := hW
  obtain ⟨p, q, hA0, hV, rfl, hfz, hnd⟩ := hW
  have hA : DataW.TrodAll enc Try.prog W 0 (fun _ => true) true Try.f4.params.toList args.toList ds p := hA0
  rw [Try.params4] at hA hval
  obtain ⟨v0, vs0, d0, ds0, p0, q0, hargs, rfl, rfl, h0, r0⟩ := trodAll_cons hA
  obtain ⟨v1, vs1, d1, ds1, p1, q1, rfl, rfl, rfl, h1, r1⟩ := trodAll_cons r0
  obtain ⟨rfl, rfl, rfl⟩ := trodAll_nil r1
  obtain rfl : args = #[v0, v1] := by cases args; simp_all
  obtain ⟨rfl, rfl⟩ := trodVars_none hV
  obtain ⟨a0, rfl, rfl, rfl, b0⟩ := open_int Try.underlying3 (hval 0 _ v0 rfl rfl) h0
  have s0 := plain_int (H := H) Try.underlying3 b0
  obtain ⟨a1, rfl, rfl, rfl, b1⟩ := open_int Try.underlying3 (hval 1 _ v1 rfl rfl) h1
  have s1 := plain_int (H := H) Try.underlying3 b1
  clear hA0 hval0
  simp only [List.append_nil] at hW'
  refine (Pure.calls (slotsAll_law a0 a1 b0 b1) Try.func4 (by kernel_rfl) (by kernel_rfl) W).mono fun e W' ⟨he, hg⟩ => ?_
  subst he
  exact ⟨_, rfl, post_below (pa := []) (pv := []) hW' (fun _ _ _ => trodAll_cons_mk (shut_bool Try.underlying4 _) trodAll_mk0) (fun sp _ => (trodAll_cons_mk (s0 _ _ _ _ _) (trodAll_cons_mk (s1 _ _ _ _ _) trodAll_mk0))) (fun _ _ => rfl) rfl
    hg (ok_one (by kernel_rfl) rfl (okWide_bool_mk Try.underlying4 _))⟩

/-- THE STATEMENT. -/
theorem slotsAll_holds : Rows.SlotsAllSaid :=
  OpenClaim.holds_of_wide 4 Try.f4 rfl rfl rfl rfl rfl rfl rfl ⟨rfl, rfl, rfl, rfl, rfl⟩ rfl rfl rfl rfl rfl (by kernel_rfl) Try.func4 (by kernel_rfl)
    (of_decide_eq_true (by kernel_rfl)) (by unfold Func.isWrapper; first | (rw [if_pos (by decide +kernel)]; kernel_rfl) | (rw [if_neg (by decide +kernel)]; exact ⟨rfl, rfl⟩))
    (fun os started H enc _ => slotsAll_lifted os started H enc)
#print axioms slotsAll_holds

end Go.Proofs.Ytcmcagpdajailaa
