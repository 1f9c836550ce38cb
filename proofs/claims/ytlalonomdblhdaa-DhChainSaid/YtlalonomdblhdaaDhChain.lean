/-
  DhChain: for all its arguments the law returns true. Conditions: none.
-/
import Derived.Test.YtlalonomdblhdaaDh
namespace Go.Proofs.Ytlalonomdblhdaa
open Go.Sh
open Go.ChangeShapes Go.WideShapes Go.ChangeAt Go.RowKit
set_option maxRecDepth 100000

theorem chf : ∃ f : Nat → Nat → Nat, ∀ a b, (lad (kmask a) (em (pmask b))).val = f a b := ⟨fun a b => (lad (kmask a) (em (pmask b))).val, fun _ _ => rfl⟩
/-- Key by key: what is made by f. -/
def ch (f : Nat → Nat → Nat) (k : Nat) : Nat → Nat
  | 0 => k
  | 1 => f k 9
  | j + 2 => f (ch f k (j + 1)) (ch f k j)
def chL (f : Nat → Nat → Nat) (k : Nat) : List Nat := (List.range 12).map (ch f k)
section
variable {f : Nat → Nat → Nat} (hf : ∀ a b, (lad (kmask a) (em (pmask b))).val = f a b)
theorem chL_get (k j : Nat) (hj : j < 12) : (chL f k).getD j 0 = ch f k j := by
  unfold chL
  rw [List.getD_eq_getElem?_getD, List.getElem?_map, List.getElem?_range hj]
  rfl
theorem ch_0 (k : Nat) : ch f k 0 = k := by simp only [ch]
theorem ch_1 (k : Nat) : ch f k 1 = f k 9 := by simp only [ch]
theorem ch_2 (k j : Nat) : ch f k (j + 2) = f (ch f k (j + 1)) (ch f k j) := by simp only [ch]
include hf in
theorem ch_lt (k j : Nat) (hj : 0 < j) : ch f k j < B4 := by
  match j, hj with
  | 1, _ => rw [ch_1, ← hf]; exact lad_lt _ _
  | j + 2, _ => rw [ch_2, ← hf]; exact lad_lt _ _

def cA (j : Nat) : AV := rw8 (j - 1)
def cB (j : Nat) : AV := if j = 1 then kB 9 else rw8 (j - 2)
def cOk (j : Nat) : List Row := [⟨11, [cA j, cB j], .tp [rw8 j, eOK]⟩, ⟨10, [cA j, cB j], rw8 j⟩]
def cZe (j : Nat) : List Row := [⟨11, [cA j, cB j], .tp [kB 0, eZero]⟩, ⟨10, [cA j, cB j], kB 0⟩]
def cW : List Row := [⟨12, [], .b true⟩]
def cT (m : Nat) : List Row := (List.range m).flatMap (fun i => cOk (i + 1)) ++ cW
def cTZ (z : Nat) : List Row := (List.range (z - 1)).flatMap (fun i => cOk (i + 1)) ++ (cZe z ++ cW)
def cE : AI := .w .i64 (.e .rem .u64 (.w .u64 (.s 10000)) (.c (.ofNat 12)))
def cLt (i : Nat) (b : Bool) : BinOp × AI × AI × Bool := (.lss, .c (.ofNat i), cE, b)
def cF (m : Nat) : Facts := ⟨[], (List.range m).map (fun i => cLt i true) ++ (cLt m false :: (List.range m).map (fun i => neZ (i + 1)))⟩
def cFZ (z : Nat) : Facts := ⟨[], (List.range z).map (fun i => cLt i true) ++ (List.range (z - 1)).map (fun i => neZ (i + 1))⟩
noncomputable def cSay (m : Nat) : Bool := says (cF m) tree (cT m) 200 6 7 [rw8 0, .i .i64 (.s 10000)] (heap0 [] gmax) (.b true)
noncomputable def cSayZ (z : Nat) : Bool := says (cFZ (z + 1)) tree (cTZ (z + 1)) 200 6 7 [rw8 0, .i .i64 (.s 10000)] (heap0 [] gmax) (.b true)
theorem c_says : (List.range 12).all cSay = true := by kernel_rfl
theorem c_saysZ : (List.range 11).all cSayZ = true := by kernel_rfl

theorem cE_val (l : List Nat) (a : Int) : ∃ m : Nat, m < 12 ∧ cE.val (nuN l a) = (m : Int) := by
  have e : cE.val (nuN l a) = IntKind.i64.wrap (Int.tmod (IntKind.u64.wrap a) 12) := rfl
  rw [e, Sh.wrap64]
  have h1 : 0 ≤ a % 18446744073709551616 := Int.emod_nonneg _ (by decide)
  rw [Int.tmod_eq_emod_of_nonneg h1]
  refine ⟨(a % 18446744073709551616 % 12).toNat, by omega, ?_⟩
  simp only [IntKind.wrap, IntKind.signed, IntKind.bits]
  simp
  omega

theorem c_args (k : Nat) (a : Int) : concT (nuN (chL f k) a) [rw8 0, .i .i64 (.s 10000)] = some [byt k, .int .i64 a] := by
  have h := nuNR (chL f k) a (j := 0) (by decide)
  rw [chL_get k 0 (by decide)] at h
  rw [ch_0] at h
  have h1 : conc2 (nuN (chL f k) a) (.i .i64 (.s 10000)) = some (.int .i64 a) := by
    show some (Value.int .i64 (nuN (chL f k) a 10000)) = _
    unfold nuN
    rw [if_pos rfl]
  simp only [concT, h, h1]
theorem c_A (k : Nat) (a : Int) (j : Nat) (h0 : 0 < j) (hj : j < 12) : conc2 (nuN (chL f k) a) (cA j) = some (byt (ch f k (j - 1))) := by
  have h := nuNR (chL f k) a (j := j - 1) (by omega)
  rwa [chL_get k (j - 1) (by omega)] at h
theorem c_B (k : Nat) (a : Int) (j : Nat) (h0 : 0 < j) (hj : j < 12) : conc2 (nuN (chL f k) a) (cB j) = some (byt (if j = 1 then 9 else ch f k (j - 2))) := by
  unfold cB
  by_cases h1 : j = 1
  · rw [if_pos h1, if_pos h1]
    exact kB_val _ 9
  · rw [if_neg h1, if_neg h1]
    have h := nuNR (chL f k) a (j := j - 2) (by omega)
    rwa [chL_get k (j - 2) (by omega)] at h
include hf in
theorem ch_eq (k j : Nat) (h0 : 0 < j) : (lad (kmask (ch f k (j - 1))) (em (pmask (if j = 1 then 9 else ch f k (j - 2))))).val = ch f k j := by
  rw [hf]
  match j, h0 with
  | 1, _ => rw [if_pos rfl, ch_1, show 1 - 1 = 0 from rfl, ch_0]
  | j + 2, _ => rw [if_neg (by omega), ch_2, show j + 2 - 1 = j + 1 by omega, show j + 2 - 2 = j by omega]
include hf in
theorem cOk_ok (k : Nat) (a : Int) (j : Nat) (h0 : 0 < j) (hj : j < 12) (hn : ch f k j ≠ 0) : ∀ r ∈ cOk j, r.Ok (nuN (chL f k) a) Try.prog := by
  have hR := nuNR (chL f k) a (j := j) (by omega)
  rw [chL_get k j hj] at hR
  have hRc := nuNRc (chL f k) a (j := j) (by omega)
  rw [chL_get k j hj] at hRc
  intro r hr
  simp only [cOk, List.mem_cons, List.not_mem_nil, or_false] at hr
  rcases hr with rfl | rfl
  · exact rowShared (ch_eq hf k j h0) hn (c_A k a j h0 hj) (c_B k a j h0 hj) hR
  · exact rowLadder (ch_eq hf k j h0) (c_A k a j h0 hj) (c_B k a j h0 hj) hRc
include hf in
theorem cZe_ok (k : Nat) (a : Int) (j : Nat) (h0 : 0 < j) (hj : j < 12) (hz : ch f k j = 0) : ∀ r ∈ cZe j, r.Ok (nuN (chL f k) a) Try.prog := by
  intro r hr
  simp only [cZe, List.mem_cons, List.not_mem_nil, or_false] at hr
  rcases hr with rfl | rfl
  · exact rowShared0 ((ch_eq hf k j h0).trans hz) (c_A k a j h0 hj) (c_B k a j h0 hj)
  · exact rowLadder ((ch_eq hf k j h0).trans hz) (c_A k a j h0 hj) (c_B k a j h0 hj) (kB_valc _ 0)
include hf in
theorem cOks_ok (k : Nat) (a : Int) (m : Nat) (hm : m < 12) (hn : ∀ j, 0 < j → j ≤ m → ch f k j ≠ 0) : ∀ r ∈ (List.range m).flatMap (fun i => cOk (i + 1)), r.Ok (nuN (chL f k) a) Try.prog := by
  intro r hr
  obtain ⟨i, hi, hr⟩ := List.mem_flatMap.1 hr
  have := List.mem_range.1 hi
  exact cOk_ok hf k a (i + 1) (by omega) (by omega) (hn (i + 1) (by omega) (by omega)) r hr

theorem first_zero (p : Nat → Prop) [∀ j, Decidable (p j)] : ∀ m, (∀ j, 0 < j → j ≤ m → ¬ p j) ∨ ∃ z, 0 < z ∧ z ≤ m ∧ p z ∧ ∀ j, 0 < j → j < z → ¬ p j := by
  intro m
  induction m with
  | zero => exact .inl fun j h1 h2 => by omega
  | succ m ih =>
    rcases ih with h | ⟨z, h1, h2, h3, h4⟩
    · by_cases hp : p (m + 1)
      · exact .inr ⟨m + 1, by omega, by omega, hp, fun j g1 g2 => h j g1 (by omega)⟩
      · refine .inl fun j g1 g2 => ?_
        by_cases e : j = m + 1
        · subst e; exact hp
        · exact h j g1 (by omega)
    · exact .inr ⟨z, h1, by omega, h3, h4⟩

theorem cLt_hold {k : Nat} {a : Int} {m i : Nat} (hm : cE.val (nuN (chL f k) a) = (m : Int)) (b : Bool) (hb : decide (i < m) = b) : compare (cLt i b).1 ((cLt i b).2.1.val (nuN (chL f k) a)) ((cLt i b).2.2.1.val (nuN (chL f k) a)) = (cLt i b).2.2.2 := by
  show decide ((i : Int) < cE.val (nuN (chL f k) a)) = b
  rw [hm, ← hb]
  by_cases h : i < m
  · rw [decide_eq_true h, decide_eq_true (by omega)]
  · rw [decide_eq_false h, decide_eq_false (by omega)]
end

theorem dhChain_law (k : Nat) (a : Int) (hk : k < B4) (ha : (Lit.int .i64 a).wf = true) : Pure Try.prog 7 [byt k, .int .i64 a] (.bool true) := by
  have _ := hk
  have _ := ha
  obtain ⟨f, hf⟩ := chf
  obtain ⟨m, hm12, hm⟩ := cE_val (chL f k) a
  rcases first_zero (fun j => ch f k j = 0) m with hn | ⟨z, z0, zm, hz, hn⟩
  · refine pure_of (ν := nuN (chL f k) a) (F := cF m) (T := cT m) ⟨fun q hq => (by cases hq), fun q hq => ?_⟩ mixed tab_ok (fun r hr => ?_) (List.all_eq_true.1 c_says m (List.mem_range.2 hm12)) (c_args k a) rfl
    · rcases List.mem_append.1 hq with hq | hq
      · obtain ⟨i, hi, rfl⟩ := List.mem_map.1 hq
        exact cLt_hold hm true (decide_eq_true (List.mem_range.1 hi))
      · rcases List.mem_cons.1 hq with rfl | hq
        · exact cLt_hold hm false (decide_eq_false (by omega))
        · obtain ⟨i, hi, rfl⟩ := List.mem_map.1 hq
          have := List.mem_range.1 hi
          exact neZN_holds (by omega) (chL_get k (i + 1) (by omega)) (ch_lt hf k (i + 1) (by omega)) (hn (i + 1) (by omega) (by omega))
    · rcases List.mem_append.1 hr with hr | hr
      · exact cOks_ok hf k a m hm12 hn r hr
      · simp only [cW, List.mem_cons, List.not_mem_nil, or_false] at hr
        subst hr
        exact rowWakes
  · have hs := List.all_eq_true.1 c_saysZ (z - 1) (List.mem_range.2 (by omega))
    have hs' : says (cFZ z) tree (cTZ z) 200 6 7 [rw8 0, .i .i64 (.s 10000)] (heap0 [] gmax) (.b true) = true := by
      have e : z - 1 + 1 = z := by omega
      unfold cSayZ at hs
      rwa [e] at hs
    refine pure_of (ν := nuN (chL f k) a) (F := cFZ z) (T := cTZ z) ⟨fun q hq => (by cases hq), fun q hq => ?_⟩ mixed tab_ok (fun r hr => ?_) hs' (c_args k a) rfl
    · rcases List.mem_append.1 hq with hq | hq
      · obtain ⟨i, hi, rfl⟩ := List.mem_map.1 hq
        have := List.mem_range.1 hi
        exact cLt_hold hm true (decide_eq_true (by omega))
      · obtain ⟨i, hi, rfl⟩ := List.mem_map.1 hq
        have := List.mem_range.1 hi
        exact neZN_holds (by omega) (chL_get k (i + 1) (by omega)) (ch_lt hf k (i + 1) (by omega)) (hn (i + 1) (by omega) (by omega))
    · rcases List.mem_append.1 hr with hr | hr
      · exact cOks_ok hf k a (z - 1) (by omega) (fun j h1 h2 => hn j h1 (by omega)) r hr
      · rcases List.mem_append.1 hr with hr | hr
        · exact cZe_ok hf k a z z0 (by omega) hz r hr
        · simp only [cW, List.mem_cons, List.not_mem_nil, or_false] at hr
          subst hr
          exact rowWakes

theorem dhChain_lifted (os : Os) (started : os.Started) (H : Type) (enc : TypeId × Value → H) :
    ReturnsInHanded {} Try.checked os 7 .any (Rows.dhChainSpec.pre6 enc Try.prog Try.f7 Rows.dhChainRow.domain false) (Rows.dhChainSpec.post enc Try.prog Try.f7 false true false false) := by
  refine returnsInHanded_of_change (C := Try.checked) own started (by kernel_rfl) Try.func7
    (ChangeSpec.witness6 (enc := enc) (C := Try.checked) false ⟨#[], #[byt 0, .int .i64 0], []⟩ 8 (by kernel_rfl) (by kernel_rfl) (by kernel_rfl) (by kernel_rfl)) ?_
  intro W base args ds gs before hval0 hW hcnd _
  have hval : ∀ (j : Nat) t v, Try.f7.params[j]? = some t → args[j]? = some v → Value.okWide Try.prog W .any base t v := hval0
  have hW' := hW
  obtain ⟨p, q, hA0, hV, rfl, hfz, hnd⟩ := hW
  have hA : DataW.TrodAll enc Try.prog W 0 (fun _ => true) true Try.f7.params.toList args.toList ds p := hA0
  rw [Try.params7] at hA hval
  obtain ⟨v0, vs0, d0, ds0, p0, q0, hargs, rfl, rfl, h0, r0⟩ := trodAll_cons hA
  obtain ⟨v1, vs1, d1, ds1, p1, q1, rfl, rfl, rfl, h1, r1⟩ := trodAll_cons r0
  obtain ⟨rfl, rfl, rfl⟩ := trodAll_nil r1
  obtain rfl : args = #[v0, v1] := by cases args; simp_all
  obtain ⟨rfl, rfl⟩ := trodVars_none hV
  obtain ⟨a0, b0, rfl, rfl, s0⟩ := open_num (hval 0 _ v0 rfl rfl) h0
  obtain ⟨a1, rfl, rfl, rfl, b1⟩ := open_int Try.underlying3 (hval 1 _ v1 rfl rfl) h1
  have s1 := plain_int (H := H) Try.underlying3 b1
  clear hA0 hval0
  simp only [List.append_nil] at hW'
  refine (Pure.calls (dhChain_law a0 a1 b0 b1) Try.func7 (by kernel_rfl) (by kernel_rfl) W).mono fun e W' ⟨he, hg⟩ => ?_
  subst he
  exact ⟨_, rfl, post_below (pa := []) (pv := []) hW' (fun _ _ _ => trodAll_cons_mk (shut_bool Try.underlying4 _) trodAll_mk0) (fun sp _ => (trodAll_cons_mk (s0 _ _ _ _ _) (trodAll_cons_mk (s1 _ _ _ _ _) trodAll_mk0))) (fun _ _ => rfl) rfl
    hg (ok_one (by kernel_rfl) rfl (okWide_bool_mk Try.underlying4 _))⟩

/-- THE STATEMENT. -/
theorem dhChain_holds : Rows.DhChainSaid :=
  OpenClaim.holds_of_wide 7 Try.f7 rfl rfl rfl rfl rfl rfl rfl ⟨rfl, rfl, rfl, rfl, rfl⟩ rfl rfl rfl rfl rfl (by kernel_rfl) Try.func7 (by kernel_rfl)
    (of_decide_eq_true (by kernel_rfl)) (by unfold Func.isWrapper; first | (rw [if_pos (by decide +kernel)]; kernel_rfl) | (rw [if_neg (by decide +kernel)]; exact ⟨rfl, rfl⟩))
    (fun os started H enc _ => dhChain_lifted os started H enc)
#print axioms dhChain_holds
end Go.Proofs.Ytlalonomdblhdaa
