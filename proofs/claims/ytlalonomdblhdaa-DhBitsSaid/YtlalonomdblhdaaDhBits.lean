/-
  DhBits: for all its arguments the law returns true. Conditions: none.
-/
import Derived.Test.YtlalonomdblhdaaDh
namespace Go.Proofs.Ytlalonomdblhdaa
open Go.Sh
open Go.ChangeShapes Go.WideShapes Go.ChangeAt Go.RowKit
set_option maxRecDepth 100000

/-! Bytes that make a number; masks that take no notice of some bits. -/

theorem u8_inj {l m : List Nat} (h : l.map u8 = m.map u8) : l = m := by
  induction l generalizing m with
  | nil => cases m with | nil => rfl | cons b r => cases h
  | cons a l ih =>
    cases m with
    | nil => cases h
    | cons b r =>
      simp only [List.map_cons, List.cons.injEq] at h
      obtain ⟨h1, h2⟩ := h
      have : ((a : Nat) : Int) = ((b : Nat) : Int) := by
        unfold u8 at h1
        injection h1
      rw [ih h2]
      have : a = b := by omega
      rw [this]
theorem of_bytes (bs : List Nat) (hl : bs.length = 32) (hb : ∀ b ∈ bs, b < 256) : ∃ x, x < B4 ∧ byL x = bs := by
  obtain ⟨x, hx, h⟩ := bytes_num (bs.map fun n => ((n : Nat) : Int)) (by simpa using hl) (fun z hz => by
    obtain ⟨n, hn, rfl⟩ := List.mem_map.1 hz
    have := hb n hn
    simp [Lit.wf, IntKind.min, IntKind.max, IntKind.signed, IntKind.bits]
    omega)
  refine ⟨x, hx, ?_⟩
  have h2 : byt x = Value.agg ((bs.map u8).toArray) := by
    rw [← h, List.map_map]
    rfl
  have h3 : ((byL x).map u8).toArray = (bs.map u8).toArray := by
    unfold byt at h2
    injection h2
  exact u8_inj (by simpa using congrArg Array.toList h3)

theorem x64 : (List.range 256).all (fun x => decide ((x ^^^ 64) % 64 = x % 64) && decide (x ^^^ 64 < 256) && decide (((x ^^^ 128) ^^^ 64) % 64 = x % 64) && decide ((x ^^^ 128) ^^^ 64 < 256) && decide ((x ^^^ 128) % 128 = x % 128) && decide (x ^^^ 128 < 256)) = true := by decide +kernel
theorem x64' {x : Nat} (hx : x < 256) : (x ^^^ 64) % 64 = x % 64 ∧ x ^^^ 64 < 256 ∧ ((x ^^^ 128) ^^^ 64) % 64 = x % 64 ∧ (x ^^^ 128) ^^^ 64 < 256 ∧ (x ^^^ 128) % 128 = x % 128 ∧ x ^^^ 128 < 256 := by
  have h := List.all_eq_true.1 x64 x (List.mem_range.2 hx)
  simp only [Bool.and_eq_true, decide_eq_true_eq] at h
  exact ⟨h.1.1.1.1.1, h.1.1.1.1.2, h.1.1.1.2, h.1.1.2, h.1.2, h.2⟩
theorem o7 {x y : Nat} (hx : x < 256) (hy : y < 256) : ((x &&& 248) ||| (y &&& 7)) / 8 * 8 = x / 8 * 8 ∧ ((x &&& 248) ||| (y &&& 7)) < 256 := by
  have h := of_decide_eq_true (List.all_eq_true.1 m248 x (List.mem_range.2 hx))
  have h2 : y &&& 7 = y % 8 := Nat.and_two_pow_sub_one_eq_mod y 3
  rw [h, h2, Nat.mul_comm (x / 8) 8]
  have h3 : (8 * (x / 8)) ||| (y % 8) = 8 * (x / 8) + y % 8 := (Nat.two_pow_add_eq_or_of_lt (i := 3) (b := y % 8) (Nat.mod_lt _ (by decide)) (x / 8)).symm
  have _ := hy
  rw [h3]
  constructor <;> omega

def kE (t : Bool) : List AV := .i .u8 (.e .or .u8 (e248 0) (.e .and .u8 (.s 10000) (.c (.ofNat 7)))) :: ((List.range 30).map (fun i => bt (0 + 1 + i)) ++ [.i .u8 (.e .xor .u8 (if t then .e .xor .u8 (.s 31) (.c (.ofNat 128)) else .s 31) (.c (.ofNat 64)))])
def qE : List AV := (List.range 31).map (fun i => bt (32 + i)) ++ [.i .u8 (.e .xor .u8 (.s 63) (.c (.ofNat 128)))]
def kx (t : Bool) (x : Nat) : Nat := if t then (x ^^^ 128) ^^^ 64 else x ^^^ 64
theorem kx_is (t : Bool) {x : Nat} (hx : x < 256) : kx t x % 64 = x % 64 ∧ kx t x < 256 := by
  obtain ⟨h1, h2, h3, h4, _⟩ := x64' hx
  cases t
  · exact ⟨h1, h2⟩
  · exact ⟨h3, h4⟩
def kL (t : Bool) (k y : Nat) : List Nat := ((k % 256 &&& 248) ||| (y &&& 7)) :: (((byL k).drop 1).take 30 ++ [kx t (k / 452312848583266388373324160190187140051835877600158453279131187530910662656 % 256)])
def qL (p : Nat) : List Nat := (byL p).take 31 ++ [(p / 452312848583266388373324160190187140051835877600158453279131187530910662656 % 256) ^^^ 128]

theorem mod64 {a b c : Nat} (h : a % 256 = b) (h2 : b % 64 = c % 256 % 64) : a % 64 + 64 = c % 64 + 64 := by omega
theorem mod128 {a b c : Nat} (h : a % 256 = b) (h2 : b % 128 = c % 256 % 128) : a % 128 = c % 128 := by omega
theorem same_key {k y K : Nat} {t : Bool} (hy : y < 256) (h : byL K = kL t k y) : kmask K = kmask k := by
  obtain ⟨o1, _⟩ := o7 (x := k % 256) (Nat.mod_lt _ (by decide)) hy
  obtain ⟨o2, _⟩ := kx_is t (x := k / 452312848583266388373324160190187140051835877600158453279131187530910662656 % 256) (Nat.mod_lt _ (by decide))
  apply byL_inj (kmask_lt K).2.2 (kmask_lt k).2.2
  rw [byL_kmask, byL_kmask]
  unfold kL at h
  rw [byL_all, byL_all] at h
  simp only [List.drop_succ_cons, List.drop_zero, List.take_succ_cons, List.take_zero, List.cons_append, List.nil_append, List.cons.injEq, and_true] at h ⊢
  generalize ((k % 256 &&& 248) ||| (y &&& 7)) = b0 at *
  generalize kx t (k / 452312848583266388373324160190187140051835877600158453279131187530910662656 % 256) = b31 at *
  obtain ⟨g0, g1, g2, g3, g4, g5, g6, g7, g8, g9, g10, g11, g12, g13, g14, g15, g16, g17, g18, g19, g20, g21, g22, g23, g24, g25, g26, g27, g28, g29, g30, g31⟩ := h
  refine ⟨by rw [g0]; exact o1, g1, g2, g3, g4, g5, g6, g7, g8, g9, g10, g11, g12, g13, g14, g15, g16, g17, g18, g19, g20, g21, g22, g23, g24, g25, g26, g27, g28, g29, g30, mod64 g31 o2⟩
theorem same_place {p Q : Nat} (h : byL Q = qL p) : pmask Q = pmask p := by
  obtain ⟨_, _, _, _, o2, _⟩ := x64' (x := p / 452312848583266388373324160190187140051835877600158453279131187530910662656 % 256) (Nat.mod_lt _ (by decide))
  apply byL_inj (pmask_lt Q) (pmask_lt p)
  rw [byL_pmask, byL_pmask]
  unfold qL at h
  rw [byL_all, byL_all] at h
  simp only [List.take_succ_cons, List.take_zero, List.cons_append, List.nil_append, List.cons.injEq, and_true] at h ⊢
  generalize (p / 452312848583266388373324160190187140051835877600158453279131187530910662656 % 256) ^^^ 128 = b31 at *
  obtain ⟨g0, g1, g2, g3, g4, g5, g6, g7, g8, g9, g10, g11, g12, g13, g14, g15, g16, g17, g18, g19, g20, g21, g22, g23, g24, g25, g26, g27, g28, g29, g30, g31⟩ := h
  refine ⟨g0, g1, g2, g3, g4, g5, g6, g7, g8, g9, g10, g11, g12, g13, g14, g15, g16, g17, g18, g19, g20, g21, g22, g23, g24, g25, g26, g27, g28, g29, g30, mod128 g31 o2⟩

theorem kE_conc {l : List Nat} {k y : Nat} (t : Bool) (hk : l.getD 0 0 = k) (hy : y < 256) : concL (nuN l y) (kE t) = some ((kL t k y).map u8) := by
  have h := nuN_get l y (j := 0) (by decide)
  rw [hk] at h
  have h0 := h 0 (by decide)
  have h31 := h 31 (by decide)
  rw [byL_get k 0 (by decide)] at h0
  rw [byL_get k 31 (by decide)] at h31
  have hx : k / 452312848583266388373324160190187140051835877600158453279131187530910662656 % 256 < 256 := Nat.mod_lt _ (by decide)
  obtain ⟨x1, x2, x3, x4, x5, x6⟩ := x64' hx
  have hn : nuN l (y : Int) 10000 = (y : Int) := by
    unfold nuN
    rw [if_pos rfl]
  have e0 : conc1 (nuN l y) (.i .u8 (.e .or .u8 (e248 0) (.e .and .u8 (.s 10000) (.c (.ofNat 7))))) = some (u8 ((k % 256 &&& 248) ||| (y &&& 7))) := by
    show some (Value.int .u8 (arith .or .u8 (arith .and .u8 (nuN l y (32 * 0 + 0)) ((248 : Nat) : Int)) (arith .and .u8 (nuN l y 10000) ((7 : Nat) : Int)))) = _
    rw [h0, hn, a_and8 _ 248 (Nat.mod_lt _ (by decide)) (by decide), a_and8 y 7 hy (by decide), a_or8 _ _ (Nat.lt_of_le_of_lt Nat.and_le_left (Nat.mod_lt _ (by decide))) (Nat.lt_of_le_of_lt Nat.and_le_left hy), Nat.mul_zero, Nat.pow_zero, Nat.div_one]
    rfl
  have e31 : concL (nuN l y) [.i .u8 (.e .xor .u8 (if t then .e .xor .u8 (.s 31) (.c (.ofNat 128)) else .s 31) (.c (.ofNat 64)))] = some [u8 (kx t (k / 452312848583266388373324160190187140051835877600158453279131187530910662656 % 256))] := by
    have h31' : nuN l (y : Int) 31 = ((k / 452312848583266388373324160190187140051835877600158453279131187530910662656 % 256 : Nat) : Int) := h31
    cases t
    · show some [Value.int .u8 (arith .xor .u8 (nuN l y 31) ((64 : Nat) : Int))] = _
      rw [h31', a_xor8 _ 64 hx (by decide)]
      rfl
    · show some [Value.int .u8 (arith .xor .u8 (arith .xor .u8 (nuN l y 31) ((128 : Nat) : Int)) ((64 : Nat) : Int))] = _
      rw [h31', a_xor8 _ 128 hx (by decide), a_xor8 _ 64 x6 (by decide)]
      rfl
  have em := mid_conc (ν := nuN l y) (j := 0 + 1) 30 (((byL k).drop 1).take 30) (fun i hi => by
    have := h (i + 1) (by omega)
    rw [show 32 * 0 + (i + 1) = 0 + 1 + i by omega] at this
    rw [this]
    simp [List.getD_eq_getElem?_getD, hi]) (by simp [byL_len]) _ _ e31
  show (match conc1 (nuN l y) (.i .u8 (.e .or .u8 (e248 0) (.e .and .u8 (.s 10000) (.c (.ofNat 7))))), concL (nuN l y) ((List.range 30).map (fun i => bt (0 + 1 + i)) ++ [.i .u8 (.e .xor .u8 (if t then .e .xor .u8 (.s 31) (.c (.ofNat 128)) else .s 31) (.c (.ofNat 64)))]) with | some v, some l => some (v :: l) | _, _ => none) = _
  rw [e0, em]
  simp [kL]
theorem qE_conc {l : List Nat} {p y : Nat} (hp : l.getD 1 0 = p) : concL (nuN l y) qE = some ((qL p).map u8) := by
  have h := nuN_get l y (j := 1) (by decide)
  rw [hp] at h
  have h31 := h 31 (by decide)
  rw [byL_get p 31 (by decide)] at h31
  have hx : p / 452312848583266388373324160190187140051835877600158453279131187530910662656 % 256 < 256 := Nat.mod_lt _ (by decide)
  have e31 : concL (nuN l y) [.i .u8 (.e .xor .u8 (.s 63) (.c (.ofNat 128)))] = some [u8 ((p / 452312848583266388373324160190187140051835877600158453279131187530910662656 % 256) ^^^ 128)] := by
    have h31' : nuN l (y : Int) 63 = ((p / 452312848583266388373324160190187140051835877600158453279131187530910662656 % 256 : Nat) : Int) := h31
    show some [Value.int .u8 (arith .xor .u8 (nuN l y 63) ((128 : Nat) : Int))] = _
    rw [h31', a_xor8 _ 128 hx (by decide)]
    rfl
  have em := mid_conc (ν := nuN l y) (j := 32) 31 ((byL p).take 31) (fun i hi => by
    have := h i (by omega)
    rw [show 32 * 1 + i = 32 + i by omega] at this
    rw [this]
    simp [List.getD_eq_getElem?_getD, hi]) (by simp [byL_len]) _ _ e31
  show concL (nuN l y) ((List.range 31).map (fun i => bt (32 + i)) ++ [.i .u8 (.e .xor .u8 (.s 63) (.c (.ofNat 128)))]) = _
  rw [em]
  simp [qL]

def bT (t : Bool) : List Row := [⟨9, [.ag (kE t)], rw8 2⟩, ⟨9, [rw8 0], rw8 2⟩, ⟨11, [rw8 0, rw8 1], .tp [rw8 3, eOK]⟩, ⟨11, [.ag (kE t), .ag qE], .tp [rw8 3, eOK]⟩, ⟨12, [], .b true⟩]
def bT0 (t : Bool) : List Row := [⟨9, [.ag (kE t)], rw8 2⟩, ⟨9, [rw8 0], rw8 2⟩, ⟨11, [rw8 0, rw8 1], .tp [kB 0, eZero]⟩, ⟨11, [.ag (kE t), .ag qE], .tp [kB 0, eZero]⟩, ⟨12, [], .b true⟩]
theorem b_says (t : Bool) : says noFacts tree (bT t) 200 6 5 [rw8 0, rw8 1, .i .u8 (.s 10000), .b t] (heap0 [] gmax) (.b true) = true := by cases t <;> kernel_rfl
theorem b_says0 (t : Bool) : says noFacts tree (bT0 t) 200 6 5 [rw8 0, rw8 1, .i .u8 (.s 10000), .b t] (heap0 [] gmax) (.b true) = true := by cases t <;> kernel_rfl
theorem kE_val {l : List Nat} {k y : Nat} (t : Bool) (hk : l.getD 0 0 = k) (hy : y < 256) {K : Nat} (hK : byL K = kL t k y) : conc2 (nuN l y) (.ag (kE t)) = some (byt K) := by
  have h := kE_conc (l := l) t hk hy
  rw [← hK] at h
  show (concL (nuN l y) (kE t)).map (fun vs => Value.agg vs.toArray) = _
  rw [h]
  rfl
theorem qE_val {l : List Nat} {p y : Nat} (hp : l.getD 1 0 = p) {Q : Nat} (hQ : byL Q = qL p) : conc2 (nuN l y) (.ag qE) = some (byt Q) := by
  have h := qE_conc (l := l) (y := y) hp
  rw [← hQ] at h
  show (concL (nuN l y) qE).map (fun vs => Value.agg vs.toArray) = _
  rw [h]
  rfl
theorem b_args (k p a r y : Nat) (t : Bool) : concT (nuN [k, p, a, r] y) [rw8 0, rw8 1, .i .u8 (.s 10000), .b t] = some [byt k, byt p, .int .u8 y, .bool t] := by
  have h0 := nuNR [k, p, a, r] y (j := 0) (by decide)
  have h1 := nuNR [k, p, a, r] y (j := 1) (by decide)
  have h2 : conc2 (nuN [k, p, a, r] y) (.i .u8 (.s 10000)) = some (.int .u8 y) := by
    show some (Value.int .u8 (nuN [k, p, a, r] y 10000)) = _
    unfold nuN
    rw [if_pos rfl]
  have h3 : conc2 (nuN [k, p, a, r] y) (.b t) = some (.bool t) := rfl
  simp only [concT, h0, h1, h2, h3]
  rfl
theorem b_core (k p y a r K Q : Nat) (t : Bool) (hy : y < 256) (hK : byL K = kL t k y) (hQ : byL Q = qL p) (ha : (lad (kmask k) (em 9)).val = a) (hr : (lad (kmask k) (em (pmask p))).val = r) : Pure Try.prog 5 [byt k, byt p, .int .u8 y, .bool t] (.bool true) := by
  have sk := same_key hy hK
  have sq := same_place hQ
  have ha' : (lad (kmask K) (em 9)).val = a := by rw [sk]; exact ha
  have hr' : (lad (kmask K) (em (pmask Q))).val = r := by rw [sk, sq]; exact hr
  by_cases h0 : r = 0
  · refine pure_of (ν := nuN [k, p, a, r] y) (noFacts_hold _) mixed tab_ok (fun q hq => ?_) (b_says0 t) (b_args k p a r y t) rfl
    simp only [bT0, List.mem_cons, List.not_mem_nil, or_false] at hq
    rcases hq with rfl | rfl | rfl | rfl | rfl
    · exact rowPublic ha' (kE_val t rfl hy hK) (nuNRc _ _ (j := 2) (by decide))
    · exact rowPublic ha (nuNR _ _ (j := 0) (by decide)) (nuNRc _ _ (j := 2) (by decide))
    · exact rowShared0 (k := k) (u := p) (hr.trans h0) (nuNR _ _ (j := 0) (by decide)) (nuNR _ _ (j := 1) (by decide))
    · exact rowShared0 (k := K) (u := Q) (hr'.trans h0) (kE_val t rfl hy hK) (qE_val rfl hQ)
    · exact rowWakes
  · refine pure_of (ν := nuN [k, p, a, r] y) (noFacts_hold _) mixed tab_ok (fun q hq => ?_) (b_says t) (b_args k p a r y t) rfl
    simp only [bT, List.mem_cons, List.not_mem_nil, or_false] at hq
    rcases hq with rfl | rfl | rfl | rfl | rfl
    · exact rowPublic ha' (kE_val t rfl hy hK) (nuNRc _ _ (j := 2) (by decide))
    · exact rowPublic ha (nuNR _ _ (j := 0) (by decide)) (nuNRc _ _ (j := 2) (by decide))
    · exact rowShared (k := k) (u := p) hr h0 (nuNR _ _ (j := 0) (by decide)) (nuNR _ _ (j := 1) (by decide)) (nuNR _ _ (j := 3) (by decide))
    · exact rowShared (k := K) (u := Q) hr' h0 (kE_val t rfl hy hK) (qE_val rfl hQ) (nuNR _ _ (j := 3) (by decide))
    · exact rowWakes
theorem kL_ok (t : Bool) (k y : Nat) (hy : y < 256) : ∃ K, K < B4 ∧ byL K = kL t k y := by
  refine of_bytes _ (by simp [kL, byL_len]) fun b hb => ?_
  unfold kL at hb
  rcases List.mem_cons.1 hb with rfl | hb
  · exact (o7 (Nat.mod_lt _ (by decide)) hy).2
  · rcases List.mem_append.1 hb with hb | hb
    · exact byL_lt k b (List.mem_of_mem_drop (List.mem_of_mem_take hb))
    · simp only [List.mem_cons, List.not_mem_nil, or_false] at hb
      subst hb
      exact (kx_is t (Nat.mod_lt _ (by decide))).2
theorem qL_ok (p : Nat) : ∃ Q, Q < B4 ∧ byL Q = qL p := by
  refine of_bytes _ (by simp [qL, byL_len]) fun b hb => ?_
  unfold qL at hb
  rcases List.mem_append.1 hb with hb | hb
  · exact byL_lt p b (List.mem_of_mem_take hb)
  · simp only [List.mem_cons, List.not_mem_nil, or_false] at hb
    subst hb
    exact (x64' (Nat.mod_lt _ (by decide))).2.2.2.2.2

theorem dhBits_law (k p y : Nat) (t : Bool) (hk : k < B4) (hp : p < B4) (hy : y < 256) : Pure Try.prog 5 [byt k, byt p, .int .u8 y, .bool t] (.bool true) := by
  have _ := hk
  have _ := hp
  obtain ⟨K, _, hK⟩ := kL_ok t k y hy
  obtain ⟨Q, _, hQ⟩ := qL_ok p
  exact b_core k p y _ _ K Q t hy hK hQ rfl rfl

theorem dhBits_lifted (os : Os) (started : os.Started) (H : Type) (enc : TypeId × Value → H) :
    ReturnsInHanded {} Try.checked os 5 .any (Rows.dhBitsSpec.pre6 enc Try.prog Try.f5 Rows.dhBitsRow.domain false) (Rows.dhBitsSpec.post enc Try.prog Try.f5 false true false false) := by
  refine returnsInHanded_of_change (C := Try.checked) own started (by kernel_rfl) Try.func5
    (ChangeSpec.witness6 (enc := enc) (C := Try.checked) false ⟨#[], #[byt 0, byt 0, .int .u8 0, .bool false], []⟩ 8 (by kernel_rfl) (by kernel_rfl) (by kernel_rfl) (by kernel_rfl)) ?_
  intro W base args ds gs before hval0 hW hcnd _
  have hval : ∀ (j : Nat) t v, Try.f5.params[j]? = some t → args[j]? = some v → Value.okWide Try.prog W .any base t v := hval0
  have hW' := hW
  obtain ⟨p, q, hA0, hV, rfl, hfz, hnd⟩ := hW
  have hA : DataW.TrodAll enc Try.prog W 0 (fun _ => true) true Try.f5.params.toList args.toList ds p := hA0
  rw [Try.params5] at hA hval
  obtain ⟨v0, vs0, d0, ds0, p0, q0, hargs, rfl, rfl, h0, r0⟩ := trodAll_cons hA
  obtain ⟨v1, vs1, d1, ds1, p1, q1, rfl, rfl, rfl, h1, r1⟩ := trodAll_cons r0
  obtain ⟨v2, vs2, d2, ds2, p2, q2, rfl, rfl, rfl, h2, r2⟩ := trodAll_cons r1
  obtain ⟨v3, vs3, d3, ds3, p3, q3, rfl, rfl, rfl, h3, r3⟩ := trodAll_cons r2
  obtain ⟨rfl, rfl, rfl⟩ := trodAll_nil r3
  obtain rfl : args = #[v0, v1, v2, v3] := by cases args; simp_all
  obtain ⟨rfl, rfl⟩ := trodVars_none hV
  obtain ⟨a0, b0, rfl, rfl, s0⟩ := open_num (hval 0 _ v0 rfl rfl) h0
  obtain ⟨a1, b1, rfl, rfl, s1⟩ := open_num (hval 1 _ v1 rfl rfl) h1
  obtain ⟨n2, rfl, rfl, rfl, w2⟩ := open_int Try.underlying5 (hval 2 _ v2 rfl rfl) h2
  have s2 := plain_int (H := H) Try.underlying5 w2
  obtain ⟨a2, rfl, b2⟩ := word_of8 w2
  obtain ⟨a3, rfl, rfl, rfl⟩ := open_bool Try.underlying4 (hval 3 _ v3 rfl rfl) h3
  have s3 := plain_bool (H := H) Try.underlying4 a3
  clear hA0 hval0
  simp only [List.append_nil] at hW'
  refine (Pure.calls (dhBits_law a0 a1 a2 a3 b0 b1 b2) Try.func5 (by kernel_rfl) (by kernel_rfl) W).mono fun e W' ⟨he, hg⟩ => ?_
  subst he
  exact ⟨_, rfl, post_below (pa := []) (pv := []) hW' (fun _ _ _ => trodAll_cons_mk (shut_bool Try.underlying4 _) trodAll_mk0) (fun sp _ => (trodAll_cons_mk (s0 _ _ _ _ _) (trodAll_cons_mk (s1 _ _ _ _ _) (trodAll_cons_mk (s2 _ _ _ _ _) (trodAll_cons_mk (s3 _ _ _ _ _) trodAll_mk0))))) (fun _ _ => rfl) rfl
    hg (ok_one (by kernel_rfl) rfl (okWide_bool_mk Try.underlying4 _))⟩

/-- THE STATEMENT. -/
theorem dhBits_holds : Rows.DhBitsSaid :=
  OpenClaim.holds_of_wide 5 Try.f5 rfl rfl rfl rfl rfl rfl rfl ⟨rfl, rfl, rfl, rfl, rfl⟩ rfl rfl rfl rfl rfl (by kernel_rfl) Try.func5 (by kernel_rfl)
    (of_decide_eq_true (by kernel_rfl)) (by unfold Func.isWrapper; first | (rw [if_pos (by decide +kernel)]; kernel_rfl) | (rw [if_neg (by decide +kernel)]; exact ⟨rfl, rfl⟩))
    (fun os started H enc _ => dhBits_lifted os started H enc)
#print axioms dhBits_holds
end Go.Proofs.Ytlalonomdblhdaa
