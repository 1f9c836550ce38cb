/-
  THE SLOTS' LAWS: members by bits; what is known of members that rise; rounds by what is left of them. Own work.
-/
import Derived.Test.YtcmcagpdajailaaTab
import Derived.Test.YtcmcagpdajailaaSh0
import Derived.IntWalk
namespace Go.Proofs.Ytcmcagpdajailaa
open Go.Sh
set_option maxRecDepth 100000

/-! Members by bits. -/

def mem0 (p : Nat) : List Nat := (List.range 8).filter fun i => p / 2 ^ i % 2 == 1
def mem (p : Nat) : List Nat := if (mem0 p).isEmpty then [0] else mem0 p
def risB (l : List Nat) : Bool := (List.range l.length).all fun j => decide (l.getD j 0 < 8) && (List.range j).all fun i => decide (l.getD i 0 < l.getD j 0)
def chk (p : Nat) : Bool := decide (1 ≤ (mem p).length) && decide ((mem p).length ≤ 8) && risB (mem p)
theorem mem_chk : (List.range 256).all chk = true := by decide +kernel
structure Rises (l : List Nat) : Prop where
  one : 1 ≤ l.length
  most : l.length ≤ 8
  lt : ∀ j, j < l.length → l.getD j 0 < 8
  rise : ∀ i j, i < j → j < l.length → l.getD i 0 < l.getD j 0
theorem mem_ok (p : Nat) (h : p < 256) : Rises (mem p) := by
  have h1 := List.all_eq_true.1 mem_chk p (List.mem_range.2 h)
  simp only [chk, Bool.and_eq_true, decide_eq_true_eq, risB, List.all_eq_true, List.mem_range] at h1
  exact ⟨h1.1.1, h1.1.2, fun j hj => (h1.2 j hj).1, fun i j hij hj => (h1.2 j hj).2 i hij⟩

/-! The bits of a number. -/

def bitE (i : Nat) : AI := .e .and .i64 (.e .shr .i64 (.s 0) (.c (.ofNat i))) (.c (.ofNat 1))
def bitF (p : Nat) : Facts := ⟨(List.range 8).map fun i => (bitE i, ((p / 2 ^ i % 2 : Nat) : Int)), []⟩
theorem and_one (x : Int) : arith .and .i64 x ((1 : Nat) : Int) = 0 ∨ arith .and .i64 x ((1 : Nat) : Int) = 1 := by
  show IntKind.i64.wrap (((BitVec.ofInt IntKind.i64.bits x &&& BitVec.ofInt IntKind.i64.bits ((1 : Nat) : Int)).toNat : Nat) : Int) = 0 ∨ IntKind.i64.wrap (((BitVec.ofInt IntKind.i64.bits x &&& BitVec.ofInt IntKind.i64.bits ((1 : Nat) : Int)).toNat : Nat) : Int) = 1
  have h : (BitVec.ofInt IntKind.i64.bits x &&& BitVec.ofInt IntKind.i64.bits ((1 : Nat) : Int)).toNat < 2 := by
    rw [BitVec.toNat_and]
    exact Nat.lt_of_le_of_lt Nat.and_le_right (by decide)
  generalize (BitVec.ofInt IntKind.i64.bits x &&& BitVec.ofInt IntKind.i64.bits ((1 : Nat) : Int)).toNat = n at h
  match n, h with
  | 0, _ => exact .inl (by decide)
  | 1, _ => exact .inr (by decide)
theorem bits_are (ν : Nat → Int) : ∃ p, p < 256 ∧ (bitF p).Hold ν := by
  have hb : ∀ i, ∃ b : Nat, b < 2 ∧ (bitE i).val ν = (b : Int) := by
    intro i
    rcases and_one (arith .shr .i64 (ν 0) ((i : Nat) : Int)) with h | h
    · exact ⟨0, by decide, h⟩
    · exact ⟨1, by decide, h⟩
  obtain ⟨b0, l0, h0⟩ := hb 0
  obtain ⟨b1, l1, h1⟩ := hb 1
  obtain ⟨b2, l2, h2⟩ := hb 2
  obtain ⟨b3, l3, h3⟩ := hb 3
  obtain ⟨b4, l4, h4⟩ := hb 4
  obtain ⟨b5, l5, h5⟩ := hb 5
  obtain ⟨b6, l6, h6⟩ := hb 6
  obtain ⟨b7, l7, h7⟩ := hb 7
  refine ⟨b0 + 2 * b1 + 4 * b2 + 8 * b3 + 16 * b4 + 32 * b5 + 64 * b6 + 128 * b7, by omega, ⟨fun q hq => ?_, fun q hq => by cases hq⟩⟩
  simp only [bitF, List.mem_map, List.mem_range] at hq
  obtain ⟨i, hi, rfl⟩ := hq
  show (bitE i).val ν = _
  match i, hi with
  | 0, _ => rw [h0]; simp only [Nat.pow_zero]; omega
  | 1, _ => rw [h1]; simp only [show 2 ^ 1 = 2 from rfl]; omega
  | 2, _ => rw [h2]; simp only [show 2 ^ 2 = 4 from rfl]; omega
  | 3, _ => rw [h3]; simp only [show 2 ^ 3 = 8 from rfl]; omega
  | 4, _ => rw [h4]; simp only [show 2 ^ 4 = 16 from rfl]; omega
  | 5, _ => rw [h5]; simp only [show 2 ^ 5 = 32 from rfl]; omega
  | 6, _ => rw [h6]; simp only [show 2 ^ 6 = 64 from rfl]; omega
  | 7, _ => rw [h7]; simp only [show 2 ^ 7 = 128 from rfl]; omega

/-! The members, made; then named. -/

def ii (n : Nat) : AV := .i .i64 (.c (.ofNat n))
def iS (k : Nat) : AV := .i .i64 (.s k)
def blkC (l : List AV) : ABlk := ⟨l, 3, true⟩
def nowA : Now := ⟨[(0, iS 0), (1, iS 1)], [], gmax⟩
def nowL (m : Nat) (l : List AV) : Now := ⟨[(1, iS 1), (5, .sl (63 + 2 * m) 0 (.c (.ofNat m)) (.own 1))], [(63 + 2 * m, blkC l)], 64 + 2 * m⟩
def nowC (p : Nat) : Now := nowL (mem p).length ((mem p).map ii)
def nowN (m : Nat) : Now := nowL m ((List.range m).map fun i => iS (10 + i))
def icC : IC := t3.body.sub [true, true, false]
def nuR (l : List Nat) (round : Int) : Nat → Int := fun k => if k < 10 then round else ((l.getD (k - 10) 0 : Nat) : Int)
theorem concL_ii (ν : Nat → Int) : ∀ l : List Nat, concL ν (l.map ii) = some (l.map fun n => .int .i64 ((n : Nat) : Int))
  | [] => rfl
  | a :: r => by
    show (match conc1 ν (ii a), concL ν (r.map ii) with | some v, some l => some (v :: l) | _, _ => none) = _
    rw [concL_ii ν r]
    rfl
theorem concL_names (round : Int) (l : List Nat) : ∀ (r : List Nat) (s : Nat), (∀ i, i < r.length → l.getD (s + i) 0 = r.getD i 0) → concL (nuR l round) ((List.range' s r.length).map fun i => iS (10 + i)) = some (r.map fun n => .int .i64 ((n : Nat) : Int))
  | [], _, _ => rfl
  | a :: r, s, h => by
    have ih := concL_names round l r (s + 1) fun i hi => by
      have := h (i + 1) (by simp; omega)
      simpa [Nat.add_assoc, Nat.add_comm 1 i] using this
    have h0 : l.getD s 0 = a := by simpa using h 0 (by simp)
    show (match conc1 (nuR l round) (iS (10 + s)), concL (nuR l round) ((List.range' (s + 1) r.length).map fun i => iS (10 + i)) with | some v, some l => some (v :: l) | _, _ => none) = _
    rw [ih]
    have hv : nuR l round (10 + s) = ((a : Nat) : Int) := by
      show (if 10 + s < 10 then round else ((l.getD (10 + s - 10) 0 : Nat) : Int)) = _
      rw [if_neg (by omega), Nat.add_sub_cancel_left, h0]
    show some (Value.int .i64 (nuR l round (10 + s)) :: _) = _
    rw [hv]
    rfl
theorem concL_all (round : Int) (l : List Nat) : concL (nuR l round) ((List.range l.length).map fun i => iS (10 + i)) = some (l.map fun n => .int .i64 ((n : Nat) : Int)) := by
  rw [List.range_eq_range']
  exact concL_names round l l 0 fun i _ => by rw [Nat.zero_add]
theorem blk_at (x : ABlk) : ∀ m, 1 ≤ m → m ≤ 8 → (heapL [(63 + 2 * m, x)] (64 + 2 * m)).get (63 + 2 * m) = some x
  | 1, _, _ => by kernel_rfl
  | 2, _, _ => by kernel_rfl
  | 3, _, _ => by kernel_rfl
  | 4, _, _ => by kernel_rfl
  | 5, _, _ => by kernel_rfl
  | 6, _, _ => by kernel_rfl
  | 7, _, _ => by kernel_rfl
  | 8, _, _ => by kernel_rfl
  | n + 9, _, h => by omega
theorem named {N : Nat} {w0 : World} {ν : Nat → Int} {p : Nat} {a : Act} {w : World} (hp : p < 256) (h : Holds N w0 ν (nowC p) a w) : Holds N w0 (nuR (mem p) (ν 1)) (nowN (mem p).length) a w := by
  have hlow : gmax ≤ 63 + 2 * (mem p).length := h.low (63 + 2 * (mem p).length, blkC ((mem p).map ii)) (by simp [nowC, nowL])
  refine Holds.renum (e := (nowC p).e) (H := (nowC p).H) (n := (nowC p).n) h (fun q hq => ?_) fun q hq => ?_
  · simp only [nowN, nowL, List.mem_cons, List.not_mem_nil, or_false] at hq
    rcases hq with rfl | rfl
    · exact ⟨iS 1, by simp [nowC, nowL], Alike.conc1 (u := .int .i64 (ν 1)) rfl rfl⟩
    · refine ⟨_, by simp only [nowC, nowL, List.mem_cons, List.not_mem_nil, or_false]; exact .inr rfl, fun ρ v hv => ?_⟩
      cases hv with
      | sl _ _ _ _ pl n c h1 h2 h3 h4 => exact .sl _ _ _ _ pl n c h1 h2 h3 h4
  · simp only [nowN, nowL, List.mem_cons, List.not_mem_nil, or_false] at hq
    subst hq
    refine ⟨hlow, blkC ((mem p).map ii), _, ?_, rfl, rfl, (by show 3 < mapTag; decide), concL_ii ν (mem p), concL_all (ν 1) (mem p)⟩
    exact blk_at _ _ (mem_ok p hp).one (mem_ok p hp).most

/-! What is known of the names. -/

def rnd : AI := .s 1
def nI (i : Nat) : AI := .s (10 + i)
def cm1 : AI := .c (.negSucc 0)
def eJ (j : Nat) : AI := .e .add .i64 (.s 1) (.c (.ofNat j))
def eK (j n : Nat) : AI := .e .add .i64 (eJ j) (.c (.ofNat n))
abbrev Cm := BinOp × AI × AI × Bool
def cmpM (m : Nat) : List Cm := ((List.range m).flatMap fun i => [(.leq, nI i, cm1, false), (.geq, nI i, .c (.ofNat 8), false), (.lss, nI i, .c (.ofNat 0), false), (.eql, cm1, nI i, false), (.neq, cm1, nI i, true), (.eql, nI i, cm1, false), (.neq, nI i, cm1, true)]) ++
  ((List.range m).flatMap fun i => (List.range m).flatMap fun j => [(.eql, nI i, nI j, Nat.beq i j), (.neq, nI i, nI j, !(Nat.beq i j)), (.leq, nI i, nI j, Nat.ble i j)])
def lastOf (m : Nat) : Nat := m + m % 2 - 1
def cR : List Cm := [(.lss, rnd, .c (.ofNat 0), false)]
def cJ (m : Nat) : List Cm := cR ++ (List.range (lastOf m)).flatMap fun j => [(.lss, eJ j, .c (.ofNat 0), false), (.lss, eK j (lastOf m), .c (.ofNat 0), false)]
def vR (m r : Nat) : List (AI × Int) := [(.e .rem .i64 rnd (.c (.ofNat (lastOf m))), (r : Int))]
def vJ (m r : Nat) : List (AI × Int) := (List.range (lastOf m)).flatMap fun j => [(.e .rem .i64 (eJ j) (.c (.ofNat (lastOf m))), (((r + j) % lastOf m : Nat) : Int)), (.e .rem .i64 (eK j (lastOf m)) (.c (.ofNat (lastOf m))), (((r + j) % lastOf m : Nat) : Int))]
def factsM (m r : Nat) : Facts := ⟨vR m r, cR ++ cmpM m⟩
def factsJ (m r : Nat) : Facts := ⟨vJ m r, cJ m ++ cmpM m⟩
theorem nuR_n (l : List Nat) (round : Int) (i : Nat) : nuR l round (10 + i) = ((l.getD i 0 : Nat) : Int) := by
  show (if 10 + i < 10 then round else ((l.getD (10 + i - 10) 0 : Nat) : Int)) = _
  rw [if_neg (by omega), Nat.add_sub_cancel_left]
def CmOk (ν : Nat → Int) (p : Cm) : Prop := compare p.1 (p.2.1.val ν) (p.2.2.1.val ν) = p.2.2.2
theorem cmpM_ok {l : List Nat} (h : Rises l) (round : Int) : ∀ p ∈ cmpM l.length, CmOk (nuR l round) p := by
  intro p hp
  simp only [cmpM, List.mem_append, List.mem_flatMap, List.mem_range, List.mem_cons, List.not_mem_nil, or_false] at hp
  rcases hp with ⟨i, hi, hp⟩ | ⟨i, hi, j, hj, hp⟩
  · have h8 := h.lt i hi
    have e := nuR_n l round i
    generalize l.getD i 0 = a at h8 e
    rcases hp with rfl | rfl | rfl | rfl | rfl | rfl | rfl
    · show decide (nuR l round (10 + i) ≤ -1) = false
      rw [e]; exact decide_eq_false (by omega)
    · show decide (nuR l round (10 + i) ≥ 8) = false
      rw [e]; exact decide_eq_false (by omega)
    · show decide (nuR l round (10 + i) < 0) = false
      rw [e]; exact decide_eq_false (by omega)
    · show ((-1 : Int) == nuR l round (10 + i)) = false
      rw [e]; exact beq_eq_false_iff_ne.2 (by omega)
    · show ((-1 : Int) != nuR l round (10 + i)) = true
      rw [e]; exact bne_iff_ne.2 (by omega)
    · show (nuR l round (10 + i) == (-1 : Int)) = false
      rw [e]; exact beq_eq_false_iff_ne.2 (by omega)
    · show (nuR l round (10 + i) != (-1 : Int)) = true
      rw [e]; exact bne_iff_ne.2 (by omega)
  · have e := nuR_n l round i
    have e' := nuR_n l round j
    have hlt : ∀ a b, a < b → b < l.length → l.getD a 0 < l.getD b 0 := h.rise
    rcases Nat.lt_trichotomy i j with hij | rfl | hij
    · have h1 := hlt i j hij hj
      generalize l.getD i 0 = a at h1 e
      generalize l.getD j 0 = b at h1 e'
      rcases hp with rfl | rfl | rfl
      · show (nuR l round (10 + i) == nuR l round (10 + j)) = Nat.beq i j
        rw [e, e', show Nat.beq i j = false from (by cases hh : Nat.beq i j with | false => rfl | true => have := Nat.eq_of_beq_eq_true hh; omega)]; exact beq_eq_false_iff_ne.2 (by omega)
      · show (nuR l round (10 + i) != nuR l round (10 + j)) = !(Nat.beq i j)
        rw [e, e', show Nat.beq i j = false from (by cases hh : Nat.beq i j with | false => rfl | true => have := Nat.eq_of_beq_eq_true hh; omega)]; exact bne_iff_ne.2 (by omega)
      · show decide (nuR l round (10 + i) ≤ nuR l round (10 + j)) = Nat.ble i j
        rw [e, e', show Nat.ble i j = true from Nat.ble_eq_true_of_le (by omega)]; exact decide_eq_true (by omega)
    · rcases hp with rfl | rfl | rfl
      · show (nuR l round (10 + i) == nuR l round (10 + i)) = Nat.beq i i
        simp
      · show (nuR l round (10 + i) != nuR l round (10 + i)) = !(Nat.beq i i)
        simp
      · show decide (nuR l round (10 + i) ≤ nuR l round (10 + i)) = Nat.ble i i
        simp
    · have h1 := hlt j i hij hi
      generalize l.getD i 0 = a at h1 e
      generalize l.getD j 0 = b at h1 e'
      rcases hp with rfl | rfl | rfl
      · show (nuR l round (10 + i) == nuR l round (10 + j)) = Nat.beq i j
        rw [e, e', show Nat.beq i j = false from (by cases hh : Nat.beq i j with | false => rfl | true => have := Nat.eq_of_beq_eq_true hh; omega)]; exact beq_eq_false_iff_ne.2 (by omega)
      · show (nuR l round (10 + i) != nuR l round (10 + j)) = !(Nat.beq i j)
        rw [e, e', show Nat.beq i j = false from (by cases hh : Nat.beq i j with | false => rfl | true => have := Nat.eq_of_beq_eq_true hh; omega)]; exact bne_iff_ne.2 (by omega)
      · show decide (nuR l round (10 + i) ≤ nuR l round (10 + j)) = Nat.ble i j
        rw [e, e', show Nat.ble i j = false from (by cases hh : Nat.ble i j with | false => rfl | true => have := Nat.le_of_ble_eq_true hh; omega)]; exact decide_eq_false (by omega)
theorem wrapI (n : Int) (h : -9223372036854775808 ≤ n ∧ n ≤ 9223372036854775807) : IntKind.i64.wrap n = n := by rw [IntWalk.i64_left]; exact IntWalk.wrap64_in n h
theorem lastOf_pos {m : Nat} (h : 1 ≤ m) : 1 ≤ lastOf m := by unfold lastOf; omega
theorem factsM_ok {l : List Nat} (h : Rises l) (R : Nat) : (factsM l.length (R % lastOf l.length)).Hold (nuR l (R : Int)) := by
  refine ⟨fun p hp => ?_, fun p hp => ?_⟩
  · simp only [factsM, vR, List.mem_cons, List.not_mem_nil, or_false] at hp
    subst hp
    show (R : Int).tmod ((lastOf l.length : Nat) : Int) = _
    rfl
  · simp only [factsM, List.mem_append, cR, List.mem_cons, List.not_mem_nil, or_false] at hp
    rcases hp with rfl | hp
    · show decide ((R : Int) < 0) = false
      exact decide_eq_false (by omega)
    · exact cmpM_ok h _ p hp
theorem eJ_val (l : List Nat) (R j : Nat) (hR : R ≤ 1099511627776) (hj : j < 100) : (eJ j).val (nuR l (R : Int)) = ((R + j : Nat) : Int) := by
  show IntKind.i64.wrap ((R : Int) + (j : Int)) = _
  rw [wrapI _ (by omega)]
  omega
theorem eK_val (l : List Nat) (R j n : Nat) (hR : R ≤ 1099511627776) (hj : j < 100) (hn : n < 100) : (eK j n).val (nuR l (R : Int)) = ((R + j + n : Nat) : Int) := by
  show IntKind.i64.wrap ((eJ j).val (nuR l (R : Int)) + (n : Int)) = _
  rw [eJ_val l R j hR hj, wrapI _ (by omega)]
  omega
theorem factsJ_ok {l : List Nat} (h : Rises l) (R : Nat) (hR : R ≤ 1099511627776) : (factsJ l.length (R % lastOf l.length)).Hold (nuR l (R : Int)) := by
  have h1 := h.one
  have h8 := h.most
  have hl : lastOf l.length < 100 := by unfold lastOf; omega
  refine ⟨fun p hp => ?_, fun p hp => ?_⟩
  · simp only [factsJ, vJ, List.mem_flatMap, List.mem_range, List.mem_cons, List.not_mem_nil, or_false] at hp
    obtain ⟨j, hj, hp⟩ := hp
    rcases hp with rfl | rfl
    · show ((eJ j).val (nuR l (R : Int))).tmod ((lastOf l.length : Nat) : Int) = _
      rw [eJ_val l R j hR (by omega), Nat.mod_add_mod]
      rfl
    · show ((eK j (lastOf l.length)).val (nuR l (R : Int))).tmod ((lastOf l.length : Nat) : Int) = _
      rw [eK_val l R j _ hR (by omega) hl, Nat.mod_add_mod, ← Nat.add_mod_right (R + j)]
      rfl
  · simp only [factsJ, List.mem_append, cJ, cR, List.mem_flatMap, List.mem_range, List.mem_cons, List.not_mem_nil, or_false] at hp
    rcases hp with (rfl | ⟨j, hj, rfl | rfl⟩) | hp
    · show decide ((R : Int) < 0) = false
      exact decide_eq_false (by omega)
    · show decide ((eJ j).val (nuR l (R : Int)) < 0) = false
      rw [eJ_val l R j hR (by omega)]
      exact decide_eq_false (by omega)
    · show decide ((eK j (lastOf l.length)).val (nuR l (R : Int)) < 0) = false
      rw [eK_val l R j _ hR (by omega) hl]
      exact decide_eq_false (by omega)
    · exact cmpM_ok h _ p hp

/-! Two meet: the closed look. -/

theorem noFacts_hold (ν : Nat → Int) : (⟨[], []⟩ : Facts).Hold ν := ⟨fun p hp => (by cases hp), fun p hp => (by cases hp)⟩
def noF : Facts := ⟨[], []⟩
theorem wk_says : says noF tree [] 400 4 8 [] (heap0 [] gmax) (.b true) = true := by kernel_rfl
theorem wakes_ok : Pure Try.prog 8 [] (.bool true) := pure_of (ν := fun _ => 0) (args := []) (noFacts_hold _) mixed tab_ok (fun r hr => by cases hr) wk_says rfl rfl
def wkR : List Row := [⟨8, [], .b true⟩]
theorem wkR_ok (ν : Nat → Int) : ∀ r ∈ wkR, r.Ok ν Try.prog := by
  intro r hr
  simp only [wkR, List.mem_cons, List.not_mem_nil, or_false] at hr
  subst hr
  exact ⟨[], .bool true, rfl, rfl, wakes_ok⟩

/-! The members' call. -/

noncomputable def goC (p : Nat) : Bool := goes (bitF p) tree [] 400 4 icC nowA .normal (nowC p)
theorem goC_0 : (List.range 64).all (fun p => goC p) = true := by kernel_rfl
theorem goC_1 : (List.range 64).all (fun p => goC (64 + p)) = true := by kernel_rfl
theorem goC_2 : (List.range 64).all (fun p => goC (128 + p)) = true := by kernel_rfl
theorem goC_3 : (List.range 64).all (fun p => goC (192 + p)) = true := by kernel_rfl
theorem goC_all (p : Nat) (h : p < 256) : goC p = true := by
  have k : ∀ a, (List.range 64).all (fun q => goC (a + q)) = true → a ≤ p → p < a + 64 → goC p = true := by
    intro a ha h1 h2
    have := List.all_eq_true.1 ha (p - a) (List.mem_range.2 (by omega))
    rwa [show a + (p - a) = p by omega] at this
  by_cases h0 : p < 64
  · exact List.all_eq_true.1 goC_0 p (List.mem_range.2 h0)
  by_cases h1 : p < 128
  · exact k 64 goC_1 (by omega) h1
  by_cases h2 : p < 192
  · exact k 128 goC_2 (by omega) h2
  · exact k 192 goC_3 (by omega) h

end Go.Proofs.Ytcmcagpdajailaa
