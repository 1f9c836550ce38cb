/-
  THE SHADOW MACHINE: what holds ahead of a piece of code and behind it; rounds that are told one by one. Own work.
  ARGUMENTS THAT NEED NO MEMORY: opened, and shut again in any world; thirty-two bytes are a number. Own work.
-/
import Derived.Test.YtggjplfnalolcaaDoorShZ
import Derived.ProofKit
import Derived.OpenShut
namespace Go.Sh
open Go.RowKit Go.WideShapes Go.ChangeShapes

/-- A piece of code, by its place. -/
def IC.sub : List Bool → IC → IC
  | [], x => x
  | true :: r, .seq _ b => IC.sub r b
  | false :: r, .seq a _ => IC.sub r a
  | true :: r, .cond _ _ b => IC.sub r b
  | false :: r, .cond _ a _ => IC.sub r a
  | _ :: r, .block _ a => IC.sub r a
  | _ :: r, .loop a => IC.sub r a
  | _ :: r, .scope a => IC.sub r a
  | _, x => x

/-! Some slots, some blocks. -/

def trL {α : Type} : List (Nat × α) → Tr α
  | [] => .l
  | p :: r => if Nat.blt p.1 room then Tr.put depth (trL r) p.1 (some p.2) else trL r

theorem trL_get {α : Type} : ∀ (l : List (Nat × α)) (b : Nat) (x : α), (trL l).get b = some x → (b, x) ∈ l := by
  intro l
  induction l with
  | nil => intro b x h; simp [trL, Tr.get] at h
  | cons p r ih =>
    intro b x h
    simp only [trL] at h
    split at h
    · rename_i hb
      simp only [Nat.blt_eq] at hb
      rw [Tr.get_put _ _ _ _ _ (by unfold room at hb; show p.1 + 1 < 2 ^ 24; omega)] at h
      split at h
      · rename_i e
        cases h
        subst e
        exact List.mem_cons_self
      · exact List.mem_cons_of_mem _ (ih b x h)
    · exact List.mem_cons_of_mem _ (ih b x h)

/-- A function's own heap: these blocks, the next one's number. -/
def heapL (l : List (Nat × ABlk)) (n : Nat) : AH := { tr := trL l, next := n, low := gmax, hid := [] }

theorem heapL_get {l : List (Nat × ABlk)} {n b : Nat} {x : ABlk} (hl : ∀ p ∈ l, gmax ≤ p.1) (h : (heapL l n).get b = some x) : (b, x) ∈ l ∧ b < n := by
  unfold heapL AH.get at h
  simp only [hidden, Bool.false_eq_true, if_false] at h
  split at h
  · rename_i hb
    simp only [Nat.blt_eq] at hb
    simp only [Option.map_eq_some_iff] at h
    obtain ⟨y, hy, rfl⟩ := h
    have := hl _ (trL_get l b y hy)
    simp only at this
    omega
  · split at h
    · rename_i hb
      exact ⟨trL_get l b x h, by simpa using hb⟩
    · cases h

/-! Plain equality. -/

noncomputable def eqCap : Cap → Cap → Bool
  | .ex a, .ex b => Nat.beq a b
  | .own a, .own b => Nat.beq a b
  | .any, .any => true
  | _, _ => false

theorem eqCap_eq {x y : Cap} (h : eqCap x y = true) : x = y := by
  unfold eqCap at h
  split at h
  · rw [Nat.eq_of_beq_eq_true h]
  · rw [Nat.eq_of_beq_eq_true h]
  · rfl
  · cases h

noncomputable def eqS8 : List UInt8 → List UInt8 → Bool
  | [], [] => true
  | a :: r, b :: s => Nat.beq a.toNat b.toNat && eqS8 r s
  | _, _ => false
theorem eqS8_eq : ∀ {l m : List UInt8}, eqS8 l m = true → l = m
  | [], [], _ => rfl
  | a :: r, b :: s, h => by
    simp only [eqS8, Bool.and_eq_true] at h
    rw [UInt8.toNat_inj.1 (Nat.eq_of_beq_eq_true h.1), eqS8_eq h.2]
  | [], _ :: _, h => by cases h
  | _ :: _, [], h => by cases h
/-- Errors that are wrapped, as they stand. -/
noncomputable def eqIf : Nat → AV → AV → Bool
  | n + 1, .ifc t a, .ifc u b => Nat.beq t u && eqIf n a b
  | n + 1, .ag [.str s, x], .ag [.str s', y] => eqS8 s.data.toList s'.data.toList && eqIf n x y
  | _, x, y => eq1 x y
theorem eqIf_eq : ∀ (n : Nat) {x y : AV}, eqIf n x y = true → x = y := by
  intro n
  induction n with
  | zero => intro x y h; exact eq1_eq (by simpa only [eqIf] using h)
  | succ n ih =>
    intro x y h
    unfold eqIf at h
    split at h
    · rename_i hn
      cases hn
      simp only [Bool.and_eq_true] at h
      rw [Nat.eq_of_beq_eq_true h.1, ih h.2]
    · rename_i hn
      cases hn
      simp only [Bool.and_eq_true] at h
      rw [ih h.2, ByteArray.ext (Array.toList_inj.1 (eqS8_eq h.1))]
    · exact eq1_eq h

noncomputable def eq4 : AV → AV → Bool
  | .p a b, .p c d => Nat.beq a c && Nat.beq b d
  | .np, .np => true
  | .nsl, .nsl => true
  | .nif, .nif => true
  | .nmp, .nmp => true
  | .nfn, .nfn => true
  | .mp a, .mp b => Nat.beq a b
  | .sle a, .sle b => a == b
  | .sl a b n c, .sl a' b' n' c' => Nat.beq a a' && Nat.beq b b' && n.beq n' && eqCap c c'
  | .slw a z k d n c, .slw a' z' k' d' n' c' => Nat.beq a a' && Nat.beq z z' && k.beq k' && Nat.beq d d' && n.beq n' && eqCap c c'
  | .ifc t a, .ifc u b => eqIf 20 (.ifc t a) (.ifc u b)
  | x, y => eq3 x y

theorem eq4_eq {x y : AV} (h : eq4 x y = true) : x = y := by
  unfold eq4 at h
  split at h
  · simp only [Bool.and_eq_true] at h
    rw [Nat.eq_of_beq_eq_true h.1, Nat.eq_of_beq_eq_true h.2]
  · rfl
  · rfl
  · rfl
  · rfl
  · rfl
  · rw [Nat.eq_of_beq_eq_true h]
  · simp only [beq_iff_eq] at h; rw [h]
  · simp only [Bool.and_eq_true] at h
    rw [Nat.eq_of_beq_eq_true h.1.1.1, Nat.eq_of_beq_eq_true h.1.1.2, AI.beq_eq _ _ h.1.2, eqCap_eq h.2]
  · simp only [Bool.and_eq_true] at h
    rw [Nat.eq_of_beq_eq_true h.1.1.1.1.1, Nat.eq_of_beq_eq_true h.1.1.1.1.2, AI.beq_eq _ _ h.1.1.1.2, Nat.eq_of_beq_eq_true h.1.1.2, AI.beq_eq _ _ h.1.2, eqCap_eq h.2]
  · exact eqIf_eq _ h
  · exact eq3_eq h

noncomputable def eqL4 : List AV → List AV → Bool
  | [], [] => true
  | a :: r, b :: s => eq4 a b && eqL4 r s
  | _, _ => false

theorem eqL4_eq : ∀ {l m : List AV}, eqL4 l m = true → l = m
  | [], [], _ => rfl
  | a :: r, b :: s, h => by
    simp only [eqL4, Bool.and_eq_true] at h
    rw [eq4_eq h.1, eqL4_eq h.2]
  | [], _ :: _, h => by cases h
  | _ :: _, [], h => by cases h

noncomputable def eqBlk (x y : ABlk) : Bool := eqL4 x.cells y.cells && Nat.beq x.elem y.elem && (x.own == y.own)
theorem eqBlk_eq {x y : ABlk} (h : eqBlk x y = true) : x = y := by
  simp only [eqBlk, Bool.and_eq_true, beq_iff_eq] at h
  obtain ⟨⟨h1, h2⟩, h3⟩ := h
  cases x; cases y
  simp only at h1 h2 h3
  rw [eqL4_eq h1, Nat.eq_of_beq_eq_true h2, h3]

noncomputable def eqEx : Ex → Ex → Bool
  | .normal, .normal => true
  | .exit a, .exit b => Nat.beq a b
  | .ret, .ret => true
  | _, _ => false
theorem eqEx_eq {x y : Ex} (h : eqEx x y = true) : x = y := by
  unfold eqEx at h
  split at h
  · rfl
  · rw [Nat.eq_of_beq_eq_true h]
  · rfl
  · cases h

/-! What is known at a place: slots, blocks. -/

structure Now where
  e : List (Nat × AV)
  H : List (Nat × ABlk)
  n : Nat

noncomputable def inEnv (e' : Tr AV) : List (Nat × AV) → Bool
  | [] => true
  | p :: r => (match e'.get p.1 with | some v => eq4 v p.2 | none => false) && inEnv e' r
noncomputable def inHeap (H' : AH) : List (Nat × ABlk) → Bool
  | [] => true
  | p :: r => Nat.ble gmax p.1 && (match H'.get p.1 with | some v => eqBlk v p.2 | none => false) && inHeap H' r
noncomputable def isNow (ex : Ex) (o : Now) (ex' : Ex) (e' : Tr AV) (H' : AH) : Bool := eqEx ex' ex && inEnv e' o.e && inHeap H' o.H && Nat.beq H'.next o.n

theorem inEnv_mem {e' : Tr AV} : ∀ {l : List (Nat × AV)}, inEnv e' l = true → ∀ p ∈ l, e'.get p.1 = some p.2
  | [], _, p, hp => by cases hp
  | q :: r, h, p, hp => by
    simp only [inEnv, Bool.and_eq_true] at h
    rcases List.mem_cons.1 hp with rfl | hp
    · have h1 := h.1
      split at h1
      · rename_i v hv
        rw [hv, eq4_eq h1]
      · cases h1
    · exact inEnv_mem h.2 p hp
theorem inHeap_mem {H' : AH} : ∀ {l : List (Nat × ABlk)}, inHeap H' l = true → ∀ p ∈ l, gmax ≤ p.1 ∧ H'.get p.1 = some p.2
  | [], _, p, hp => by cases hp
  | q :: r, h, p, hp => by
    simp only [inHeap, Bool.and_eq_true] at h
    rcases List.mem_cons.1 hp with rfl | hp
    · have h1 := h.1.2
      split at h1
      · rename_i v hv
        exact ⟨by simpa using h.1.1, by rw [hv, eqBlk_eq h1]⟩
      · cases h1
    · exact inHeap_mem h.2 p hp

/-- It holds, in a call that began in w0 and leaves alone what was there. -/
structure Holds (N : Nat) (w0 : World) (ν : Nat → Int) (o : Now) (a : Act) (w : World) : Prop where
  low : ∀ p ∈ o.H, gmax ≤ p.1
  big : gmax ≤ o.n
  has : ∃ ρ : Emb, (∀ p ∈ o.e, VR ν ρ p.2 (a.tmps.getD p.1 undef)) ∧ HR ν ρ (heapL o.H o.n) w ∧ (∀ b, o.n ≤ b → ρ b = none) ∧ (∀ cb, Owned ρ (heapL o.H o.n) cb → w0.heap.size ≤ cb)
  below : Below w0.heap.size w0 w
  tmps : a.tmps.size = N
  defers : a.defers = []

section
variable {P : Program} {N : Nat} {w0 : World} {ν : Nat → Int} {F : Facts}

/-- Ahead of a piece of code, and behind it. -/
def Tri (P : Program) (N : Nat) (ic : IC) (Pre : Act → World → Prop) (Post : Ex → Act → World → Prop) : Prop :=
  ∀ c, cCode P N c = some ic → ∀ a w, Pre a w → c.wp P (fun E a' w' => ∃ ex, ExR ex E ∧ Post ex a' w') a w

theorem Tri.weak {ic : IC} {Pre Pre' : Act → World → Prop} {Post Post' : Ex → Act → World → Prop} (h : Tri P N ic Pre Post) (h1 : ∀ a w, Pre' a w → Pre a w) (h2 : ∀ ex a w, Post ex a w → Post' ex a w) : Tri P N ic Pre' Post' :=
  fun c hc a w hp => wp_mono (h c hc a w (h1 a w hp)) fun _ a' w' ⟨ex, hE, hq⟩ => ⟨ex, hE, h2 ex a' w' hq⟩

theorem cCode_seq {c : Code} {x y : IC} (hc : cCode P N c = some (.seq x y)) : ∃ p q, c = .seq p q ∧ cCode P N p = some x ∧ cCode P N q = some y := by
  cases c <;> simp only [cCode, cReg] at hc
  case seq p q =>
    split at hc
    · rename_i ix iy hx hy
      simp only [Option.some.injEq, IC.seq.injEq] at hc
      obtain ⟨rfl, rfl⟩ := hc
      exact ⟨p, q, rfl, hx, hy⟩
    · cases hc
  all_goals first
    | (cases hc; done)
    | (simp at hc; done)
    | (exfalso; revert hc; split <;> (try split) <;> (try split) <;> simp; done)

theorem cCode_block {c : Code} {x : IC} {id : Nat} (hc : cCode P N c = some (.block id x)) : ∃ p, c = .block id p ∧ cCode P N p = some x := by
  cases c <;> simp only [cCode, cReg] at hc
  case block i b =>
    simp only [Option.map_eq_some_iff] at hc
    obtain ⟨ib, hb, e⟩ := hc
    simp only [IC.block.injEq] at e
    obtain ⟨rfl, rfl⟩ := e
    exact ⟨b, rfl, hb⟩
  all_goals first
    | (cases hc; done)
    | (simp at hc; done)
    | (exfalso; revert hc; split <;> (try split) <;> (try split) <;> simp; done)

theorem cCode_loop {c : Code} {x : IC} (hc : cCode P N c = some (.loop x)) : ∃ p, c = .loop p ∧ cCode P N p = some x := by
  cases c <;> simp only [cCode, cReg] at hc
  case loop b =>
    simp only [Option.map_eq_some_iff] at hc
    obtain ⟨ib, hb, e⟩ := hc
    simp only [IC.loop.injEq] at e
    subst e
    exact ⟨b, rfl, hb⟩
  all_goals first
    | (cases hc; done)
    | (simp at hc; done)
    | (exfalso; revert hc; split <;> (try split) <;> (try split) <;> simp; done)

theorem Tri.seq {x y : IC} {Pre : Act → World → Prop} {Mid Post : Ex → Act → World → Prop} (h1 : Tri P N x Pre Mid) (h2 : Tri P N y (Mid .normal) Post) (h3 : ∀ ex a w, ex ≠ .normal → Mid ex a w → Post ex a w) : Tri P N (.seq x y) Pre Post := by
  intro c hc a w hp
  obtain ⟨p, q, rfl, hx, hy⟩ := cCode_seq hc
  refine wp_seq (wp_mono (h1 p hx a w hp) ?_)
  rintro E a' w' ⟨ex, hE, hq⟩
  cases hE with
  | normal => exact h2 q hy a' w' hq
  | exit i => exact ⟨_, .exit i, h3 _ a' w' (by simp) hq⟩
  | ret => exact ⟨_, .ret, h3 _ a' w' (by simp) hq⟩

theorem Tri.block {id : Nat} {x : IC} {Pre : Act → World → Prop} {Mid Post : Ex → Act → World → Prop} (h : Tri P N x Pre Mid) (h1 : ∀ a w, Mid .normal a w → Post .normal a w) (h2 : ∀ a w, Mid (.exit id) a w → Post .normal a w) (h3 : ∀ i a w, i ≠ id → Mid (.exit i) a w → Post (.exit i) a w) (h4 : ∀ a w, Mid .ret a w → Post .ret a w) :
    Tri P N (.block id x) Pre Post := by
  intro c hc a w hp
  obtain ⟨b, rfl, hb⟩ := cCode_block hc
  refine wp_block (wp_mono (h b hb a w hp) ?_)
  rintro E a' w' ⟨ex, hE, hq⟩
  cases hE with
  | normal => exact ⟨_, .normal, h1 a' w' hq⟩
  | exit j =>
    show if j = id then _ else _
    by_cases e : j = id
    · subst e
      rw [if_pos rfl]
      exact ⟨_, .normal, h2 a' w' hq⟩
    · rw [if_neg e]
      exact ⟨_, .exit j, h3 j a' w' e hq⟩
  | ret => exact ⟨_, .ret, h4 a' w' hq⟩

/-- Rounds, counted down. -/
theorem Tri.loop {x : IC} {J : Nat → Act → World → Prop} {Post : Ex → Act → World → Prop} (n : Nat) (h : ∀ i, Tri P N x (J (i + 1)) fun ex a w => (ex = .normal ∧ J i a w) ∨ (ex ≠ .normal ∧ Post ex a w)) (h0 : Tri P N x (J 0) fun ex a w => ex ≠ .normal ∧ Post ex a w) :
    Tri P N (.loop x) (J n) Post := by
  intro c hc a w hp
  obtain ⟨b, rfl, hb⟩ := cCode_loop hc
  refine wp_loop_rounds (n + 1) ?_
  clear hc
  induction n generalizing a w with
  | zero =>
    rw [rounds_succ]
    refine wp_mono (h0 b hb a w hp) ?_
    rintro E a' w' ⟨ex, hE, hne, hq⟩
    cases hE with
    | normal => exact (hne rfl).elim
    | exit j => exact ⟨_, .exit j, hq⟩
    | ret => exact ⟨_, .ret, hq⟩
  | succ i ih =>
    rw [rounds_succ]
    refine wp_mono (h i b hb a w hp) ?_
    rintro E a' w' ⟨ex, hE, hq⟩
    rcases hq with ⟨rfl, hq⟩ | ⟨hne, hq⟩
    · cases hE
      exact ih a' w' hq
    · cases hE with
      | normal => exact (hne rfl).elim
      | exit j => exact ⟨_, .exit j, hq⟩
      | ret => exact ⟨_, .ret, hq⟩

/-- A run of the machine. -/
noncomputable def goes (F : Facts) (tab : Tr IFn) (T : List Row) (fuel d : Nat) (ic : IC) (i : Now) (ex : Ex) (o : Now) : Bool :=
  optK (codeK F (callOK F tab (tovK T) fuel d) fuel ic (trL i.e) (heapL i.H i.n) fun ex' e' H' => some (isNow ex o ex' e' H')) false fun t => t

theorem Tri.run {tab : Tr IFn} {T : List Row} {fuel d : Nat} {ic : IC} {i o : Now} {ex : Ex} (hF : F.Hold ν) (hm : P.follows .mixedOrders = true) (ht : TabOk P (fun f => tab.get f)) (hT : ∀ r ∈ T, r.Ok ν P)
    (h : goes F tab T fuel d ic i ex o = true) : Tri P N ic (Holds N w0 ν i) fun ex' a w => ex' = ex ∧ Holds N w0 ν o a w := by
  intro c hc a w hp
  unfold goes at h
  rw [codeK_eq F (callOK F tab (tovK T) fuel d) (callO F (fun f => tab.get f) (tov T) fuel d) (callOK_eq tab (tov_ok T _) fuel d)] at h
  cases hr : codeA F (callO F (fun f => tab.get f) (tov T) fuel d) fuel ic (trL i.e) (heapL i.H i.n) with
  | none => rw [hr] at h; cases h
  | some q =>
    obtain ⟨ex', e', H'⟩ := q
    rw [hr] at h
    have hn : isNow ex o ex' e' H' = true := h
    simp only [isNow, Bool.and_eq_true] at hn
    obtain ⟨⟨⟨n1, n2⟩, n3⟩, n4⟩ := hn
    have hex := eqEx_eq n1
    subst hex
    have hnx := Nat.eq_of_beq_eq_true n4
    obtain ⟨ρ, he, hh, hfr, hown⟩ := hp.has
    have hsim := callO_sim hF hm ht (tov_sim hT) fuel d
    have hk := code_keeps hsim.keeps _ _ _ _ _ _ _ hr
    have hER : ER ν ρ (trL i.e) a.tmps := fun j x hx => he _ (trL_get i.e j x hx)
    have hw := (code_sim (N := N) hF hsim hm fuel).1 c ic _ _ _ _ _ ρ a w hc hr hER hh (fun b hb _ => hfr b hb) hp.tmps
    refine wp_mono hw ?_
    rintro E a' w' ⟨hE, ρ', g1, g2, g3, g4, g5⟩
    refine ⟨_, hE, rfl, ⟨fun p hp' => (inHeap_mem n3 p hp').1, ?_, ⟨ρ', fun p hp' => g1 p.1 p.2 (inEnv_mem n2 p hp'), ?_, ?_, ?_⟩, ?_, g4, by rw [g5]; exact hp.defers⟩⟩
    · have := hk.next
      have := hp.big
      have : (heapL i.H i.n).next = i.n := rfl
      omega
    · have sub : ∀ b x, (heapL o.H o.n).get b = some x → H'.get b = some x := fun b x hx => (inHeap_mem n3 _ (heapL_get (fun p hp' => (inHeap_mem n3 p hp').1) hx).1).2
      exact ⟨fun b x hx => g2.blk b x (sub b x hx), fun b b' x x' pl pl' h1 h2 h3 h4 h5 h6 => g2.apart b b' x x' pl pl' h1 (sub b x h2) (sub b' x' h3) h4 h5 h6⟩
    · intro b hb
      cases hq : ρ' b with
      | none => rfl
      | some q =>
        have h0 : (heapL i.H i.n).next = i.n := rfl
        have := hk.next
        have := g3.fresh b (hfr b (by omega)) (by rw [hq]; simp)
        omega
    · rintro cb ⟨b, x, pl, h1, h2, h3, h4⟩
      have hx := (inHeap_mem n3 _ (heapL_get (fun p hp' => (inHeap_mem n3 p hp').1) h1).1).2
      rcases Nat.lt_or_ge cb w.heap.size with h5 | h5
      · exact hown cb (g3.owned cb h5 ⟨b, x, pl, hx, h2, h3, h4⟩)
      · have := hp.below.size
        omega
    · have hb := hp.below
      refine ⟨g3.os.trans hb.os, g3.tape.trans hb.tape, g3.output.trans hb.output, Nat.le_trans hb.size g3.size, fun k hk' => ?_⟩
      rw [g3.frame k (Nat.lt_of_lt_of_le hk' hb.size) (fun ho => by have := hown k ho; omega), hb.block k hk']

/-- Values that are the same under other names. -/
def Alike (ν ν' : Nat → Int) (x y : AV) : Prop := ∀ ρ v, VR ν ρ x v → VR ν' ρ y v

theorem Alike.conc {ν ν' : Nat → Int} {x y : AV} {u : Value} (h1 : conc ν x = some u) (h2 : conc ν' y = some u) : Alike ν ν' x y := by
  intro ρ v hv
  rw [(conc_vr h1).2 v hv]
  exact (conc_vr h2).1
theorem Alike.conc1 {ν ν' : Nat → Int} {x y : AV} {u : Value} (h1 : conc1 ν x = some u) (h2 : Sh.conc1 ν' y = some u) : Alike ν ν' x y := by
  intro ρ v hv
  rw [(conc1_vr h1).2 v hv]
  exact (conc1_vr h2).1
theorem Alike.conc2 {ν ν' : Nat → Int} {x y : AV} {u : Value} (h1 : conc2 ν x = some u) (h2 : Sh.conc2 ν' y = some u) : Alike ν ν' x y := by
  intro ρ v hv
  rw [(conc2_vr h1).2 v hv]
  exact (conc2_vr h2).1
theorem Alike.p {ν ν' : Nat → Int} (b o : Nat) : Alike ν ν' (.p b o) (.p b o) := by
  intro ρ v hv
  cases hv
  rename_i pl h
  exact .p b o pl h

/-- Other names. -/
theorem Holds.named {ν ν' : Nat → Int} {o o' : Now} {a : Act} {w : World} (h : Holds N w0 ν o a w) (hn : o'.n = o.n) (he : ∀ p ∈ o'.e, ∃ x, (p.1, x) ∈ o.e ∧ Alike ν ν' x p.2)
    (hH : ∀ b x', (heapL o'.H o'.n).get b = some x' → ∃ x, (heapL o.H o.n).get b = some x ∧ x.elem = x'.elem ∧ x.own = x'.own ∧ x.elem < mapTag ∧ (∀ (j : Nat) c', x'.cells[j]? = some c' → ∃ c, x.cells[j]? = some c ∧ Alike ν ν' c c'))
    (hl : ∀ p ∈ o'.H, gmax ≤ p.1) : Holds N w0 ν' o' a w := by
  obtain ⟨ρ, h1, h2, h3, h4⟩ := h.has
  refine ⟨hl, by rw [hn]; exact h.big, ⟨ρ, fun p hp => ?_, ⟨fun b x' hx' => ?_, fun b b' x x' pl pl' hne hx hx' ho hp hp' => ?_⟩, by rw [hn]; exact h3, ?_⟩, h.below, h.tmps, h.defers⟩
  · obtain ⟨x, g1, g2⟩ := he p hp
    exact g2 ρ _ (h1 _ g1)
  · obtain ⟨x, g1, g2, g3, gm, g4⟩ := hH b x' hx'
    obtain ⟨pl, k1, k2⟩ := h2.blk b x g1
    refine ⟨pl, k1, ⟨fun hm => ?_, fun hm => absurd (g2.trans hm) (Nat.ne_of_lt gm), fun hm => absurd (g2 ▸ hm) (Nat.not_lt_of_lt gm)⟩⟩
    obtain ⟨C, t, fz, q1, q2, q3⟩ := k2.cells (Nat.ne_of_lt gm)
    refine ⟨C, t, fz, q1, fun j c' hc' => ?_, by rw [← g3]; exact q3⟩
    obtain ⟨c, r1, r2⟩ := g4 j c' hc'
    obtain ⟨v, r3, r4⟩ := q2 j c r1
    exact ⟨v, r3, r2 ρ v r4⟩
  · obtain ⟨y, g1, _, g3, _⟩ := hH b x hx
    obtain ⟨y', g1', _⟩ := hH b' x' hx'
    exact h2.apart b b' y y' pl pl' hne g1 g1' (g3.trans ho) hp hp'
  · rintro cb ⟨b, x, pl, k1, k2, k3, k4⟩
    obtain ⟨y, g1, _, g3, _⟩ := hH b x k1
    exact h4 cb ⟨b, y, pl, g1, g3.trans k2, k3, k4⟩

/-- Other names, where blocks hold numbers alone. -/
theorem Holds.renum {ν ν' : Nat → Int} {e e' : List (Nat × AV)} {H H' : List (Nat × ABlk)} {n : Nat} {a : Act} {w : World} (h : Holds N w0 ν ⟨e, H, n⟩ a w) (he : ∀ p ∈ e', ∃ x, (p.1, x) ∈ e ∧ Alike ν ν' x p.2)
    (hH : ∀ p ∈ H', gmax ≤ p.1 ∧ ∃ x us, (heapL H n).get p.1 = some x ∧ x.elem = p.2.elem ∧ x.own = p.2.own ∧ x.elem < mapTag ∧ concL ν x.cells = some us ∧ concL ν' p.2.cells = some us) : Holds N w0 ν' ⟨e', H', n⟩ a w := by
  have hl : ∀ p ∈ H', gmax ≤ p.1 := fun p hp => (hH p hp).1
  refine h.named rfl he (fun b x' hx' => ?_) hl
  obtain ⟨hm, hb⟩ := heapL_get hl hx'
  obtain ⟨_, x, us, g1, g2, g3, g4, g5, g6⟩ := hH _ hm
  refine ⟨x, g1, g2, g3, g4, fun j c' hc' => ?_⟩
  obtain ⟨k1, k2⟩ := concL_spec g5
  obtain ⟨l1, l2⟩ := concL_spec g6
  have hj : j < x'.cells.length := (List.getElem?_eq_some_iff.1 hc').1
  have hj2 : j < us.length := by rw [← l1]; exact hj
  have hj1 : j < x.cells.length := by rw [k1]; exact hj2
  exact ⟨x.cells[j], by simp [hj1], Alike.conc1 (k2 j _ us[j] (by simp [hj1]) (by simp [hj2])) (l2 j c' us[j] hc' (by simp [hj2]))⟩

/-- Other names, where blocks hold numbers, or rows of them. -/
theorem Holds.renumT {ν ν' : Nat → Int} {e e' : List (Nat × AV)} {H H' : List (Nat × ABlk)} {n : Nat} {a : Act} {w : World} (h : Holds N w0 ν ⟨e, H, n⟩ a w) (he : ∀ p ∈ e', ∃ x, (p.1, x) ∈ e ∧ Alike ν ν' x p.2)
    (hH : ∀ p ∈ H', gmax ≤ p.1 ∧ ∃ x us, (heapL H n).get p.1 = some x ∧ x.elem = p.2.elem ∧ x.own = p.2.own ∧ x.elem < mapTag ∧ concT ν x.cells = some us ∧ concT ν' p.2.cells = some us) : Holds N w0 ν' ⟨e', H', n⟩ a w := by
  have hl : ∀ p ∈ H', gmax ≤ p.1 := fun p hp => (hH p hp).1
  refine h.named rfl he (fun b x' hx' => ?_) hl
  obtain ⟨hm, hb⟩ := heapL_get hl hx'
  obtain ⟨_, x, us, g1, g2, g3, g4, g5, g6⟩ := hH _ hm
  refine ⟨x, g1, g2, g3, g4, fun j c' hc' => ?_⟩
  obtain ⟨k1, k2⟩ := concT_spec g5
  obtain ⟨l1, l2⟩ := concT_spec g6
  have hj : j < x'.cells.length := (List.getElem?_eq_some_iff.1 hc').1
  have hj2 : j < us.length := by rw [← l1]; exact hj
  have hj1 : j < x.cells.length := by rw [k1]; exact hj2
  exact ⟨x.cells[j], by simp [hj1], Alike.conc2 (k2 j _ us[j] (by simp [hj1]) (by simp [hj2])) (l2 j c' us[j] hc' (by simp [hj2]))⟩

/-- Other names, and what was made in between forgotten: the next block's number is again what it was. -/
theorem Holds.renumS {ν ν' : Nat → Int} {e e' : List (Nat × AV)} {H H' : List (Nat × ABlk)} {n n' : Nat} {a : Act} {w : World} (h : Holds N w0 ν ⟨e, H, n⟩ a w) (hg : gmax ≤ n')
    (he : ∀ p ∈ e', (∃ x u, (p.1, x) ∈ e ∧ conc ν x = some u ∧ conc ν' p.2 = some u) ∨ (∃ b o, p.2 = .p b o ∧ b < n' ∧ (p.1, AV.p b o) ∈ e))
    (hH : ∀ p ∈ H', gmax ≤ p.1 ∧ p.1 < n' ∧ ∃ x us, (heapL H n).get p.1 = some x ∧ x.elem = p.2.elem ∧ x.own = p.2.own ∧ x.elem < mapTag ∧ concT ν x.cells = some us ∧ concT ν' p.2.cells = some us) : Holds N w0 ν' ⟨e', H', n'⟩ a w := by
  obtain ⟨ρ, h1, h2, h3, h4⟩ := h.has
  have hl : ∀ p ∈ H', gmax ≤ p.1 := fun p hp => (hH p hp).1
  have lt : ∀ b x', (heapL H' n').get b = some x' → b < n' := fun b x' hx' => (hH _ (heapL_get hl hx').1).2.1
  have old : ∀ b x', (heapL H' n').get b = some x' → ∃ x us, (heapL H n).get b = some x ∧ x.elem = x'.elem ∧ x.own = x'.own ∧ x.elem < mapTag ∧ concT ν x.cells = some us ∧ concT ν' x'.cells = some us := fun b x' hx' => (hH _ (heapL_get hl hx').1).2.2
  refine ⟨hl, hg, ⟨⟨fun b => if b < n' then ρ b else none, fun b hb => by
    obtain ⟨i, hi⟩ := ρ.glob b hb
    exact ⟨i, by rw [if_pos (Nat.lt_of_lt_of_le hb hg)]; exact hi⟩⟩, fun p hp => ?_, ⟨fun b x' hx' => ?_, fun b b' x x' pl pl' hne hx hx' ho hp hp' => ?_⟩, fun b (hb : n' ≤ b) => if_neg (by omega), ?_⟩, h.below, h.tmps, h.defers⟩
  · rcases he p hp with ⟨x, u, g1, g2, g3⟩ | ⟨b, o, g1, g2, g3⟩
    · rw [(conc_vr g2).2 _ (h1 _ g1)]
      exact (conc_vr g3).1
    · have hv := h1 _ g3
      rw [g1]
      generalize a.tmps.getD p.1 undef = v at *
      cases hv
      rename_i pl hb
      exact .p b o pl ((if_pos g2).trans hb)
  · obtain ⟨x, us, g1, g2, g3, gm, g4, g5⟩ := old b x' hx'
    obtain ⟨pl, k1, k2⟩ := h2.blk b x g1
    refine ⟨pl, (if_pos (lt b x' hx')).trans k1, ⟨fun hm => ?_, fun hm => absurd (g2.trans hm) (Nat.ne_of_lt gm), fun hm => absurd (g2 ▸ hm) (Nat.not_lt_of_lt gm)⟩⟩
    obtain ⟨C, t, fz, q1, q2, q3⟩ := k2.cells (Nat.ne_of_lt gm)
    refine ⟨C, t, fz, q1, fun j c' hc' => ?_, by rw [← g3]; exact q3⟩
    obtain ⟨m1, m2⟩ := concT_spec g4
    obtain ⟨l1, l2⟩ := concT_spec g5
    have hj : j < x'.cells.length := (List.getElem?_eq_some_iff.1 hc').1
    have hj2 : j < us.length := by rw [← l1]; exact hj
    have hj1 : j < x.cells.length := by rw [m1]; exact hj2
    obtain ⟨v, r3, r4⟩ := q2 j x.cells[j] (by simp [hj1])
    refine ⟨v, r3, ?_⟩
    rw [(conc2_vr (m2 j _ us[j] (by simp [hj1]) (by simp [hj2]))).2 v r4]
    exact (conc2_vr (l2 j c' us[j] hc' (by simp [hj2]))).1
  · obtain ⟨y, _, g1, _, g3, _⟩ := old b x hx
    obtain ⟨y', _, g1', _⟩ := old b' x' hx'
    have e1 : ρ b = some pl := (if_pos (lt b x hx)).symm.trans hp
    have e2 : ρ b' = some pl' := (if_pos (lt b' x' hx')).symm.trans hp'
    exact h2.apart b b' y y' pl pl' hne g1 g1' (g3.trans ho) e1 e2
  · rintro cb ⟨b, x, pl, k1, k2, k3, k4⟩
    obtain ⟨y, _, g1, _, g3, _⟩ := old b x k1
    have e1 : ρ b = some pl := (if_pos (lt b x k1)).symm.trans k3
    exact h4 cb ⟨b, y, pl, g1, g3.trans k2, e1, k4⟩

/-- Forgetting. -/
theorem Holds.less {ν : Nat → Int} {e e' : List (Nat × AV)} {H : List (Nat × ABlk)} {n : Nat} {a : Act} {w : World} (h : Holds N w0 ν ⟨e, H, n⟩ a w) (he : ∀ p ∈ e', p ∈ e) : Holds N w0 ν ⟨e', H, n⟩ a w := by
  obtain ⟨ρ, h1, h2, h3, h4⟩ := h.has
  exact ⟨h.low, h.big, ⟨ρ, fun p hp => h1 p (he p hp), h2, h3, h4⟩, h.below, h.tmps, h.defers⟩

/-- A function whose body is told so. -/
theorem pure_tri {f : Nat} {fn : IFn} {us : List Value} {u : Value} {args : List AV} {rs : List IRes} {ic : IC} {o : Now} {ν' : Nat → Int} {r : AV} {ntmps : Nat} (tab : Tr IFn) (ht : TabOk P (fun f => tab.get f)) (hf : tab.get f = some fn) (hfn : fn = ⟨ic, rs, ntmps⟩)
    (ha : concT ν args = some us) (hlen : args.length ≤ ntmps) (e0 : List (Nat × AV)) (he0 : ∀ p ∈ e0, args[p.1]? = some p.2)
    (htri : ∀ w0, Tri P ntmps ic (Holds ntmps w0 ν ⟨e0, [], gmax⟩) fun ex a w => (ex = .normal ∨ ex = .ret) ∧ Holds ntmps w0 ν' o a w)
    (hres : resA (trL o.e) (heapL o.H o.n) rs = some r) (hr : conc ν' r = some u) : Pure P f us u := by
  obtain ⟨g, g1, g2⟩ := ht f fn hf
  subst hfn
  unfold cFn at g2
  split at g2
  case h_2 => cases g2
  rename_i c hb
  split at g2
  case h_2 => cases g2
  rename_i ic' rs' hic hrs
  split at g2
  case isFalse => cases g2
  rename_i hname
  simp only [Option.some.injEq, IFn.mk.injEq] at g2
  obtain ⟨rfl, rfl, rfl⟩ := g2
  refine .inl ⟨⟨g, g1, by rw [hb]; rfl, by simpa using hname⟩, fun w => calls_of_wp g1 hb ?_⟩
  have hl : ∀ p ∈ ([] : List (Nat × ABlk)), ∃ pl, (embF fun _ => none) p.1 = some pl ∧ BR ν (embF fun _ => none) w p.2.shut pl := fun p hp => by cases hp
  obtain ⟨hLR1, hLR2⟩ := (concT_lr (ρ := embF fun _ => none) ha).1
  have hsz : (us.toArray ++ Array.replicate (g.ntmps - us.toArray.size) undef).size = g.ntmps := by
    simp only [Array.size_append, Array.size_replicate]
    omega
  have hnone : ∀ b x, (heapL [] gmax).get b = some x → False := fun b x hx => by
    have := (heapL_get (fun p hp => by cases hp) hx).1
    cases this
  have hstart : Holds g.ntmps w ν ⟨e0, [], gmax⟩ { tmps := us.toArray ++ Array.replicate (g.ntmps - us.toArray.size) undef, defers := [] } w := by
    refine ⟨(fun p hp => by cases hp), Nat.le_refl _, ⟨embF fun _ => none, fun p hp => ?_, ⟨fun b x hx => (hnone b x hx).elim, fun b b' x x' pl pl' _ hx => (hnone b x hx).elim⟩, fun b hb => embF_other hb, fun cb ⟨b, x, _, h1, _⟩ => (hnone b x h1).elim⟩, Below.refl _ _, hsz, rfl⟩
    have hx := he0 p hp
    have hj : p.1 < args.length := (List.getElem?_eq_some_iff.1 hx).1
    have hj' : p.1 < us.toArray.size := by rw [← hLR1]; exact hj
    rw [Array.getD_eq_getD_getElem?, Array.getElem?_append_left hj', Array.getElem?_eq_getElem hj']
    exact hLR2 p.1 p.2 _ hx (by simp)
  refine wp_mono (htri w c hic _ w hstart) ?_
  rintro E a' w' ⟨ex, hE, hq, hH⟩
  obtain ⟨ρ, k1, k2, _, _⟩ := hH.has
  obtain ⟨v, hv1, hv2⟩ := results_sim (P := P) (w := w') (e := trL o.e) k2 hrs (fun j x hx => k1 _ (trL_get o.e j x hx)) hres
  have hvu : v = u := (conc_vr hr).2 v hv2
  subst hvu
  rcases hq with rfl | rfl
  · cases hE
    exact ⟨hH.defers, v, hv1, rfl, hH.below⟩
  · cases hE
    exact ⟨hH.defers, v, hv1, rfl, hH.below⟩

end
end Go.Sh

namespace Go.Sh
open Go.ChangeShapes Go.WideShapes Go.ChangeAt Go.RowKit
set_option maxRecDepth 100000

/-- It reads as that, whatever the world. -/
def Plain {H : Type} (P : Program) (t : TypeId) (v : Value) (d : DataW H) : Prop := ∀ (enc : TypeId × Value → H) (W : World) (base : Nat) (sp : Nat → Bool) (held : Bool), DataW.Trod enc P W base sp held t v d []

theorem mapM_range' {α : Type} (f : Nat → Option α) : ∀ (l : List α) (s : Nat), (∀ (i : Nat) (hi : i < l.length), f (s + i) = some l[i]) → (List.range' s l.length).mapM f = some l
  | [], s, _ => rfl
  | a :: r, s, h => by
    have h0 := h 0 (by simp)
    have h1 := mapM_range' f r (s + 1) fun i hi => by
      have := h (i + 1) (by simpa using hi)
      rw [show s + 1 + i = s + (i + 1) by omega, this]
      simp
    rw [List.length_cons, List.range'_succ, List.mapM_cons]
    simp only [Nat.add_zero] at h0
    rw [h0, h1]
    rfl

section
variable {H : Type} {P : Program} {t e : TypeId} {n : Nat} {k : IntKind}

theorem plain_int (ht : P.underlying t = some (.int k)) {z : Int} (hw : (Lit.int k z).wf = true) : Plain (H := H) P t (.int k z) (.lit (.int k z)) := fun _ _ _ _ _ => shut_int ht hw
theorem plain_bool (ht : P.underlying t = some .bool) (b : Bool) : Plain (H := H) P t (.bool b) (.lit (.bool b)) := fun _ _ _ _ _ => shut_bool ht b

theorem plain_arr (hu : P.underlying t = some (.array n e)) (he : P.underlying e = some (.int k)) (hc : P.cellsOf e = 1) (hct : P.cellsOf t = n) (zs : List Int) (hz : zs.length = n) (wf : ∀ z ∈ zs, (Lit.int k z).wf = true) :
    Plain (H := H) P t (.agg (zs.map (Value.int k)).toArray) (.agg (zs.map fun z => .lit (.int k z))) := by
  intro enc W base sp held
  refine ⟨2, ?_⟩
  rw [DataW.trod_step]
  unfold DataW.trodStep
  simp only [hu, Value.cells]
  rw [if_pos (by rw [hct]; simpa using hz)]
  have key : (List.range n).mapM (fun i => DataW.trod enc P W base sp held 1 e (((zs.map (Value.int k)).toArray.toList.drop (i * P.cellsOf e)).take (P.cellsOf e))) = some (zs.map fun z => ((.lit (.int k z) : DataW H), ([] : List MemPlace))) := by
    rw [hc, List.range_eq_range']
    have hl : n = (zs.map fun z => ((.lit (.int k z) : DataW H), ([] : List MemPlace))).length := by simp [hz]
    conv => lhs; rw [hl]
    refine mapM_range' _ _ 0 fun i hi => ?_
    have hi' : i < zs.length := by simpa using hi
    have e1 : (((zs.map (Value.int k)).toArray.toList.drop ((0 + i) * 1)).take 1) = [Value.int k zs[i]] := by
      rw [Nat.zero_add, Nat.mul_one, List.toList_toArray, List.drop_eq_getElem_cons (by simpa using hi')]
      simp
    rw [e1]
    simp [DataW.trod, he, wf zs[i] (List.getElem_mem hi')]
  rw [key]
  simp [Function.comp_def, List.flatMap_eq_nil_iff]

theorem open_array (hu : P.underlying t = some (.array n e)) (he : P.underlying e = some (.int k)) (hc : P.cellsOf e = 1) (hct : P.cellsOf t = n) {enc : TypeId × Value → H} {w : World} {r : Reach} {b0 base : Nat} {sp : Nat → Bool} {held : Bool} {v : Value} {d : DataW H} {ps : List MemPlace}
    (hval : Value.okWide P w r b0 t v) (hd : DataW.Trod enc P w base sp held t v d ps) : ∃ zs : List Int, zs.length = n ∧ v = .agg (zs.map (Value.int k)).toArray ∧ (∀ z ∈ zs, (Lit.int k z).wf = true) ∧ ps = [] ∧ Plain P t v d := by
  simp only [Value.okWide, hu] at hval
  obtain ⟨cs, rfl, hsz, _⟩ := hval
  obtain ⟨fuel, hf⟩ := hd
  obtain ⟨xs, m, rfl, hx, hlen, hxl, hel⟩ := DataW.trod_array hu hf
  simp only [Prod.mk.injEq] at hx
  have hcs : cs.toList.length = n := by rw [hct] at hlen; simpa [Value.cells] using hlen
  have each : ∀ i, i < n → ∃ z, cs.toList[i]? = some (.int k z) ∧ xs[i]? = some (.lit (.int k z), []) ∧ (Lit.int k z).wf = true := by
    intro i hi
    have h1 := hel i hi
    rw [hc, Nat.mul_one] at h1
    have hix : i < xs.length := by omega
    rw [List.getElem?_eq_getElem hix] at h1
    obtain ⟨z, e1, e2, e3⟩ := DataW.trod_int he h1
    refine ⟨z, ?_, by rw [List.getElem?_eq_getElem hix, e2], e3⟩
    have h3 : ((cs.toList.drop i).take 1)[0]? = some (Value.int k z) := by
      have : ((Value.agg cs).cells.toList.drop i).take 1 = [Value.int k z] := e1
      rw [show (Value.agg cs).cells.toList = cs.toList from rfl] at this
      rw [this]; rfl
    simp only [List.getElem?_take, List.getElem?_drop] at h3
    simpa using h3
  let g : Value → Int := fun v => match v with | .int _ z => z | _ => 0
  have hcz : cs.toList = (cs.toList.map g).map (Value.int k) := by
    apply List.ext_getElem?
    intro i
    by_cases hi : i < n
    · obtain ⟨z, h1, _, _⟩ := each i hi
      rw [List.getElem?_map, List.getElem?_map, h1]
      rfl
    · rw [List.getElem?_eq_none (by omega), List.getElem?_eq_none (by simpa using by omega)]
  have hds : d = .agg ((cs.toList.map g).map fun z => .lit (.int k z)) := by
    rw [hx.1]
    congr 1
    apply List.ext_getElem?
    intro i
    by_cases hi : i < n
    · obtain ⟨z, h1, h2, _⟩ := each i hi
      rw [List.getElem?_map, List.getElem?_map, List.getElem?_map, h1, h2]
      rfl
    · rw [List.getElem?_eq_none (by simpa using by omega), List.getElem?_eq_none (by simpa using by omega)]
  have hwf : ∀ z ∈ cs.toList.map g, (Lit.int k z).wf = true := by
    intro z hz
    obtain ⟨i, hi, he⟩ := List.mem_iff_getElem.1 hz
    have hi' : i < n := by rw [← hcs]; simpa using hi
    obtain ⟨z', h1, _, h3⟩ := each i hi'
    have : (cs.toList.map g)[i]? = some z' := by rw [List.getElem?_map, h1]; rfl
    rw [List.getElem?_eq_getElem hi] at this
    rw [← he, Option.some.inj this]
    exact h3
  have hv : (Value.agg cs) = .agg ((cs.toList.map g).map (Value.int k)).toArray := by rw [← hcz]
  refine ⟨cs.toList.map g, by simpa using hcs, hv, hwf, ?_, ?_⟩
  · rw [hx.2, List.flatMap_eq_nil_iff]
    intro x hxm
    obtain ⟨i, hi, he⟩ := List.mem_iff_getElem.1 hxm
    obtain ⟨z, _, h2, _⟩ := each i (by omega)
    rw [List.getElem?_eq_getElem hi, he] at h2
    rw [Option.some.inj h2]
  · rw [hv, hds]
    exact plain_arr hu he hc hct _ (by simpa using hcs) hwf

end

theorem list32 {α : Type} (l : List α) (h : l.length = 32) : ∃ a0 a1 a2 a3 a4 a5 a6 a7 a8 a9 a10 a11 a12 a13 a14 a15 a16 a17 a18 a19 a20 a21 a22 a23 a24 a25 a26 a27 a28 a29 a30 a31 : α, l = [a0, a1, a2, a3, a4, a5, a6, a7, a8, a9, a10, a11, a12, a13, a14, a15, a16, a17, a18, a19, a20, a21, a22, a23, a24, a25, a26, a27, a28, a29, a30, a31] := by
  match l, h with
  | [a0, a1, a2, a3, a4, a5, a6, a7, a8, a9, a10, a11, a12, a13, a14, a15, a16, a17, a18, a19, a20, a21, a22, a23, a24, a25, a26, a27, a28, a29, a30, a31], _ => exact ⟨a0, a1, a2, a3, a4, a5, a6, a7, a8, a9, a10, a11, a12, a13, a14, a15, a16, a17, a18, a19, a20, a21, a22, a23, a24, a25, a26, a27, a28, a29, a30, a31, rfl⟩

theorem bL_of (b0 b1 b2 b3 b4 b5 b6 b7 : Nat) (l0 : b0 < 256) (l1 : b1 < 256) (l2 : b2 < 256) (l3 : b3 < 256) (l4 : b4 < 256) (l5 : b5 < 256) (l6 : b6 < 256) (l7 : b7 < 256) :
    bL (b0 + 256 * b1 + 65536 * b2 + 16777216 * b3 + 4294967296 * b4 + 1099511627776 * b5 + 281474976710656 * b6 + 72057594037927936 * b7) = [b0, b1, b2, b3, b4, b5, b6, b7] ∧
    b0 + 256 * b1 + 65536 * b2 + 16777216 * b3 + 4294967296 * b4 + 1099511627776 * b5 + 281474976710656 * b6 + 72057594037927936 * b7 < 18446744073709551616 := by
  refine ⟨?_, by omega⟩
  unfold bL
  simp only [List.cons.injEq, and_true]
  refine ⟨by omega, by omega, by omega, by omega, by omega, by omega, by omega, by omega⟩

theorem words_num (a b c d : Nat) (ha : a < 18446744073709551616) (hb : b < 18446744073709551616) (hc : c < 18446744073709551616) (hd : d < 18446744073709551616) : ∃ x, x < B4 ∧ w0 x = a ∧ w1 x = b ∧ w2 x = c ∧ w3 x = d := by
  obtain ⟨h0, h1, h2, h3, h4⟩ := dig4 (e := 0) ha hb hc hd (x := a + b * 18446744073709551616 + c * 340282366920938463463374607431768211456 + d * 6277101735386680763835789423207666416102355444464034512896) (by omega)
  exact ⟨_, by unfold B4; omega, h0, h1, h2, h3⟩

/-- Thirty-two bytes are a number. -/
theorem bytes_num (zs : List Int) (hl : zs.length = 32) (hw : ∀ z ∈ zs, (Lit.int .u8 z).wf = true) : ∃ x, x < B4 ∧ (Value.agg (zs.map (Value.int .u8)).toArray) = byt x := by
  have hn : ∃ bs : List Nat, bs.length = 32 ∧ zs = bs.map (fun b : Nat => (b : Int)) ∧ ∀ b ∈ bs, b < 256 := by
    refine ⟨zs.map Int.toNat, by simpa using hl, ?_, fun b hb => ?_⟩
    · rw [List.map_map]
      apply List.ext_getElem?
      intro i
      rw [List.getElem?_map]
      cases h : zs[i]? with
      | none => rfl
      | some z =>
        have := hw z (List.mem_of_getElem? h)
        simp [Lit.wf, IntKind.min, IntKind.max, IntKind.signed, IntKind.bits] at this
        simp only [Option.map_some, Function.comp_apply, Option.some.injEq]
        omega
    · obtain ⟨z, hz, rfl⟩ := List.mem_map.1 hb
      have := hw z hz
      simp [Lit.wf, IntKind.min, IntKind.max, IntKind.signed, IntKind.bits] at this
      omega
  obtain ⟨l, hlen, rfl, hb⟩ := hn
  obtain ⟨b0, b1, b2, b3, b4, b5, b6, b7, b8, b9, b10, b11, b12, b13, b14, b15, b16, b17, b18, b19, b20, b21, b22, b23, b24, b25, b26, b27, b28, b29, b30, b31, rfl⟩ := list32 l hlen
  simp only [List.mem_cons, List.not_mem_nil, or_false, forall_eq_or_imp, forall_eq] at hb
  obtain ⟨l0, l1, l2, l3, l4, l5, l6, l7, l8, l9, l10, l11, l12, l13, l14, l15, l16, l17, l18, l19, l20, l21, l22, l23, l24, l25, l26, l27, l28, l29, l30, l31⟩ := hb
  obtain ⟨e0, g0⟩ := bL_of b0 b1 b2 b3 b4 b5 b6 b7 l0 l1 l2 l3 l4 l5 l6 l7
  obtain ⟨e1, g1⟩ := bL_of b8 b9 b10 b11 b12 b13 b14 b15 l8 l9 l10 l11 l12 l13 l14 l15
  obtain ⟨e2, g2⟩ := bL_of b16 b17 b18 b19 b20 b21 b22 b23 l16 l17 l18 l19 l20 l21 l22 l23
  obtain ⟨e3, g3⟩ := bL_of b24 b25 b26 b27 b28 b29 b30 b31 l24 l25 l26 l27 l28 l29 l30 l31
  obtain ⟨x, hx, h0, h1, h2, h3⟩ := words_num _ _ _ _ g0 g1 g2 g3
  refine ⟨x, hx, ?_⟩
  unfold byt byL
  rw [h0, h1, h2, h3, e0, e1, e2, e3]
  rfl

end Go.Sh
