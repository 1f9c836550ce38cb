/-
  THE SHADOW MACHINE: regions whose order is open: the trace in the text's order. Own work.
-/
import Derived.Test.YtnlhpiieihnbiaaDoorShK
namespace Go.Sh

abbrev St := Tr AV × AH × Spans

section
variable {ν : Nat → Int} {F : Facts} {P : Program} {call : CallFn} {xs : List IOp} {st : Nat → St} {L : Lone}

theorem fold_trace : ∀ (l : List IOp) (k : Nat) (s s' : St), foldD F call L k l s = some s' → ∃ st : Nat → St, st 0 = s ∧ st l.length = s' ∧ ∀ (i : Nat) x, l[i]? = some x → stepD F call L (k + i) x (st i) = some (st (i + 1)) := by
  intro l
  induction l with
  | nil =>
    intro k s s' h
    simp only [foldD, Option.some.injEq] at h
    exact ⟨fun _ => s, rfl, h, fun i x hx => by simp at hx⟩
  | cons o r ih =>
    intro k s s' h
    simp only [foldD] at h
    split at h
    · rename_i s1 hs1
      obtain ⟨st1, h1, h2, h3⟩ := ih (k + 1) s1 s' h
      refine ⟨fun i => match i with | 0 => s | i + 1 => st1 i, rfl, h2, fun i x hx => ?_⟩
      cases i with
      | zero =>
        simp at hx
        subst hx
        show stepD F call L (k + 0) o s = some (st1 0)
        rw [h1]
        exact hs1
      | succ i =>
        have := h3 i x (by simpa using hx)
        show stepD F call L (k + (i + 1)) x (st1 i) = some (st1 (i + 1))
        rw [← this]
        congr 1
        omega
    · cases h

/-- What an operation's step was. -/
inductive Kd (F : Facts) (call : CallFn) (L : Lone) (i : Nat) (x : IOp) (s s' : St) : AV → Prop
  | skip (hw : wantedA s.1 x.guard = some false) (h : s'.2 = s.2) : Kd F call L i x s s' (.tp [])
  | pure (r : AV) (hw : wantedA s.1 x.guard = some true) (hp : x.op.isPure = true) (hv : pureA F s.1 x.op = some r) (h : s'.2 = s.2) : Kd F call L i x s s' r
  | free (r : AV) (hw : wantedA s.1 x.guard = some true) (hp : x.op.isPure = false) (hf : x.free = true) (hv : opA F call s.1 s.2.1 x.op = some (r, s'.2.1)) (h : s'.2.2 = []) : Kd F call L i x s s' r
  | lone (r : AV) (b off n : Nat) (p q : O) (hw : wantedA s.1 x.guard = some true) (hop : x.op = .st n p q) (hf : x.free = false) (hl : loneAt L i = some b) (hb : p.ev s.1 = .p b off) (hok : loneOk i x.anc b L = true)
      (hh : hidden (spansBut x.anc s.2.2) b = false) (hv : opA F call s.1 s.2.1 (.st n p q) = some (r, s'.2.1)) (h : s'.2.2 = s.2.2) : Kd F call L i x s s' r
  | mono (r : AV) (H' : AH) (hw : wantedA s.1 x.guard = some true) (hp : x.op.isPure = false) (hf : x.free = false) (hl : loneAt L i = none)
      (hv : opA F call s.1 { s.2.1 with low := s.2.1.next, hid := spansBut x.anc s.2.2 ++ (hidL s.2.1.next i x.anc L ++ s.2.1.hid) } x.op = some (r, H')) (h : s'.2.1 = { H' with low := s.2.1.low, hid := s.2.1.hid })
      (h2 : s'.2.2 = if Nat.beq H'.next s.2.1.next then s.2.2 else (i, s.2.1.next, H'.next) :: s.2.2) : Kd F call L i x s s' r

theorem stepD_kd {i : Nat} {x : IOp} {s s' : St} (h : stepD F call L i x s = some s') : ∃ r, putE s.1 x.dst r = some s'.1 ∧ Kd F call L i x s s' r := by
  obtain ⟨e, H, sp⟩ := s
  simp only [stepD] at h
  split at h
  · rename_i hw
    split at h
    · rename_i hp
      split at h
      · rename_i v hv
        simp only [Option.map_eq_some_iff] at h
        obtain ⟨e1, h1, rfl⟩ := h
        exact ⟨v, h1, .pure v hw hp hv rfl⟩
      · cases h
    · rename_i hp
      have hp : x.op.isPure = false := by simpa using hp
      split at h
      · rename_i hf
        split at h
        · rename_i v H1 hv
          simp only [Option.map_eq_some_iff] at h
          obtain ⟨e1, h1, rfl⟩ := h
          exact ⟨v, h1, .free v hw hp hf hv rfl⟩
        · cases h
      · rename_i hf
        have hf : x.free = false := by simpa using hf
        split at h
        · rename_i b hl
          split at h
          · rename_i n p q hop
            split at h
            · rename_i b' off hb
              split at h
              · rename_i hc
                simp only [Bool.and_eq_true, Bool.not_eq_true'] at hc
                have hbb := Nat.eq_of_beq_eq_true hc.1.1
                subst hbb
                split at h
                · rename_i v H1 hv
                  simp only [Option.map_eq_some_iff] at h
                  obtain ⟨e1, h1, rfl⟩ := h
                  exact ⟨v, h1, .lone v b' off n p q hw hop hf hl hb hc.1.2 hc.2 hv rfl⟩
                · cases h
              · cases h
            · cases h
          · cases h
        · rename_i hl
          split at h
          · rename_i v H1 hv
            simp only [Option.map_eq_some_iff] at h
            obtain ⟨e1, h1, rfl⟩ := h
            exact ⟨v, h1, .mono v H1 hw hp hf hl hv rfl rfl⟩
          · cases h
  · rename_i hw
    simp only [Option.map_eq_some_iff] at h
    obtain ⟨e1, h1, rfl⟩ := h
    exact ⟨.tp [], h1, .skip hw rfl⟩
  · cases h

/-- The trace of a region in the text's order. -/
structure Trace (F : Facts) (call : CallFn) (L : Lone) (xs : List IOp) (st : Nat → St) : Prop where
  step : ∀ (i : Nat) x, xs[i]? = some x → ∃ r, putE (st i).1 x.dst r = some (st (i + 1)).1 ∧ Kd F call L i x (st i) (st (i + 1)) r
  keeps : ∀ f args H r H', call f args H = some (r, H') → Keeps H H'
  low : (st 0).2.1.low ≤ (st 0).2.1.next

def Wr (xs : List IOp) (st : Nat → St) (i : Nat) : Prop := ∃ x, xs[i]? = some x ∧ x.free = true ∧ x.op.isPure = false ∧ wantedA (st i).1 x.guard = some true

/-- Such a store to that block. -/
def Ls (L : Lone) (xs : List IOp) (st : Nat → St) (b i : Nat) : Prop := ∃ x, xs[i]? = some x ∧ x.free = false ∧ x.op.isPure = false ∧ wantedA (st i).1 x.guard = some true ∧ loneAt L i = some b

/-- Whatever may write that block. -/
def Wb (L : Lone) (xs : List IOp) (st : Nat → St) (b i : Nat) : Prop := Wr xs st i ∨ Ls L xs st b i

theorem st_spec {e : Tr AV} {H H' : AH} {n b off : Nat} {p q : O} {r : AV} (hv : opA F call e H (.st n p q) = some (r, H')) (hb : p.ev e = .p b off) :
    r = .u ∧ H'.next = H.next ∧ H'.low = H.low ∧ H'.hid = H.hid ∧ (∀ j, j ≠ b → H'.tr.get j = H.tr.get j) ∧ ∃ y cs, H.get b = some y ∧ y.own = true ∧ H'.get b = some { y with cells := splice y.cells off cs } := by
  simp only [opA, hb] at hv
  split at hv
  · rename_i b' o' cs e1 e2
    cases e1
    split at hv
    · simp only [Option.map_eq_some_iff, Prod.mk.injEq] at hv
      obtain ⟨H1, hw, rfl, rfl⟩ := hv
      unfold AH.wr at hw
      split at hw
      · rename_i y hy
        split at hw
        · cases hw
        · split at hw
          · obtain ⟨z, hz, ho, h2, h3, h4, h6⟩ := H.lay_spec hw
            rw [hy] at hz
            cases hz
            refine ⟨rfl, h2, h3, h4, fun j hj => by rw [h6 j, if_neg hj], y, cs, hy, ho, ?_⟩
            rw [AH.lay_get hw b, if_pos rfl]
          · cases hw
      · cases hw
    · cases hv
  · cases hv

theorem Trace.next1 (h : Trace F call L xs st) {i : Nat} (hi : i < xs.length) :
    (st i).2.1.next ≤ (st (i + 1)).2.1.next ∧ (st (i + 1)).2.1.low = (st i).2.1.low ∧ (st (i + 1)).2.1.hid = (st i).2.1.hid ∧
      (∀ b, ¬ Wb L xs st b i → b < (st i).2.1.next → (st (i + 1)).2.1.tr.get b = (st i).2.1.tr.get b) := by
  obtain ⟨r, _, hk⟩ := h.step i xs[i] (by simp [hi])
  cases hk with
  | skip hw hs => rw [hs]; exact ⟨Nat.le_refl _, rfl, rfl, fun _ _ _ => rfl⟩
  | pure r hw hp hv hs => rw [hs]; exact ⟨Nat.le_refl _, rfl, rfl, fun _ _ _ => rfl⟩
  | free r hw hp hf hv hs =>
    have k := opA_keeps h.keeps hv
    exact ⟨k.next, k.low, k.hid, fun _ hn => (hn (.inl ⟨xs[i], by simp [hi], hf, hp, hw⟩)).elim⟩
  | lone r b off n p q hw hop hf hl hb hok hh hv hs =>
    obtain ⟨_, h1, h2, h3, h4, _⟩ := st_spec hv hb
    refine ⟨by omega, h2, h3, fun c hn _ => h4 c fun e => hn (.inr ?_)⟩
    subst e
    exact ⟨xs[i], by simp [hi], hf, by rw [hop]; rfl, hw, hl⟩
  | mono r H' hw hp hf hl hv hs hs2 =>
    have k := opA_keeps h.keeps hv
    rw [hs]
    exact ⟨k.next, rfl, rfl, fun b _ hb => k.old b hb⟩

theorem Trace.facts (h : Trace F call L xs st) : ∀ (i : Nat), i ≤ xs.length → (st i).2.1.low = (st 0).2.1.low ∧ (st i).2.1.hid = (st 0).2.1.hid ∧ (st 0).2.1.next ≤ (st i).2.1.next := by
  intro i
  induction i with
  | zero => intro _; exact ⟨rfl, rfl, Nat.le_refl _⟩
  | succ i ih =>
    intro hi
    obtain ⟨h1, h2, h3⟩ := ih (by omega)
    obtain ⟨g1, g2, g3, _⟩ := h.next1 (i := i) (by omega)
    exact ⟨g2.trans h1, g3.trans h2, Nat.le_trans h3 g1⟩

theorem Trace.mono (h : Trace F call L xs st) (i : Nat) : ∀ (k : Nat), i + k ≤ xs.length → (st i).2.1.next ≤ (st (i + k)).2.1.next := by
  intro k
  induction k with
  | zero => intro _; exact Nat.le_refl _
  | succ k ih =>
    intro hk
    exact Nat.le_trans (ih (by omega)) (h.next1 (i := i + k) (by omega)).1

theorem Trace.mono' (h : Trace F call L xs st) {i j : Nat} (hij : i ≤ j) (hj : j ≤ xs.length) : (st i).2.1.next ≤ (st j).2.1.next := by
  have := h.mono i (j - i) (by omega)
  rwa [show i + (j - i) = j by omega] at this

theorem Trace.stable (h : Trace F call L xs st) {b : Nat} (i : Nat) : ∀ (k : Nat), i + k ≤ xs.length → (∀ j, i ≤ j → j < i + k → ¬ Wb L xs st b j) → b < (st i).2.1.next → (st (i + k)).2.1.get b = (st i).2.1.get b := by
  intro k
  induction k with
  | zero => intro _ _ _; rfl
  | succ k ih =>
    intro hk hw hb
    rw [← ih (by omega) (fun j h1 h2 => hw j h1 (by omega)) hb]
    obtain ⟨g1, g2, g3, g4⟩ := h.next1 (i := i + k) (by omega)
    have hm := h.mono i k (by omega)
    have e1 := g4 b (hw (i + k) (by omega) (by omega)) (by omega)
    show (st (i + k + 1)).2.1.get b = _
    unfold AH.get
    rw [g2, g3, e1]
    have b1 : Nat.blt b (st (i + k + 1)).2.1.next = true := by simp; omega
    have b2 : Nat.blt b (st (i + k)).2.1.next = true := by simp; omega
    rw [b1, b2]

theorem Trace.stable' (h : Trace F call L xs st) {i j : Nat} {b : Nat} (hij : i ≤ j) (hj : j ≤ xs.length) (hw : ∀ k, i ≤ k → k < j → ¬ Wb L xs st b k) (hb : b < (st i).2.1.next) : (st j).2.1.get b = (st i).2.1.get b := by
  have := h.stable i (j - i) (by omega) (fun k h1 h2 => hw k h1 (by omega)) hb
  rwa [show i + (j - i) = j by omega] at this

theorem Trace.cover (st : Nat → St) (xs : List IOp) : ∀ (m : Nat), m ≤ xs.length → ∀ b, (st 0).2.1.next ≤ b → b < (st m).2.1.next → ∃ i, i < m ∧ (st i).2.1.next ≤ b ∧ b < (st (i + 1)).2.1.next := by
  intro m
  induction m with
  | zero => intro _ b h1 h2; omega
  | succ m ih =>
    intro hm b h1 h2
    rcases Nat.lt_or_ge b (st m).2.1.next with h3 | h3
    · obtain ⟨i, g1, g2, g3⟩ := ih (by omega) b h1 h3
      exact ⟨i, by omega, g2, g3⟩
    · exact ⟨m, by omega, h3, h2⟩

theorem Trace.loud (h : Trace F call L xs st) {i : Nat} (hi : i < xs.length) (hl : (st i).2.1.next < (st (i + 1)).2.1.next) : xs[i].op.isPure = false := by
  obtain ⟨r, _, hk⟩ := h.step i xs[i] (by simp [hi])
  cases hk with
  | skip hw hs => rw [hs] at hl; omega
  | pure r hw hp hv hs => rw [hs] at hl; omega
  | free r hw hp hf hv hs => exact hp
  | lone r b off n p q hw hop hf hlo hb hok hh hv hs => rw [hop]; rfl
  | mono r H' hw hp hf hlo hv hs hs2 => exact hp

theorem Trace.span (h : Trace F call L xs st) : ∀ (i : Nat), i ≤ xs.length → ∀ j, j < i → (st j).2.1.next < (st (j + 1)).2.1.next → (j, (st j).2.1.next, (st (j + 1)).2.1.next) ∈ (st i).2.2 ∨ ∃ k, j ≤ k ∧ k < i ∧ Wr xs st k := by
  intro i
  induction i with
  | zero => intro _ j hj; omega
  | succ i ih =>
    intro hi j hj hl
    have hi' : i < xs.length := by omega
    obtain ⟨r, _, hk⟩ := h.step i xs[i] (by simp [hi'])
    cases hk with
    | free r hw hp hf hv hs => exact .inr ⟨i, by omega, by omega, xs[i], by simp [hi'], hf, hp, hw⟩
    | skip hw hs =>
      rcases Nat.lt_or_ge j i with h1 | h1
      · rcases ih (by omega) j h1 hl with h2 | ⟨k, g1, g2, g3⟩
        · rw [hs]; exact .inl h2
        · exact .inr ⟨k, g1, by omega, g3⟩
      · have : j = i := by omega
        subst this
        rw [hs] at hl
        omega
    | pure r hw hp hv hs =>
      rcases Nat.lt_or_ge j i with h1 | h1
      · rcases ih (by omega) j h1 hl with h2 | ⟨k, g1, g2, g3⟩
        · rw [hs]; exact .inl h2
        · exact .inr ⟨k, g1, by omega, g3⟩
      · have : j = i := by omega
        subst this
        rw [hs] at hl
        omega
    | lone r b off n p q hw hop hf hlo hb hok hh hv hs =>
      rcases Nat.lt_or_ge j i with h1 | h1
      · rcases ih (by omega) j h1 hl with h2 | ⟨k, g1, g2, g3⟩
        · rw [hs]; exact .inl h2
        · exact .inr ⟨k, g1, by omega, g3⟩
      · have : j = i := by omega
        subst this
        have := (st_spec hv hb).2.1
        omega
    | mono r H' hw hp hf hlo hv hs hs2 =>
      have hn : (st (i + 1)).2.1.next = H'.next := by rw [hs]
      rcases Nat.lt_or_ge j i with h1 | h1
      · rcases ih (by omega) j h1 hl with h2 | ⟨k, g1, g2, g3⟩
        · left
          rw [hs2]
          split
          · exact h2
          · exact List.mem_cons_of_mem _ h2
        · exact .inr ⟨k, g1, by omega, g3⟩
      · have : j = i := by omega
        subst this
        left
        rw [hs2]
        have : Nat.beq H'.next (st j).2.1.next = false := by
          rw [Bool.eq_false_iff]
          intro hq
          have := Nat.eq_of_beq_eq_true hq
          omega
        rw [this, hn]
        exact List.mem_cons_self

theorem spansBut_hides {anc : List Nat} {b : Nat} : ∀ (sp : Spans) (p : Nat × Nat × Nat), p ∈ sp → p.1 ∉ anc → p.2.1 ≤ b → b < p.2.2 → hidden (spansBut anc sp) b = true := by
  intro sp
  induction sp with
  | nil => intro p hp; cases hp
  | cons q r ih =>
    intro p hp ha h1 h2
    simp only [spansBut]
    rcases List.mem_cons.1 hp with rfl | hp
    · have : anc.contains p.1 = false := by simpa using ha
      rw [this]
      simp only [Bool.false_eq_true, if_false, hidden, Bool.or_eq_true, Bool.and_eq_true]
      left
      exact ⟨by simpa using h1, by simpa using h2⟩
    · have := ih p hp ha h1 h2
      split
      · exact this
      · simp only [hidden, this, Bool.or_true]

theorem hidden_append (l m : List (Nat × Nat)) (b : Nat) : hidden (l ++ m) b = (hidden l b || hidden m b) := by
  induction l with
  | nil => simp [hidden]
  | cons p r ih => simp [hidden, ih, Bool.or_assoc]

theorem spansBut_le {anc : List Nat} {b n : Nat} : ∀ (sp : Spans), (∀ p ∈ sp, p.2.2 ≤ n) → n ≤ b → hidden (spansBut anc sp) b = false := by
  intro sp
  induction sp with
  | nil => intro _ _; rfl
  | cons q r ih =>
    intro h hb
    have h1 := h q (by simp)
    have h2 := ih (fun p hp => h p (by simp [hp])) hb
    simp only [spansBut]
    split
    · exact h2
    · have : Nat.blt b q.2.2 = false := by rw [Bool.eq_false_iff]; simp; omega
      simp [hidden, h2, this]

theorem Trace.span_le (h : Trace F call L xs st) (h0 : (st 0).2.2 = []) : ∀ (i : Nat), i ≤ xs.length → ∀ p ∈ (st i).2.2, p.2.2 ≤ (st i).2.1.next := by
  intro i
  induction i with
  | zero => intro _ p hp; rw [h0] at hp; cases hp
  | succ i ih =>
    intro hi p hp
    have hi' : i < xs.length := by omega
    obtain ⟨r, _, hk⟩ := h.step i xs[i] (by simp [hi'])
    have hn := (h.next1 hi').1
    cases hk with
    | free r hw hp' hf hv hs => rw [hs] at hp; cases hp
    | skip hw hs => rw [hs] at hp ⊢; exact ih (by omega) p hp
    | pure r hw hp' hv hs => rw [hs] at hp ⊢; exact ih (by omega) p hp
    | lone r b off n p' q hw hop hf hlo hb hok hh hv hs =>
      rw [hs] at hp
      have := ih (by omega) p hp
      omega
    | mono r H' hw hp' hf hlo hv hs hs2 =>
      have hn2 : (st (i + 1)).2.1.next = H'.next := by rw [hs]
      rw [hs2] at hp
      split at hp
      · have := ih (by omega) p hp; omega
      · rcases List.mem_cons.1 hp with rfl | hp
        · simp only; omega
        · have := ih (by omega) p hp; omega

end
end Go.Sh
