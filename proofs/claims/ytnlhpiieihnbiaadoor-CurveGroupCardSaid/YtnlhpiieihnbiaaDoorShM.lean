/-
  THE SHADOW MACHINE: regions whose order is open: every order. Own work.
-/
import Derived.Test.YtnlhpiieihnbiaaDoorShL
namespace Go.Sh

section
variable {ν : Nat → Int} {F : Facts} {P : Program} {call : CallFn} {xs : List IOp} {st : Nat → St} {ops : Array Oper} {N : Nat} {L : Lone}

def Vis (st : Nat → St) (m : Nat) (S : Nat → Prop) (b : Nat) : Prop := ∀ k, k < m → (st k).2.1.next ≤ b → b < (st (k + 1)).2.1.next → S k

def Fits (L : Lone) (xs : List IOp) (st : Nat → St) (b m : Nat) (S : Nat → Prop) : Prop := m ≤ xs.length ∧ ∀ j, Wb L xs st b j → (j < m ↔ S j)

/-- What is told of the stores is so. -/
def LoneOk (L : Lone) (xs : List IOp) : Prop := ∀ p ∈ L, ∃ x, xs[p.1]? = some x ∧ p.2.2 = x.anc

theorem loneAt_mem {i b : Nat} : ∀ {L : Lone}, loneAt L i = some b → ∃ l, (i, b, l) ∈ L
  | [], h => by cases h
  | p :: r, h => by
    simp only [loneAt] at h
    split at h
    · rename_i hb
      have := Nat.eq_of_beq_eq_true hb
      simp only [Option.some.injEq] at h
      subst this; subst h
      exact ⟨p.2.2, List.mem_cons_self⟩
    · obtain ⟨l, hl⟩ := loneAt_mem h
      exact ⟨l, List.mem_cons_of_mem _ hl⟩

theorem hidL_shows {n i b : Nat} {anc : List Nat} (hn : b < n) : ∀ {L : Lone}, hidden (hidL n i anc L) b = false → ∀ p ∈ L, p.2.1 = b → p.1 ∈ anc ∨ i ∈ p.2.2
  | [], _, p, hp, _ => by cases hp
  | q :: r, h, p, hp, hb => by
    simp only [hidL] at h
    split at h
    · rename_i hc
      rcases List.mem_cons.1 hp with rfl | hp
      · simp only [Bool.or_eq_true, Nat.ble_eq] at hc
        rcases hc with (hc | hc) | hc
        · exact .inl (by simpa using hc)
        · exact .inr (by simpa using hc)
        · omega
      · exact hidL_shows hn h p hp hb
    · simp only [hidden, Bool.or_eq_false_iff, Bool.and_eq_false_iff] at h
      rcases List.mem_cons.1 hp with rfl | hp
      · exfalso
        subst hb
        have e1 : Nat.ble p.2.1 p.2.1 = true := by simp
        have e2 : Nat.blt p.2.1 (p.2.1 + 1) = true := by simp
        have := h.1
        rw [e1, e2] at this
        simp at this
      · exact hidL_shows hn h.2 p hp hb

theorem loneOk_shows {i b : Nat} {anc : List Nat} : ∀ {L : Lone}, loneOk i anc b L = true → ∀ p ∈ L, p.2.1 = b → p.1 = i ∨ p.1 ∈ anc ∨ i ∈ p.2.2
  | [], _, p, hp, _ => by cases hp
  | q :: r, h, p, hp, hb => by
    simp only [loneOk, Bool.and_eq_true, Bool.or_eq_true, Bool.not_eq_true'] at h
    rcases List.mem_cons.1 hp with rfl | hp
    · subst hb
      rcases h.1 with ((h1 | h1) | h1) | h1
      · rw [Nat.beq_refl] at h1; cases h1
      · exact .inl (Nat.eq_of_beq_eq_true h1)
      · exact .inr (.inl (by simpa using h1))
      · exact .inr (.inr (by simpa using h1))
    · exact loneOk_shows h.2 p hp hb

theorem hidL_not {n i b : Nat} {anc : List Nat} (hb : n ≤ b) : ∀ {L : Lone}, hidden (hidL n i anc L) b = false
  | [] => rfl
  | q :: r => by
    have h2 := hidL_not (i := i) (anc := anc) hb (L := r)
    simp only [hidL]
    split
    · exact h2
    · rename_i hc
      simp only [Bool.or_eq_true, not_or, Nat.ble_eq] at hc
      have : Nat.blt b (q.2.1 + 1) = false := by rw [Bool.eq_false_iff]; simp; omega
      simp [hidden, h2, this]

theorem attach_ok {ops : List IOp} : ∀ (l : List (Nat × Nat)), LoneOk (attach ops l) ops
  | [], p, hp => by cases hp
  | q :: r, p, hp => by
    simp only [attach] at hp
    split at hp
    · rename_i x hx
      rcases List.mem_cons.1 hp with rfl | hp
      · exact ⟨x, hx, rfl⟩
      · exact attach_ok r p hp
    · exact attach_ok r p hp

theorem loneD_ok {F : Facts} {call : CallFn} {ops : List IOp} {e : Tr AV} {H : AH} {L : Lone} (h : loneD F call ops e H = some L) : LoneOk L ops := by
  unfold loneD at h
  split at h
  · simp only [Option.map_eq_some_iff] at h
    obtain ⟨l, _, rfl⟩ := h
    exact attach_ok _
  · simp only [Option.some.injEq] at h
    subst h
    intro p hp; cases hp

structure Inv (ν : Nat → Int) (L : Lone) (xs : List IOp) (st : Nat → St) (N : Nat) (d0 : List Deferred) (ρ0 : Emb) (w0 : World) (S : Nat → Prop) (ρ : Emb) (a : Act) (w : World) : Prop where
  closed : ∀ (i : Nat) x, xs[i]? = some x → S i → ∀ j ∈ x.anc, S j
  blk : ∀ m b, Fits L xs st b m S → ∀ x, (st m).2.1.get b = some x → Vis st m S b → ∃ pl, ρ b = some pl ∧ BR ν ρ w x pl
  apart : ∀ m m' b b', Fits L xs st b m S → Fits L xs st b' m' S → ∀ x x' pl pl', b ≠ b' → (st m).2.1.get b = some x → (st m').2.1.get b' = some x' → Vis st m S b → Vis st m' S b' → x.own = true → ρ b = some pl → ρ b' = some pl' → pl.cb ≠ pl'.cb
  void : ∀ i, i < xs.length → ¬ S i → ∀ b, (st i).2.1.next ≤ b → b < (st (i + 1)).2.1.next → ρ b = none
  env : ∀ t m, m ≤ xs.length → (∀ (j : Nat) x, xs[j]? = some x → x.dst = some t → (j < m ↔ S j)) → ∀ y, (st m).1.get t = some y → VR ν ρ y (a.tmps.getD t undef)
  ext : Emb.le ρ0 ρ
  fresh : ∀ b, ρ0 b = none → ρ b ≠ none → (st 0).2.1.next ≤ b ∧ b < (st xs.length).2.1.next
  size : w0.heap.size ≤ w.heap.size
  os : w.os = w0.os
  tape : w.tape = w0.tape
  output : w.output = w0.output
  frame : ∀ cb, cb < w0.heap.size → ¬ Owned ρ0 (st 0).2.1 cb → w.heap[cb]? = w0.heap[cb]?
  owned : ∀ m b, Fits L xs st b m S → ∀ x pl, (st m).2.1.get b = some x → x.own = true → ρ b = some pl → Vis st m S b → pl.cb < w0.heap.size → Owned ρ0 (st 0).2.1 pl.cb
  place : ∀ b pl, ρ0 b = none → ρ b = some pl → w0.heap.size ≤ pl.cb ∨ Owned ρ0 (st 0).2.1 pl.cb
  tmps : a.tmps.size = N
  defers : a.defers = d0

variable {d0 : List Deferred} {ρ0 : Emb} {w0 : World} {S : Nat → Prop} {ρ : Emb} {a : Act} {w : World}

theorem Trace.env_stable (h : Trace F call L xs st) (t : Nat) (i : Nat) : ∀ (k : Nat), i + k ≤ xs.length → (∀ (j : Nat) x, i ≤ j → j < i + k → xs[j]? = some x → x.dst ≠ some t) → (st (i + k)).1.get t = (st i).1.get t := by
  intro k
  induction k with
  | zero => intro _ _; rfl
  | succ k ih =>
    intro hk hd
    rw [← ih (by omega) (fun j x h1 h2 hx => hd j x h1 (by omega) hx)]
    have hi : i + k < xs.length := by omega
    obtain ⟨r, hp, _⟩ := h.step (i + k) xs[i + k] (by simp [hi])
    show (st (i + k + 1)).1.get t = _
    rw [putE_get hp t, if_neg (hd (i + k) xs[i + k] (by omega) (by omega) (by simp [hi]))]

theorem Inv.env_step (hI : Inv ν L xs st N d0 ρ0 w0 S ρ a w) (hT : Trace F call L xs st) (hD : OkD xs) {i : Nat} {x : IOp} (hx : xs[i]? = some x) (hS : ¬ S i) {r : AV} {v : Value} {ρ' : Emb} (hle : Emb.le ρ ρ') (hv : VR ν ρ' r v)
    (hp : putE (st i).1 x.dst r = some (st (i + 1)).1) (hlt : ∀ d, x.dst = some d → d < N) (t m : Nat) (hm : m ≤ xs.length) (hfit : ∀ (j : Nat) y, xs[j]? = some y → y.dst = some t → (j < m ↔ (S j ∨ j = i)))
    (y : AV) (hy : (st m).1.get t = some y) : VR ν ρ' y ((a.put x.dst v).tmps.getD t undef) := by
  rw [put_getD a x.dst v (fun d hd => by rw [hI.tmps]; exact hlt d hd) t]
  by_cases hd : x.dst = some t
  · rw [if_pos hd]
    have him : i < m := (hfit i x hx hd).2 (.inr rfl)
    have hst := hT.env_stable t (i + 1) (m - (i + 1)) (by omega) (fun j y h1 h2 hy hdy => by
      have hj := (hfit j y hy hdy).1 (by omega)
      rcases hj with hj | hj
      · rcases hD.slots i j x y hx hy (by omega) t hdy (.inr hd) with h3 | h3
        · have := hD.lt i x hx j h3; omega
        · exact hS (hI.closed j y hy hj i h3)
      · omega)
    rw [show i + 1 + (m - (i + 1)) = m by omega] at hst
    rw [hst, putE_get hp t, if_pos hd] at hy
    cases hy
    exact hv
  · rw [if_neg hd]
    refine (hI.env t m hm (fun j z hz hdz => ?_) y hy).mono hle
    rw [hfit j z hz hdz]
    constructor
    · rintro (h1 | h1)
      · exact h1
      · subst h1
        rw [hx] at hz
        cases hz
        exact absurd hdz hd
    · exact .inl

/-- What an operation names reads as in the text's order. -/
theorem Inv.reads (hI : Inv ν L xs st N d0 ρ0 w0 S ρ a w) (hD : OkD xs) {i : Nat} {x : IOp} (hx : xs[i]? = some x) (hS : ¬ S i) (hanc : ∀ j ∈ x.anc, S j) {t : Nat} (ht : t ∈ x.slots) {y : AV} (hy : (st i).1.get t = some y) :
    VR ν ρ y (a.tmps.getD t undef) := by
  have hi : i < xs.length := (List.getElem?_eq_some_iff.1 hx).1
  refine hI.env t i (by omega) (fun j z hz hdz => ?_) y hy
  by_cases hij : i = j
  · subst hij
    exact ⟨fun h => by omega, fun h => (hS h).elim⟩
  · rcases hD.slots i j x z hx hz hij t hdz (.inl ht) with h3 | h3
    · exact ⟨fun _ => hanc j h3, fun _ => hD.lt i x hx j h3⟩
    · have := hD.lt j z hz i h3
      exact ⟨fun h => by omega, fun h => (hS (hI.closed j z hz h i h3)).elim⟩

theorem Inv.mask (hI : Inv ν L xs st N d0 ρ0 w0 S ρ a w) (hD : OkD xs) {i : Nat} {x : IOp} (hx : xs[i]? = some x) (hS : ¬ S i) (hanc : ∀ j ∈ x.anc, S j) : ER ν ρ (maskE (st i).1 x.op.slots) a.tmps := by
  intro t y hy
  rw [maskE_get _ _ (fun t ht => hD.room i x hx t (by simp [IOp.slots, ht]))] at hy
  split at hy
  · rename_i ht
    exact hI.reads hD hx hS hanc (by simp [IOp.slots, ht]) hy
  · cases hy

theorem Inv.same (hI : Inv ν L xs st N d0 ρ0 w0 S ρ a w) (hD : OkD xs) {i : Nat} {x : IOp} (hx : xs[i]? = some x) {H : AH} : Sh.opA F call (maskE (st i).1 x.op.slots) H x.op = Sh.opA F call (st i).1 H x.op := by
  have _ := hI.tmps
  refine opA_congr fun t ht => ?_
  rw [maskE_get _ _ (fun t ht => hD.room i x hx t (by simp [IOp.slots, ht])), if_pos ht]

/-- The step of an operation that leaves the heap alone. -/
theorem Inv.still (hI : Inv ν L xs st N d0 ρ0 w0 S ρ a w) (hT : Trace F call L xs st) (hD : OkD xs) {i : Nat} {x : IOp} (hx : xs[i]? = some x) (hS : ¬ S i) (hanc : ∀ j ∈ x.anc, S j) {r : AV} {v : Value} (hv : VR ν ρ r v)
    (hp : putE (st i).1 x.dst r = some (st (i + 1)).1) (hlt : ∀ d, x.dst = some d → d < N) (hs : (st (i + 1)).2 = (st i).2) (hw : ∀ b, ¬ Wb L xs st b i) : Inv ν L xs st N d0 ρ0 w0 (fun j => S j ∨ j = i) ρ (a.put x.dst v) w := by
  have hf : ∀ m b, Fits L xs st b m (fun j => S j ∨ j = i) → Fits L xs st b m S := fun m b h => ⟨h.1, fun j hj => (h.2 j hj).trans ⟨fun hh => hh.elim id (fun e => by subst e; exact (hw b hj).elim), .inl⟩⟩
  have hvis : ∀ m b, Vis st m (fun j => S j ∨ j = i) b → Vis st m S b := fun m b h k h1 h2 h3 => (h k h1 h2 h3).elim id (fun e => by subst e; rw [hs] at h3; omega)
  refine ⟨fun j y hy hj k hk => ?_, fun m b hm z h1 h2 => hI.blk m b (hf m b hm) z h1 (hvis m b h2), fun m m' b b' hm hm' z z' q q' h1 h2 h3 h4 h5 h6 h7 h8 => hI.apart m m' b b' (hf m b hm) (hf m' b' hm') z z' q q' h1 h2 h3 (hvis m b h4) (hvis m' b' h5) h6 h7 h8,
    fun j hj hn => hI.void j hj (fun hh => hn (.inl hh)), fun t m hm hfit y hy => hI.env_step hT hD hx hS (Emb.le_refl ρ) hv hp hlt t m hm hfit y hy, hI.ext, hI.fresh, hI.size, hI.os, hI.tape, hI.output, hI.frame,
    fun m b hm z q h1 h2 h3 h4 h5 => hI.owned m b (hf m b hm) z q h1 h2 h3 (hvis m b h4) h5, hI.place, by rw [put_size]; exact hI.tmps, by rw [put_defers]; exact hI.defers⟩
  rcases hj with hj | hj
  · exact .inl (hI.closed j y hy hj k hk)
  · subst hj
    rw [hx] at hy
    cases hy
    exact .inl (hanc k hk)

/-- Where an operation with the heap stands: just the writers ahead of it are done. -/
theorem Inv.fits (hI : Inv ν L xs st N d0 ρ0 w0 S ρ a w) (hD : OkD xs) {i : Nat} {x : IOp} (hx : xs[i]? = some x) (hS : ¬ S i) (hanc : ∀ j ∈ x.anc, S j) (hp : x.op.isPure = false) {b : Nat}
    (hb : ∀ j, Ls L xs st b j → j = i ∨ j ∈ x.anc ∨ ∃ y, xs[j]? = some y ∧ i ∈ y.anc) : Fits L xs st b i S := by
  have hi : i < xs.length := (List.getElem?_eq_some_iff.1 hx).1
  have self : (i < i ↔ S i) := ⟨fun h => by omega, fun h => (hS h).elim⟩
  have side : ∀ j y, xs[j]? = some y → (i ∈ y.anc ∨ j ∈ x.anc) → (j < i ↔ S j) := by
    intro j y hy h3
    rcases h3 with h3 | h3
    · have := hD.lt j y hy i h3
      exact ⟨fun h => by omega, fun h => (hS (hI.closed j y hy h i h3)).elim⟩
    · exact ⟨fun _ => hanc j h3, fun _ => hD.lt i x hx j h3⟩
  refine ⟨by omega, fun j hj => ?_⟩
  rcases hj with ⟨y, hy, hf, hpy, _⟩ | hj
  · by_cases hij : j = i
    · subst hij; exact self
    · exact side j y hy (hD.free j i y x hy hx hij hf hpy hp)
  · have hj0 := hj
    obtain ⟨y, hy, _⟩ := hj0
    rcases hb j hj with rfl | h | ⟨z, hz, h⟩
    · exact self
    · exact side j y hy (.inr h)
    · exact side j z hz (.inl h)

/-- .. to one that is free, of any block. -/
theorem Inv.fitsF (hI : Inv ν L xs st N d0 ρ0 w0 S ρ a w) (hD : OkD xs) {i : Nat} {x : IOp} (hx : xs[i]? = some x) (hS : ¬ S i) (hanc : ∀ j ∈ x.anc, S j) (hp : x.op.isPure = false) (hf : x.free = true) (b : Nat) : Fits L xs st b i S := by
  refine hI.fits hD hx hS hanc hp fun j ⟨y, hy, hfy, hpy, _⟩ => ?_
  by_cases hij : i = j
  · exact .inl hij.symm
  · rcases hD.free i j x y hx hy hij hf hp hpy with h | h
    · exact .inr (.inl h)
    · exact .inr (.inr ⟨y, hy, h⟩)

theorem Inv.free (hI : Inv ν L xs st N d0 ρ0 w0 S ρ a w) (hT : Trace F call L xs st) (hD : OkD xs) {i : Nat} {x : IOp} (hx : xs[i]? = some x) (hS : ¬ S i) (hanc : ∀ j ∈ x.anc, S j) (hp : x.op.isPure = false) (hf : x.free = true) :
    HR ν ρ (st i).2.1 w := by
  have hfit := hI.fitsF hD hx hS hanc hp hf
  have hi : i < xs.length := (List.getElem?_eq_some_iff.1 hx).1
  have hvis : ∀ b, Vis st i S b := by
    intro b k hk h1 h2
    have hkl : k < xs.length := by omega
    have hl := hT.loud hkl (by omega)
    rcases hD.free i k x xs[k] hx (by simp [hkl]) (by omega) hf hp hl with h3 | h3
    · exact hanc k h3
    · have := hD.lt k xs[k] (by simp [hkl]) i h3; omega
  exact ⟨fun b z hz => hI.blk i b (hfit b) z hz (hvis b), fun b b' z z' q q' h1 h2 h3 h4 h5 h6 => hI.apart i i b b' (hfit b) (hfit b') z z' q q' h1 h2 h3 (hvis b) (hvis b') h4 h5 h6⟩

/-- The heap as an operation that is not free sees it. -/
def Seen (L : Lone) (i : Nat) (x : IOp) (s : St) : AH := { s.2.1 with low := s.2.1.next, hid := spansBut x.anc s.2.2 ++ (hidL s.2.1.next i x.anc L ++ s.2.1.hid) }

theorem seen_get (hT : Trace F call L xs st) {i : Nat} (hi : i ≤ xs.length) {x : IOp} {b : Nat} {z : ABlk} (h : (Seen L i x (st i)).get b = some z) (hb : b < (st i).2.1.next) : z.own = false ∧ (hidden (spansBut x.anc (st i).2.2) b = false ∧ hidden (hidL (st i).2.1.next i x.anc L) b = false) ∧ ∃ z0, (st i).2.1.get b = some z0 ∧ z0.cells = z.cells ∧ z0.elem = z.elem := by
  have _ := hT.low
  have _ := hi
  unfold Seen AH.get at h
  rw [hidden_append, hidden_append] at h
  have h1 : Nat.blt b (st i).2.1.next = true := by simpa using hb
  simp only [h1, if_true] at h
  split at h
  · cases h
  · rename_i hh
    simp only [Bool.or_eq_true, not_or, Bool.not_eq_true] at hh
    cases hx : (st i).2.1.tr.get b with
    | none => rw [hx] at h; cases h
    | some y =>
      rw [hx] at h
      simp only [Option.map_some, Option.some.injEq] at h
      subst h
      refine ⟨rfl, ⟨hh.1, hh.2.1⟩, ?_⟩
      unfold AH.get
      simp only [hh.2.2, Bool.false_eq_true, if_false, hx, h1, if_true]
      split
      · exact ⟨_, rfl, rfl, rfl⟩
      · exact ⟨_, rfl, rfl, rfl⟩

theorem seen_lt {i : Nat} {x : IOp} {s : St} {b : Nat} {z : ABlk} (h : (Seen L i x s).get b = some z) : b < s.2.1.next := by
  unfold Seen AH.get at h
  dsimp only at h
  split at h
  · cases h
  · split at h
    · rename_i h1; simpa using h1
    · cases h

theorem Inv.vis (hI : Inv ν L xs st N d0 ρ0 w0 S ρ a w) (hT : Trace F call L xs st) (hD : OkD xs) {i : Nat} {x : IOp} (hx : xs[i]? = some x) (_hS : ¬ S i) (hanc : ∀ j ∈ x.anc, S j) (hp : x.op.isPure = false) {b : Nat}
    (hb : hidden (spansBut x.anc (st i).2.2) b = false) : Vis st i S b := by
  have hi : i < xs.length := (List.getElem?_eq_some_iff.1 hx).1
  intro k hk q1 q2
  rcases hT.span i (by omega) k hk (by omega) with h5 | ⟨j, h5, h6, h7⟩
  · by_cases ha : k ∈ x.anc
    · exact hanc k ha
    · rw [spansBut_hides _ _ h5 ha q1 q2] at hb
      cases hb
  · obtain ⟨y, hy, hf, hpy, _⟩ := h7
    have hkl : k < xs.length := by omega
    have hl := hT.loud hkl (by omega)
    have hSj : S j := by
      rcases hD.free j i y x hy hx (by omega) hf hpy hp with h8 | h8
      · have := hD.lt j y hy i h8; omega
      · exact hanc j h8
    by_cases hjk : j = k
    · subst hjk; exact hSj
    · rcases hD.free j k y xs[k] hy (by simp [hkl]) hjk hf hpy hl with h8 | h8
      · exact hI.closed j y hy hSj k h8
      · have := hD.lt k xs[k] (by simp [hkl]) j h8; omega

theorem Inv.fitsL (hI : Inv ν L xs st N d0 ρ0 w0 S ρ a w) (hD : OkD xs) (hL : LoneOk L xs) {i : Nat} {x : IOp} (hx : xs[i]? = some x) (hS : ¬ S i) (hanc : ∀ j ∈ x.anc, S j) (hp : x.op.isPure = false) {b : Nat}
    (hb : ∀ p ∈ L, p.2.1 = b → p.1 = i ∨ p.1 ∈ x.anc ∨ i ∈ p.2.2) : Fits L xs st b i S := by
  refine hI.fits hD hx hS hanc hp fun j ⟨y, hy, _, _, _, hl⟩ => ?_
  obtain ⟨l, hm⟩ := loneAt_mem hl
  rcases hb _ hm rfl with h | h | h
  · exact .inl h
  · exact .inr (.inl h)
  · obtain ⟨z, hz, e⟩ := hL _ hm
    exact .inr (.inr ⟨z, hz, by rw [← e]; exact h⟩)

theorem Inv.seen (hI : Inv ν L xs st N d0 ρ0 w0 S ρ a w) (hT : Trace F call L xs st) (hD : OkD xs) (hL : LoneOk L xs) {i : Nat} {x : IOp} (hx : xs[i]? = some x) (hS : ¬ S i) (hanc : ∀ j ∈ x.anc, S j) (hp : x.op.isPure = false) :
    HR ν ρ (Seen L i x (st i)) w ∧ ∀ cb, ¬ Owned ρ (Seen L i x (st i)) cb := by
  have hi : i < xs.length := (List.getElem?_eq_some_iff.1 hx).1
  have hno : ∀ b z, (Seen L i x (st i)).get b = some z → z.own = false := fun b z hz => (seen_get hT (by omega) hz (seen_lt hz)).1
  refine ⟨⟨fun b z hz => ?_, fun b b' z z' q q' h1 h2 h3 h4 h5 h6 => by rw [hno b z h2] at h4; cases h4⟩, fun cb ⟨b, z, q, h1, h2, _⟩ => by rw [hno b z h1] at h2; cases h2⟩
  have hlt := seen_lt hz
  obtain ⟨g1, g2, z0, g3, g4, g5⟩ := seen_get hT (by omega) hz hlt
  have hfit : Fits L xs st b i S := hI.fitsL hD hL hx hS hanc hp fun p hp hpb => .inr (hidL_shows hlt g2.2 p hp hpb)
  obtain ⟨pl, h1, hbr⟩ := hI.blk i b hfit z0 g3 (hI.vis hT hD hx hS hanc hp g2.1)
  refine ⟨pl, h1, ⟨fun hm => ?_, fun hm => ?_⟩⟩
  · obtain ⟨C, ty, fz, h2, h3, _⟩ := hbr.cells (by rw [g5]; exact hm)
    exact ⟨C, ty, fz, h2, by rw [← g4]; exact h3, fun ho => by rw [g1] at ho; cases ho⟩
  · obtain ⟨es, c, h2, h3⟩ := hbr.map (by rw [g5]; exact hm)
    exact ⟨es, c, h2, by rw [← g4]; exact h3⟩

end
end Go.Sh
