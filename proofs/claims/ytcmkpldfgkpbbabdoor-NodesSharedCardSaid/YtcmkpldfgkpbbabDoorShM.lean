/-
  THE SHADOW MACHINE: regions whose order is open: every order. Own work.
-/
import Derived.Test.YtcmkpldfgkpbbabDoorShL
namespace Go.Sh

section
variable {ν : Nat → Int} {F : Facts} {P : Program} {call : CallFn} {xs : List IOp} {st : Nat → St} {ops : Array Oper} {N : Nat}

def Vis (st : Nat → St) (m : Nat) (S : Nat → Prop) (b : Nat) : Prop := ∀ k, k < m → (st k).2.1.next ≤ b → b < (st (k + 1)).2.1.next → S k

def Fits (xs : List IOp) (st : Nat → St) (m : Nat) (S : Nat → Prop) : Prop := m ≤ xs.length ∧ ∀ j, Wr xs st j → (j < m ↔ S j)

structure Inv (ν : Nat → Int) (xs : List IOp) (st : Nat → St) (N : Nat) (d0 : List Deferred) (ρ0 : Emb) (w0 : World) (S : Nat → Prop) (ρ : Emb) (a : Act) (w : World) : Prop where
  closed : ∀ (i : Nat) x, xs[i]? = some x → S i → ∀ j ∈ x.anc, S j
  blk : ∀ m, Fits xs st m S → ∀ b x, (st m).2.1.get b = some x → Vis st m S b → ∃ pl, ρ b = some pl ∧ BR ν ρ w x pl
  apart : ∀ m, Fits xs st m S → ∀ b b' x x' pl pl', b ≠ b' → (st m).2.1.get b = some x → (st m).2.1.get b' = some x' → Vis st m S b → Vis st m S b' → x.own = true → ρ b = some pl → ρ b' = some pl' → pl.cb ≠ pl'.cb
  void : ∀ i, i < xs.length → ¬ S i → ∀ b, (st i).2.1.next ≤ b → b < (st (i + 1)).2.1.next → ρ b = none
  env : ∀ t m, m ≤ xs.length → (∀ (j : Nat) x, xs[j]? = some x → x.dst = some t → (j < m ↔ S j)) → ∀ y, (st m).1.get t = some y → VR ν ρ y (a.tmps.getD t undef)
  ext : Emb.le ρ0 ρ
  fresh : ∀ b, ρ0 b = none → ρ b ≠ none → (st 0).2.1.next ≤ b ∧ b < (st xs.length).2.1.next
  size : w0.heap.size ≤ w.heap.size
  os : w.os = w0.os
  tape : w.tape = w0.tape
  output : w.output = w0.output
  frame : ∀ cb, cb < w0.heap.size → ¬ Owned ρ0 (st 0).2.1 cb → w.heap[cb]? = w0.heap[cb]?
  owned : ∀ m, Fits xs st m S → ∀ b x pl, (st m).2.1.get b = some x → x.own = true → ρ b = some pl → Vis st m S b → pl.cb < w0.heap.size → Owned ρ0 (st 0).2.1 pl.cb
  place : ∀ b pl, ρ0 b = none → ρ b = some pl → w0.heap.size ≤ pl.cb ∨ Owned ρ0 (st 0).2.1 pl.cb
  tmps : a.tmps.size = N
  defers : a.defers = d0

variable {d0 : List Deferred} {ρ0 : Emb} {w0 : World} {S : Nat → Prop} {ρ : Emb} {a : Act} {w : World}

theorem Trace.env_stable (h : Trace F call xs st) (t : Nat) (i : Nat) : ∀ (k : Nat), i + k ≤ xs.length → (∀ (j : Nat) x, i ≤ j → j < i + k → xs[j]? = some x → x.dst ≠ some t) → (st (i + k)).1.get t = (st i).1.get t := by
  intro k
  induction k with
  | zero => intro _ _; rfl
  | succ k ih =>
    intro hk hd
    rw [← ih (by omega) (fun j x h1 h2 hx => hd j x h1 (by omega) hx)]
    have hi : i + k < xs.length := by omega
    obtain ⟨r, hp, _⟩ := h.step (i + k) xs[i + k] (by simp [hi])
    show (st (i + k + 1)).1.get t = _
    rw [putE_get hp t, if_neg (hd (i + k) xs[i + k] (by omega) (by omega) (by simp [hi]))]

theorem Inv.env_step (hI : Inv ν xs st N d0 ρ0 w0 S ρ a w) (hT : Trace F call xs st) (hD : OkD xs) {i : Nat} {x : IOp} (hx : xs[i]? = some x) (hS : ¬ S i) {r : AV} {v : Value} {ρ' : Emb} (hle : Emb.le ρ ρ') (hv : VR ν ρ' r v)
    (hp : putE (st i).1 x.dst r = some (st (i + 1)).1) (hlt : ∀ d, x.dst = some d → d < N) (t m : Nat) (hm : m ≤ xs.length) (hfit : ∀ (j : Nat) y, xs[j]? = some y → y.dst = some t → (j < m ↔ (S j ∨ j = i)))
    (y : AV) (hy : (st m).1.get t = some y) : VR ν ρ' y ((a.put x.dst v).tmps.getD t undef) := by
  rw [put_getD a x.dst v (fun d hd => by rw [hI.tmps]; exact hlt d hd) t]
  by_cases hd : x.dst = some t
  · rw [if_pos hd]
    have him : i < m := (hfit i x hx hd).2 (.inr rfl)
    have hst := hT.env_stable t (i + 1) (m - (i + 1)) (by omega) (fun j y h1 h2 hy hdy => by
      have hj := (hfit j y hy hdy).1 (by omega)
      rcases hj with hj | hj
      · rcases hD.slots i j x y hx hy (by omega) t hdy (.inr hd) with h3 | h3
        · have := hD.lt i x hx j h3; omega
        · exact hS (hI.closed j y hy hj i h3)
      · omega)
    rw [show i + 1 + (m - (i + 1)) = m by omega] at hst
    rw [hst, putE_get hp t, if_pos hd] at hy
    cases hy
    exact hv
  · rw [if_neg hd]
    refine (hI.env t m hm (fun j z hz hdz => ?_) y hy).mono hle
    rw [hfit j z hz hdz]
    constructor
    · rintro (h1 | h1)
      · exact h1
      · subst h1
        rw [hx] at hz
        cases hz
        exact absurd hdz hd
    · exact .inl

/-- What an operation names reads as in the text's order. -/
theorem Inv.reads (hI : Inv ν xs st N d0 ρ0 w0 S ρ a w) (hD : OkD xs) {i : Nat} {x : IOp} (hx : xs[i]? = some x) (hS : ¬ S i) (hanc : ∀ j ∈ x.anc, S j) {t : Nat} (ht : t ∈ x.slots) {y : AV} (hy : (st i).1.get t = some y) :
    VR ν ρ y (a.tmps.getD t undef) := by
  have hi : i < xs.length := (List.getElem?_eq_some_iff.1 hx).1
  refine hI.env t i (by omega) (fun j z hz hdz => ?_) y hy
  by_cases hij : i = j
  · subst hij
    exact ⟨fun h => by omega, fun h => (hS h).elim⟩
  · rcases hD.slots i j x z hx hz hij t hdz (.inl ht) with h3 | h3
    · exact ⟨fun _ => hanc j h3, fun _ => hD.lt i x hx j h3⟩
    · have := hD.lt j z hz i h3
      exact ⟨fun h => by omega, fun h => (hS (hI.closed j z hz h i h3)).elim⟩

theorem Inv.mask (hI : Inv ν xs st N d0 ρ0 w0 S ρ a w) (hD : OkD xs) {i : Nat} {x : IOp} (hx : xs[i]? = some x) (hS : ¬ S i) (hanc : ∀ j ∈ x.anc, S j) : ER ν ρ (maskE (st i).1 x.op.slots) a.tmps := by
  intro t y hy
  rw [maskE_get _ _ (fun t ht => hD.room i x hx t (by simp [IOp.slots, ht]))] at hy
  split at hy
  · rename_i ht
    exact hI.reads hD hx hS hanc (by simp [IOp.slots, ht]) hy
  · cases hy

theorem Inv.same (hI : Inv ν xs st N d0 ρ0 w0 S ρ a w) (hD : OkD xs) {i : Nat} {x : IOp} (hx : xs[i]? = some x) {H : AH} : Sh.opA F call (maskE (st i).1 x.op.slots) H x.op = Sh.opA F call (st i).1 H x.op := by
  have _ := hI.tmps
  refine opA_congr fun t ht => ?_
  rw [maskE_get _ _ (fun t ht => hD.room i x hx t (by simp [IOp.slots, ht])), if_pos ht]

/-- The step of an operation that leaves the heap alone. -/
theorem Inv.still (hI : Inv ν xs st N d0 ρ0 w0 S ρ a w) (hT : Trace F call xs st) (hD : OkD xs) {i : Nat} {x : IOp} (hx : xs[i]? = some x) (hS : ¬ S i) (hanc : ∀ j ∈ x.anc, S j) {r : AV} {v : Value} (hv : VR ν ρ r v)
    (hp : putE (st i).1 x.dst r = some (st (i + 1)).1) (hlt : ∀ d, x.dst = some d → d < N) (hs : (st (i + 1)).2 = (st i).2) (hw : ¬ Wr xs st i) : Inv ν xs st N d0 ρ0 w0 (fun j => S j ∨ j = i) ρ (a.put x.dst v) w := by
  have hf : ∀ m, Fits xs st m (fun j => S j ∨ j = i) → Fits xs st m S := fun m h => ⟨h.1, fun j hj => (h.2 j hj).trans ⟨fun hh => hh.elim id (fun e => by subst e; exact (hw hj).elim), .inl⟩⟩
  have hvis : ∀ m b, Vis st m (fun j => S j ∨ j = i) b → Vis st m S b := fun m b h k h1 h2 h3 => (h k h1 h2 h3).elim id (fun e => by subst e; rw [hs] at h3; omega)
  refine ⟨fun j y hy hj k hk => ?_, fun m hm b z h1 h2 => hI.blk m (hf m hm) b z h1 (hvis m b h2), fun m hm b b' z z' q q' h1 h2 h3 h4 h5 h6 h7 h8 => hI.apart m (hf m hm) b b' z z' q q' h1 h2 h3 (hvis m b h4) (hvis m b' h5) h6 h7 h8,
    fun j hj hn => hI.void j hj (fun hh => hn (.inl hh)), fun t m hm hfit y hy => hI.env_step hT hD hx hS (Emb.le_refl ρ) hv hp hlt t m hm hfit y hy, hI.ext, hI.fresh, hI.size, hI.os, hI.tape, hI.output, hI.frame,
    fun m hm b z q h1 h2 h3 h4 h5 => hI.owned m (hf m hm) b z q h1 h2 h3 (hvis m b h4) h5, hI.place, by rw [put_size]; exact hI.tmps, by rw [put_defers]; exact hI.defers⟩
  rcases hj with hj | hj
  · exact .inl (hI.closed j y hy hj k hk)
  · subst hj
    rw [hx] at hy
    cases hy
    exact .inl (hanc k hk)

/-- Where an operation with the heap stands: just the writers ahead of it are done. -/
theorem Inv.fits (hI : Inv ν xs st N d0 ρ0 w0 S ρ a w) (hD : OkD xs) {i : Nat} {x : IOp} (hx : xs[i]? = some x) (hS : ¬ S i) (hanc : ∀ j ∈ x.anc, S j) (hp : x.op.isPure = false) : Fits xs st i S := by
  have hi : i < xs.length := (List.getElem?_eq_some_iff.1 hx).1
  refine ⟨by omega, fun j ⟨y, hy, hf, hpy, _⟩ => ?_⟩
  by_cases hij : j = i
  · subst hij
    exact ⟨fun h => by omega, fun h => (hS h).elim⟩
  · rcases hD.free j i y x hy hx hij hf hpy hp with h3 | h3
    · have := hD.lt j y hy i h3
      exact ⟨fun h => by omega, fun h => (hS (hI.closed j y hy h i h3)).elim⟩
    · exact ⟨fun _ => hanc j h3, fun _ => hD.lt i x hx j h3⟩

theorem Inv.free (hI : Inv ν xs st N d0 ρ0 w0 S ρ a w) (hT : Trace F call xs st) (hD : OkD xs) {i : Nat} {x : IOp} (hx : xs[i]? = some x) (hS : ¬ S i) (hanc : ∀ j ∈ x.anc, S j) (hp : x.op.isPure = false) (hf : x.free = true) :
    HR ν ρ (st i).2.1 w := by
  have hfit := hI.fits hD hx hS hanc hp
  have hi : i < xs.length := (List.getElem?_eq_some_iff.1 hx).1
  have hvis : ∀ b, Vis st i S b := by
    intro b k hk h1 h2
    have hkl : k < xs.length := by omega
    have hl := hT.loud hkl (by omega)
    rcases hD.free i k x xs[k] hx (by simp [hkl]) (by omega) hf hp hl with h3 | h3
    · exact hanc k h3
    · have := hD.lt k xs[k] (by simp [hkl]) i h3; omega
  exact ⟨fun b z hz => hI.blk i hfit b z hz (hvis b), fun b b' z z' q q' h1 h2 h3 h4 h5 h6 => hI.apart i hfit b b' z z' q q' h1 h2 h3 (hvis b) (hvis b') h4 h5 h6⟩

/-- The heap as an operation that is not free sees it. -/
def Seen (x : IOp) (s : St) : AH := { s.2.1 with low := s.2.1.next, hid := spansBut x.anc s.2.2 ++ s.2.1.hid }

theorem seen_get (hT : Trace F call xs st) {i : Nat} (hi : i ≤ xs.length) {x : IOp} {b : Nat} {z : ABlk} (h : (Seen x (st i)).get b = some z) (hb : b < (st i).2.1.next) : z.own = false ∧ hidden (spansBut x.anc (st i).2.2) b = false ∧ ∃ z0, (st i).2.1.get b = some z0 ∧ z0.cells = z.cells := by
  have _ := hT.low
  have _ := hi
  unfold Seen AH.get at h
  rw [hidden_append] at h
  have h1 : Nat.blt b (st i).2.1.next = true := by simpa using hb
  simp only [h1, if_true] at h
  split at h
  · cases h
  · rename_i hh
    simp only [Bool.or_eq_true, not_or, Bool.not_eq_true] at hh
    cases hx : (st i).2.1.tr.get b with
    | none => rw [hx] at h; cases h
    | some y =>
      rw [hx] at h
      simp only [Option.map_some, Option.some.injEq] at h
      subst h
      refine ⟨rfl, hh.1, ?_⟩
      unfold AH.get
      simp only [hh.2, Bool.false_eq_true, if_false, hx, h1, if_true]
      split
      · exact ⟨_, rfl, rfl⟩
      · exact ⟨_, rfl, rfl⟩

theorem seen_lt {x : IOp} {s : St} {b : Nat} {z : ABlk} (h : (Seen x s).get b = some z) : b < s.2.1.next := by
  unfold Seen AH.get at h
  dsimp only at h
  split at h
  · cases h
  · split at h
    · rename_i h1; simpa using h1
    · cases h

theorem Inv.seen (hI : Inv ν xs st N d0 ρ0 w0 S ρ a w) (hT : Trace F call xs st) (hD : OkD xs) {i : Nat} {x : IOp} (hx : xs[i]? = some x) (hS : ¬ S i) (hanc : ∀ j ∈ x.anc, S j) (hp : x.op.isPure = false) :
    HR ν ρ (Seen x (st i)) w ∧ ∀ cb, ¬ Owned ρ (Seen x (st i)) cb := by
  have hfit := hI.fits hD hx hS hanc hp
  have hi : i < xs.length := (List.getElem?_eq_some_iff.1 hx).1
  have hno : ∀ b z, (Seen x (st i)).get b = some z → z.own = false := fun b z hz => (seen_get hT (by omega) hz (seen_lt hz)).1
  refine ⟨⟨fun b z hz => ?_, fun b b' z z' q q' h1 h2 h3 h4 h5 h6 => by rw [hno b z h2] at h4; cases h4⟩, fun cb ⟨b, z, q, h1, h2, _⟩ => by rw [hno b z h1] at h2; cases h2⟩
  have hlt := seen_lt hz
  obtain ⟨g1, g2, z0, g3, g4⟩ := seen_get hT (by omega) hz hlt
  obtain ⟨pl, h1, ⟨C, ty, fz, h2, h3, _⟩⟩ := hI.blk i hfit b z0 g3 (fun k hk q1 q2 => by
    rcases hT.span i (by omega) k hk (by omega) with h5 | ⟨j, h5, h6, h7⟩
    · by_cases ha : k ∈ x.anc
      · exact hanc k ha
      · rw [spansBut_hides _ _ h5 ha q1 q2] at g2
        cases g2
    · have hSj : S j := (hfit.2 j h7).1 h6
      obtain ⟨y, hy, hf, hpy, _⟩ := h7
      have hkl : k < xs.length := by omega
      have hl := hT.loud hkl (by omega)
      by_cases hjk : j = k
      · subst hjk; exact hSj
      · rcases hD.free j k y xs[k] hy (by simp [hkl]) hjk hf hpy hl with h8 | h8
        · exact hI.closed j y hy hSj k h8
        · have := hD.lt k xs[k] (by simp [hkl]) j h8; omega)
  exact ⟨pl, h1, ⟨C, ty, fz, h2, by rw [← g4]; exact h3, fun ho => by rw [g1] at ho; cases ho⟩⟩

end
end Go.Sh
