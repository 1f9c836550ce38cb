/-
  THE SHADOW MACHINE: an operation hangs on the slots that it names alone; regions whose order is open. Own work.
-/
import Derived.Test.YtnlhpiieihnbiaaDoorShJ
namespace Go.Sh

section
variable {F : Facts} {call : CallFn} {e e' : Tr AV} {H : AH}

theorem O.ev_congr {x : O} (h : ∀ t ∈ x.slots, e.get t = e'.get t) : x.ev e = x.ev e' := by
  cases x with
  | t i => simp only [O.ev, h i (by simp [O.slots])]
  | k v => rfl

theorem evs_congr {l : List O} (h : ∀ t ∈ l.flatMap O.slots, e.get t = e'.get t) : l.map (O.ev e) = l.map (O.ev e') := by
  refine List.map_congr_left fun x hx => O.ev_congr fun t ht => h t (List.mem_flatMap.2 ⟨x, hx, ht⟩)

theorem optNat_congr {x : Option O} (h : ∀ t ∈ oslots x, e.get t = e'.get t) : optNat e x = optNat e' x := by
  cases x with
  | none => rfl
  | some x => simp only [optNat, O.ev_congr (x := x) h]

theorem fillA_congr : ∀ (ps : List (Nat × Nat × O)) (cs : List AV), (∀ t ∈ ps.flatMap (fun p => p.2.2.slots), e.get t = e'.get t) → fillA e cs ps = fillA e' cs ps := by
  intro ps
  induction ps with
  | nil => intro cs _; rfl
  | cons p r ih =>
    intro cs h
    obtain ⟨a, b, x⟩ := p
    have h1 : x.ev e = x.ev e' := O.ev_congr fun t ht => h t (by simp [ht])
    have h2 : ∀ cs, fillA e cs r = fillA e' cs r := fun cs => ih cs fun t ht => h t (by simp only [List.flatMap_cons, List.mem_append]; exact .inr ht)
    simp only [fillA, h1, h2]

theorem pureA_congr {k : K} (h : ∀ t ∈ k.slots, e.get t = e'.get t) : pureA F e k = pureA F e' k := by
  cases k with
  | mv x => simp only [pureA, O.ev_congr (x := x) h]
  | pick c a b =>
    have h1 := O.ev_congr (x := c) fun t ht => h t (by simp [K.slots, ht])
    have h2 := O.ev_congr (x := a) fun t ht => h t (by simp [K.slots, ht])
    have h3 := O.ev_congr (x := b) fun t ht => h t (by simp [K.slots, ht])
    simp only [pureA, h1, h2, h3]
  | bld z ps => simp only [pureA, fillA_congr ps z h]
  | nck x => simp only [pureA, O.ev_congr (x := x) h]
  | bin op x y =>
    have h1 := O.ev_congr (x := x) fun t ht => h t (by simp [K.slots, ht])
    have h2 := O.ev_congr (x := y) fun t ht => h t (by simp [K.slots, ht])
    simp only [pureA, h1, h2]
  | eqb n x y =>
    have h1 := O.ev_congr (x := x) fun t ht => h t (by simp [K.slots, ht])
    have h2 := O.ev_congr (x := y) fun t ht => h t (by simp [K.slots, ht])
    simp only [pureA, h1, h2]
  | eqn n kd x y =>
    have h1 := O.ev_congr (x := x) fun t ht => h t (by simp [K.slots, ht])
    have h2 := O.ev_congr (x := y) fun t ht => h t (by simp [K.slots, ht])
    simp only [pureA, h1, h2]
  | eqa n l x y =>
    have h1 := O.ev_congr (x := x) fun t ht => h t (by simp [K.slots, ht])
    have h2 := O.ev_congr (x := y) fun t ht => h t (by simp [K.slots, ht])
    simp only [pureA, h1, h2]
  | una op x => simp only [pureA, O.ev_congr (x := x) h]
  | cv k x => simp only [pureA, O.ev_congr (x := x) h]
  | ifc t x => simp only [pureA, O.ev_congr (x := x) h]
  | mkf f l => simp only [pureA, evs_congr h]
  | slc s x lo hi mx =>
    have h1 := O.ev_congr (x := x) fun t ht => h t (by simp [K.slots, ht])
    have h2 := optNat_congr (x := lo) fun t ht => h t (by simp [K.slots, ht])
    have h3 := optNat_congr (x := hi) fun t ht => h t (by simp [K.slots, ht])
    have h4 := optNat_congr (x := mx) fun t ht => h t (by simp [K.slots, ht])
    simp only [pureA, h1, h2, h3, h4]
  | sla n s x lo hi mx =>
    have h1 := O.ev_congr (x := x) fun t ht => h t (by simp [K.slots, ht])
    have h2 := optNat_congr (x := lo) fun t ht => h t (by simp [K.slots, ht])
    have h3 := optNat_congr (x := hi) fun t ht => h t (by simp [K.slots, ht])
    have h4 := optNat_congr (x := mx) fun t ht => h t (by simp [K.slots, ht])
    simp only [pureA, h1, h2, h3, h4]
  | fa off x => simp only [pureA, O.ev_congr (x := x) h]
  | fl off n x => simp only [pureA, O.ev_congr (x := x) h]
  | ia s arr x i =>
    have h1 := O.ev_congr (x := x) fun t ht => h t (by simp [K.slots, ht])
    have h2 := O.ev_congr (x := i) fun t ht => h t (by simp [K.slots, ht])
    simp only [pureA, h1, h2]
  | ix n s l x i =>
    have h1 := O.ev_congr (x := x) fun t ht => h t (by simp [K.slots, ht])
    have h2 := O.ev_congr (x := i) fun t ht => h t (by simp [K.slots, ht])
    simp only [pureA, h1, h2]
  | tas t z ok x => simp only [pureA, O.ev_congr (x := x) h]
  | ext x i => simp only [pureA, O.ev_congr (x := x) h]
  | len x => simp only [pureA, O.ev_congr (x := x) h]
  | lens x => simp only [pureA, O.ev_congr (x := x) h]
  | lenk n => rfl
  | mm m x y =>
    have h1 := O.ev_congr (x := x) fun t ht => h t (by simp [K.slots, ht])
    have h2 := O.ev_congr (x := y) fun t ht => h t (by simp [K.slots, ht])
    simp only [pureA, h1, h2]
  | ld n x => rfl
  | alloc t z => rfl
  | box t x => rfl
  | bsl t s n z ps => rfl
  | msl t s b z l c => rfl
  | app t s b x y => rfl
  | st n a x => rfl
  | cpy s d x => rfl
  | call f l => rfl
  | callv x l => rfl
  | mkm => rfl
  | lku s z ok m k => rfl
  | mup s m k v => rfl
  | bts x => rfl
  | bad => rfl

theorem opA_congr {k : K} (h : ∀ t ∈ k.slots, e.get t = e'.get t) : opA F call e H k = opA F call e' H k := by
  have hp := pureA_congr (F := F) h
  cases k with
  | ld n x => simp only [opA, O.ev_congr (x := x) h]
  | alloc t z => rfl
  | box t x => simp only [opA, O.ev_congr (x := x) h]
  | bsl t s n z ps => simp only [opA, fillA_congr ps (repA n z) h]
  | msl t s b z l c =>
    have h1 := O.ev_congr (x := l) fun t ht => h t (by simp [K.slots, ht])
    have h2 := O.ev_congr (x := c) fun t ht => h t (by simp [K.slots, ht])
    simp only [opA, h1, h2]
  | app t s b x y =>
    have h1 := O.ev_congr (x := x) fun t ht => h t (by simp [K.slots, ht])
    have h2 := O.ev_congr (x := y) fun t ht => h t (by simp [K.slots, ht])
    simp only [opA, h1, h2]
  | st n a x =>
    have h1 := O.ev_congr (x := a) fun t ht => h t (by simp [K.slots, ht])
    have h2 := O.ev_congr (x := x) fun t ht => h t (by simp [K.slots, ht])
    simp only [opA, h1, h2]
  | cpy s d x =>
    have h1 := O.ev_congr (x := d) fun t ht => h t (by simp [K.slots, ht])
    have h2 := O.ev_congr (x := x) fun t ht => h t (by simp [K.slots, ht])
    simp only [opA, h1, h2]
  | lku s z ok x y =>
    have h1 := O.ev_congr (x := x) fun t ht => h t (by simp [K.slots, ht])
    have h2 := O.ev_congr (x := y) fun t ht => h t (by simp [K.slots, ht])
    simp only [opA, h1, h2]
  | mup s x y z =>
    have h1 := O.ev_congr (x := x) fun t ht => h t (by simp [K.slots, ht])
    have h2 := O.ev_congr (x := y) fun t ht => h t (by simp [K.slots, ht])
    have h3 := O.ev_congr (x := z) fun t ht => h t (by simp [K.slots, ht])
    simp only [opA, h1, h2, h3]
  | bts x => simp only [opA, O.ev_congr (x := x) h]
  | call f l => simp only [opA, evs_congr h]
  | callv x l =>
    have h1 := O.ev_congr (x := x) fun t ht => h t (by simp [K.slots, ht])
    have h2 := evs_congr (l := l) fun t ht => h t (by simp only [K.slots, List.mem_append]; exact .inr ht)
    simp only [opA, h1, h2]
  | _ => simp only [opA, hp]

theorem wantedA_congr {g : Option (Nat × Bool)} (h : ∀ t ∈ (match g with | some g => [g.1] | none => ([] : List Nat)), e.get t = e'.get t) : wantedA e g = wantedA e' g := by
  cases g with
  | none => rfl
  | some g =>
    have := h g.1 (by simp)
    simp only [wantedA, this]

end

/-- An environment of some slots alone. -/
def maskE (e : Tr AV) : List Nat → Tr AV
  | [] => .l
  | t :: r => if t < room then Tr.put depth (maskE e r) t (e.get t) else maskE e r

theorem maskE_get (e : Tr AV) : ∀ (l : List Nat), (∀ t ∈ l, t < room) → ∀ j, (maskE e l).get j = if j ∈ l then e.get j else none := by
  intro l
  induction l with
  | nil => intro _ j; simp [maskE, Tr.get]
  | cons t r ih =>
    intro h j
    have ht := h t (by simp)
    simp only [maskE, if_pos ht]
    rw [Tr.get_put _ _ _ _ _ (by unfold room at ht; show t + 1 < 2 ^ 24; omega), ih (fun s hs => h s (by simp [hs]))]
    by_cases e1 : j = t
    · subst e1; simp
    · simp [e1]

/-- What a region whose order is open must be like. -/
structure OkD (xs : List IOp) : Prop where
  lt : ∀ (i : Nat) x, xs[i]? = some x → ∀ j ∈ x.anc, j < i
  tr : ∀ (i : Nat) x (j : Nat) y, xs[i]? = some x → j ∈ x.anc → xs[j]? = some y → ∀ k ∈ y.anc, k ∈ x.anc
  slots : ∀ (i j : Nat) x y, xs[i]? = some x → xs[j]? = some y → i ≠ j → ∀ t, y.dst = some t → (t ∈ x.slots ∨ x.dst = some t) → j ∈ x.anc ∨ i ∈ y.anc
  free : ∀ (i j : Nat) x y, xs[i]? = some x → xs[j]? = some y → i ≠ j → x.free = true → x.op.isPure = false → y.op.isPure = false → j ∈ x.anc ∨ i ∈ y.anc
  room : ∀ (i : Nat) x, xs[i]? = some x → ∀ t ∈ x.slots, t < room

/-- The places of a region's operations, one by one. -/
def allI {α : Type} (f : Nat → α → Bool) : Nat → List α → Bool
  | _, [] => true
  | i, x :: r => f i x && allI f (i + 1) r

theorem allI_spec {α : Type} {f : Nat → α → Bool} : ∀ (l : List α) (k : Nat), allI f k l = true → ∀ (i : Nat) x, l[i]? = some x → f (k + i) x = true := by
  intro l
  induction l with
  | nil => intro k _ i x hx; simp at hx
  | cons a r ih =>
    intro k h i x hx
    simp only [allI, Bool.and_eq_true] at h
    cases i with
    | zero => simp at hx; subst hx; exact h.1
    | succ i =>
      have := ih (k + 1) h.2 i x (by simpa using hx)
      rwa [show k + 1 + i = k + (i + 1) by omega] at this

def okD (xs : List IOp) : Bool :=
  allI (fun i x =>
    x.anc.all (fun j => Nat.blt j i && (match xs[j]? with | some y => y.anc.all fun k => x.anc.contains k | none => true)) &&
    x.slots.all (fun t => Nat.blt t room) &&
    allI (fun j y => Nat.beq i j || x.anc.contains j || y.anc.contains i ||
      ((match y.dst with | some t => !(x.slots.contains t) && !(match x.dst with | some s => Nat.beq s t | none => false) | none => true) && !(x.free && !x.op.isPure && !y.op.isPure))) 0 xs) 0 xs

theorem okD_spec {xs : List IOp} (h : okD xs = true) : OkD xs := by
  have h0 := allI_spec xs 0 h
  simp only [Nat.zero_add, Bool.and_eq_true, List.all_eq_true, Nat.blt_eq] at h0
  refine ⟨fun i x hx j hj => ((h0 i x hx).1.1 j hj).1, fun i x j y hx hj hy k hk => ?_, fun i j x y hx hy hne t ht hm => ?_, fun i j x y hx hy hne hf hp hq => ?_, fun i x hx t ht => (h0 i x hx).1.2 t ht⟩
  · have := ((h0 i x hx).1.1 j hj).2
    rw [hy] at this
    have h2 := List.all_eq_true.1 this k hk
    simpa using h2
  · have h1 := allI_spec xs 0 (h0 i x hx).2 j y hy
    simp only [Nat.zero_add, Bool.or_eq_true, Bool.and_eq_true] at h1
    rcases h1 with ((h1 | h1) | h1) | h1
    · exact absurd (Nat.eq_of_beq_eq_true h1) hne
    · exact .inl (by simpa using h1)
    · exact .inr (by simpa using h1)
    · have h2 := h1.1
      rw [ht] at h2
      simp only [Bool.and_eq_true, Bool.not_eq_true'] at h2
      rcases hm with hm | hm
      · have : x.slots.contains t = true := by simpa using hm
        rw [this] at h2
        cases h2.1
      · rw [hm] at h2
        simp at h2
  · have h1 := allI_spec xs 0 (h0 i x hx).2 j y hy
    simp only [Nat.zero_add, Bool.or_eq_true, Bool.and_eq_true] at h1
    rcases h1 with ((h1 | h1) | h1) | h1
    · exact absurd (Nat.eq_of_beq_eq_true h1) hne
    · exact .inl (by simpa using h1)
    · exact .inr (by simpa using h1)
    · have h2 := h1.2
      simp [hf, hp, hq] at h2

end Go.Sh
