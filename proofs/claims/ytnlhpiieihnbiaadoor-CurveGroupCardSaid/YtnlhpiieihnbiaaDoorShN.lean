/-
  THE SHADOW MACHINE: regions whose order is open: every order, step by step. Own work.
-/
import Derived.Test.YtnlhpiieihnbiaaDoorShM
namespace Go.Sh

section
variable {ν : Nat → Int} {F : Facts} {P : Program} {call : CallFn} {xs : List IOp} {st : Nat → St} {ops : Array Oper} {N : Nat} {L : Lone}
variable {d0 : List Deferred} {ρ0 : Emb} {w0 : World} {S : Nat → Prop} {ρ : Emb} {a : Act} {w : World}

/-- Behind an operation that is free. -/
theorem Inv.freed (hI : Inv ν L xs st N d0 ρ0 w0 S ρ a w) (hT : Trace F call L xs st) (hD : OkD xs) {i : Nat} {x : IOp} (hx : xs[i]? = some x) (hS : ¬ S i) (hanc : ∀ j ∈ x.anc, S j) {r : AV} {v : Value} {w' : World}
    (hp : x.op.isPure = false) (hf : x.free = true) (hw : wantedA (st i).1 x.guard = some true) (hput : putE (st i).1 x.dst r = some (st (i + 1)).1) (hlt : ∀ d, x.dst = some d → d < N) (ha : After ν ρ (st i).2.1 w r (st (i + 1)).2.1 v w') :
    ∃ ρ', Inv ν L xs st N d0 ρ0 w0 (fun j => S j ∨ j = i) ρ' (a.put x.dst v) w' := by
  obtain ⟨ρ', hv, hh, hs⟩ := ha
  have hi : i < xs.length := (List.getElem?_eq_some_iff.1 hx).1
  have hwr : Wr xs st i := ⟨x, hx, hf, hp, hw⟩
  have hfit := hI.fitsF hD hx hS hanc hp hf
  -- a place at which the text stands, behind this one
  have after : ∀ m b, Fits L xs st b m (fun j => S j ∨ j = i) → i < m ∧ (∀ k, i + 1 ≤ k → k < m → ¬ Wb L xs st b k) := by
    intro m b hm
    refine ⟨(hm.2 i (.inl hwr)).2 (.inr rfl), fun k h1 h2 hk => ?_⟩
    rcases (hm.2 k hk).1 h2 with h3 | h3
    · obtain ⟨y, hy, hpy⟩ : ∃ y, xs[k]? = some y ∧ y.op.isPure = false := by
        rcases hk with ⟨y, hy, _, hpy, _⟩ | ⟨y, hy, _, hpy, _⟩ <;> exact ⟨y, hy, hpy⟩
      rcases hD.free i k x y hx hy (by omega) hf hp hpy with h4 | h4
      · have := hD.lt i x hx k h4; omega
      · exact hS (hI.closed k y hy h3 i h4)
    · omega
  have vis : ∀ m b, Fits L xs st b m (fun j => S j ∨ j = i) → ∀ z, (st m).2.1.get b = some z → Vis st m (fun j => S j ∨ j = i) b → (st (i + 1)).2.1.get b = some z := by
    intro m b hm z hz hvb
    obtain ⟨h1, h2⟩ := after m b hm
    have hbm : b < (st m).2.1.next := by
      obtain ⟨q1, _⟩ := hT.facts m hm.1
      unfold AH.get at hz
      split at hz
      · cases hz
      · split at hz
        · rename_i h3
          have := hT.low
          have h4 := (hT.facts m hm.1).2.2
          simp only [Nat.blt_eq] at h3
          omega
        · split at hz
          · rename_i h3; simpa using h3
          · cases hz
    have hb : b < (st (i + 1)).2.1.next := by
      rcases Nat.lt_or_ge b (st (i + 1)).2.1.next with h3 | h3
      · exact h3
      · exfalso
        obtain ⟨k, g1, g2, g3⟩ : ∃ k, k < m ∧ (st k).2.1.next ≤ b ∧ b < (st (k + 1)).2.1.next := Trace.cover st xs m hm.1 b (Nat.le_trans (hT.facts (i + 1) (by omega)).2.2 h3) hbm
        have hkl : k < xs.length := by have := hm.1; omega
        have hki : i < k := by
          rcases Nat.lt_or_ge i k with h5 | h5
          · exact h5
          · have := hT.mono' (i := k + 1) (j := i + 1) (by omega) (by omega); omega
        have hl := hT.loud hkl (by omega)
        have hSk : S k := (hvb k g1 g2 g3).elim id (fun e => by omega)
        rcases hD.free i k x xs[k] hx (by simp [hkl]) (by omega) hf hp hl with h4 | h4
        · have := hD.lt i x hx k h4; omega
        · exact hS (hI.closed k xs[k] (by simp [hkl]) hSk i h4)
    rw [← hT.stable' (i := i + 1) (j := m) (by omega) hm.1 h2 hb]
    exact hz
  have n0 := (hT.facts i (by omega)).2.2
  have n1 := hT.mono' (i := i + 1) (j := xs.length) (by omega) (Nat.le_refl _)
  have visI : ∀ b, Vis st i S b := by
    intro b k hk h1 h2
    have hkl : k < xs.length := by omega
    have hl := hT.loud hkl (by omega)
    rcases hD.free i k x xs[k] hx (by simp [hkl]) (by omega) hf hp hl with h3 | h3
    · exact hanc k h3
    · have := hD.lt k xs[k] (by simp [hkl]) i h3; omega
  have own0 : ∀ cb, cb < w0.heap.size → Owned ρ (st i).2.1 cb → Owned ρ0 (st 0).2.1 cb := by
    rintro cb hcb ⟨b, z, q, h1, h2, h3, h4⟩
    have := hI.owned i b (hfit b) z q h1 h2 h3 (visI b) (by omega)
    rwa [h4] at this
  refine ⟨ρ', ⟨fun j y hy hj k hk => ?_, fun m b hm z h1 h2 => hh.blk b z (vis m b hm z h1 h2), fun m m' b b' hm hm' z z' q q' h1 h2 h3 h4 h5 h6 h7 h8 => hh.apart b b' z z' q q' h1 (vis m b hm z h2 h4) (vis m' b' hm' z' h3 h5) h6 h7 h8,
    fun j hj hn b h1 h2 => ?_, fun t m hm hfit' y hy => hI.env_step hT hD hx hS hs.ext hv hput hlt t m hm hfit' y hy, Emb.le_trans hI.ext hs.ext, fun b h1 h2 => ?_, Nat.le_trans hI.size hs.size, hs.os.trans hI.os, hs.tape.trans hI.tape, hs.output.trans hI.output,
    fun cb h1 h2 => ?_, fun m b hm z q h1 h2 h3 h4 h5 => ?_, fun b q h1 h2 => ?_, by rw [put_size]; exact hI.tmps, by rw [put_defers]; exact hI.defers⟩⟩
  · rcases hj with hj | hj
    · exact .inl (hI.closed j y hy hj k hk)
    · subst hj
      rw [hx] at hy
      cases hy
      exact .inl (hanc k hk)
  · have hne : j ≠ i := fun e => hn (.inr e)
    have hb := hI.void j hj (fun hh => hn (.inl hh)) b h1 h2
    cases hq : ρ' b with
    | none => rfl
    | some q =>
      have := hs.fresh b hb (by rw [hq]; simp)
      rcases Nat.lt_or_ge j i with h5 | h5
      · have := hT.mono' (i := j + 1) (j := i) (by omega) (by omega); omega
      · have := hT.mono' (i := i + 1) (j := j) (by omega) (by omega); omega
  · cases hb : ρ b with
    | none => have := hs.fresh b hb h2; omega
    | some q => exact hI.fresh b h1 (by rw [hb]; simp)
  · rw [hs.frame cb (Nat.lt_of_lt_of_le h1 hI.size) (fun ho => h2 (own0 cb h1 ho)), hI.frame cb h1 h2]
  · exact own0 _ h5 (hs.owned q.cb (Nat.lt_of_lt_of_le h5 hI.size) ⟨b, z, q, vis m b hm z h1 h4, h2, h3, rfl⟩)
  · cases hb : ρ b with
    | none =>
      rcases hs.place b q hb h2 with h3 | h3
      · exact .inl (Nat.le_trans hI.size h3)
      · rcases Nat.lt_or_ge q.cb w0.heap.size with h4 | h4
        · exact .inr (own0 _ h4 h3)
        · exact .inl h4
    | some q2 =>
      have := hs.ext _ _ hb
      rw [h2] at this
      cases this
      exact hI.place b q h1 hb

/-- Behind one that is not. -/
theorem Inv.sealed (hI : Inv ν L xs st N d0 ρ0 w0 S ρ a w) (hT : Trace F call L xs st) (hD : OkD xs) (hL : LoneOk L xs) (h0 : (st 0).2.2 = []) {i : Nat} {x : IOp} (hx : xs[i]? = some x) (hlo : loneAt L i = none) (hS : ¬ S i) (hanc : ∀ j ∈ x.anc, S j) {r : AV} {v : Value} {w' : World} {H' : AH}
    (hp : x.op.isPure = false) (hf : x.free = false) (hput : putE (st i).1 x.dst r = some (st (i + 1)).1) (hlt : ∀ d, x.dst = some d → d < N) (hk : Keeps (Seen L i x (st i)) H') (hst : (st (i + 1)).2.1 = { H' with low := (st i).2.1.low, hid := (st i).2.1.hid })
    (ha : After ν ρ (Seen L i x (st i)) w r H' v w') : ∃ ρ', Inv ν L xs st N d0 ρ0 w0 (fun j => S j ∨ j = i) ρ' (a.put x.dst v) w' := by
  obtain ⟨ρ', hv, hh, hs⟩ := ha
  have hi : i < xs.length := (List.getElem?_eq_some_iff.1 hx).1
  obtain ⟨_, hnone⟩ := hI.seen hT hD hL hx hS hanc hp
  have hnw : ∀ b, ¬ Wb L xs st b i := by
    rintro b (⟨y, hy, hfy, _⟩ | ⟨y, hy, _, _, _, hl⟩)
    · rw [hx] at hy
      cases hy
      rw [hf] at hfy
      cases hfy
    · rw [hlo] at hl
      cases hl
  have hnext : (st (i + 1)).2.1.next = H'.next := by rw [hst]
  have hf' : ∀ m b, Fits L xs st b m (fun j => S j ∨ j = i) → Fits L xs st b m S := fun m b h => ⟨h.1, fun j hj => (h.2 j hj).trans ⟨fun hh => hh.elim id (fun e => by subst e; exact (hnw b hj).elim), .inl⟩⟩
  have glt : ∀ m, m ≤ xs.length → ∀ b z, (st m).2.1.get b = some z → b < (st m).2.1.next := by
    intro m hm b z hz
    unfold AH.get at hz
    split at hz
    · cases hz
    · split at hz
      · rename_i h3
        have := hT.low
        have h4 := (hT.facts m hm).2.2
        have h5 := (hT.facts m hm).1
        simp only [Nat.blt_eq] at h3
        omega
      · split at hz
        · rename_i h3; simpa using h3
        · cases hz
  have hlowi : (st i).2.1.low ≤ (st i).2.1.next := by
    have h4 := (hT.facts i (by omega)).2.2
    have h5 := (hT.facts i (by omega)).1
    have := hT.low
    omega
  -- a block that this one made: whoever writes it is behind this one
  have mine : ∀ m b, Fits L xs st b m S → (st i).2.1.next ≤ b → b < (st (i + 1)).2.1.next → i < m → ∀ k, i + 1 ≤ k → k < m → ¬ Wb L xs st b k := by
    intro m b hm h1 h2 him k h3 h4 hk
    have hSk := (hm.2 k hk).1 h4
    rcases hk with ⟨y, hy, hfy, hpy, _⟩ | ⟨y, hy, hfy, hpy, hwy, hl⟩
    · rcases hD.free k i y x hy hx (by omega) hfy hpy hp with h5 | h5
      · exact hS (hI.closed k y hy hSk i h5)
      · have := hD.lt i x hx k h5; omega
    · -- such a store knows the block: this one is ahead of it
      have hkl : k < xs.length := (List.getElem?_eq_some_iff.1 hy).1
      obtain ⟨r', _, hkd⟩ := hT.step k y hy
      have hhid : hidden (spansBut y.anc (st k).2.2) b = false := by
        cases hkd with
        | skip hw' _ => rw [hwy] at hw'; cases hw'
        | pure _ _ hp' _ _ => rw [hpy] at hp'; cases hp'
        | free _ _ _ hf' _ _ => rw [hfy] at hf'; cases hf'
        | lone _ b' _ _ _ _ _ _ _ hl' _ _ hh' _ _ =>
          rw [hl] at hl'
          cases hl'
          exact hh'
        | mono _ _ _ _ _ hl' _ _ _ => rw [hl] at hl'; cases hl'
      rcases hT.span k (by omega) i (by omega) (by omega) with h5 | ⟨j, h5, h6, z, hz, hfz, hpz, _⟩
      · by_cases ha : i ∈ y.anc
        · exact hS (hI.closed k y hy hSk i ha)
        · rw [spansBut_hides _ _ h5 ha h1 h2] at hhid
          cases hhid
      · have hji : j ≠ i := fun e => by
          subst e
          rw [hx] at hz
          cases hz
          rw [hf] at hfz
          cases hfz
        have hSj : S j := by
          rcases hD.free j k z y hz hy (by omega) hfz hpz hpy with h7 | h7
          · have := hD.lt j z hz k h7; omega
          · exact hI.closed k y hy hSk j h7
        rcases hD.free j i z x hz hx hji hfz hpz hp with h7 | h7
        · exact hS (hI.closed j z hz hSj i h7)
        · have := hD.lt i x hx j h7; omega
  -- what is new
  have newb : ∀ m b, Fits L xs st b m S → ∀ z, (st m).2.1.get b = some z → (st i).2.1.next ≤ b → b < (st (i + 1)).2.1.next → i < m → H'.get b = some z := by
    intro m b hm z hz h1 h2 him
    rw [hT.stable' (i := i + 1) (j := m) (by omega) hm.1 (fun k q1 q2 => mine m b hm h1 h2 him k q1 q2) h2] at hz
    rw [hst] at hz
    unfold AH.get at hz ⊢
    rw [hk.low, hk.hid]
    have e1 : Nat.blt b (Seen L i x (st i)).low = false := by rw [Bool.eq_false_iff]; simp [Seen]; omega
    have e2 : Nat.blt b (st i).2.1.low = false := by rw [Bool.eq_false_iff]; simp; omega
    have e4 : hidden (hidL (st i).2.1.next i x.anc L) b = false := hidL_not h1
    have e3 : hidden (Seen L i x (st i)).hid b = hidden (st i).2.1.hid b := by
      show hidden (spansBut x.anc (st i).2.2 ++ (hidL (st i).2.1.next i x.anc L ++ (st i).2.1.hid)) b = _
      rw [hidden_append, hidden_append, spansBut_le (st i).2.2 (hT.span_le h0 i (by omega)) h1, e4, Bool.false_or, Bool.false_or]
    simp only [e2, Bool.false_eq_true, if_false] at hz
    rw [e3, e1]
    simpa using hz
  -- what is old
  have oldv : ∀ m b, Vis st m (fun j => S j ∨ j = i) b → ¬ ((st i).2.1.next ≤ b ∧ b < (st (i + 1)).2.1.next ∧ i < m) → Vis st m S b := fun m b h hn k h1 h2 h3 => (h k h1 h2 h3).elim id (fun e => by subst e; exact (hn ⟨h2, h3, h1⟩).elim)
  have keepC : ∀ z : ABlk, ∀ q : Pl, BR ν ρ w z q → w'.heap[q.cb]? = w.heap[q.cb]? := fun z q h1 => hs.frame q.cb h1.lt (hnone _)
  have n0 := (hT.facts i (by omega)).2.2
  have n1 := hT.mono' (i := i + 1) (j := xs.length) (by omega) (Nat.le_refl _)
  have blk' : ∀ m b, Fits L xs st b m (fun j => S j ∨ j = i) → ∀ z, (st m).2.1.get b = some z → Vis st m (fun j => S j ∨ j = i) b → ∃ pl, ρ' b = some pl ∧ BR ν ρ' w' z pl := by
    intro m b hm z h1 h2
    by_cases hn : (st i).2.1.next ≤ b ∧ b < (st (i + 1)).2.1.next ∧ i < m
    · exact hh.blk b z (newb m b (hf' m b hm) z h1 hn.1 hn.2.1 hn.2.2)
    · obtain ⟨pl, g1, g2⟩ := hI.blk m b (hf' m b hm) z h1 (oldv m b h2 hn)
      exact ⟨pl, hs.ext _ _ g1, g2.keep hs.ext (keepC z pl g2)⟩
  -- where old and new ones lie
  have lie : ∀ m b, Fits L xs st b m (fun j => S j ∨ j = i) → ∀ z q, (st m).2.1.get b = some z → Vis st m (fun j => S j ∨ j = i) b → ρ' b = some q →
      ((st i).2.1.next ≤ b ∧ b < (st (i + 1)).2.1.next ∧ i < m ∧ H'.get b = some z ∧ w.heap.size ≤ q.cb) ∨ (Vis st m S b ∧ ρ b = some q ∧ q.cb < w.heap.size) := by
    intro m b hm z q h1 h2 h3
    by_cases hn : (st i).2.1.next ≤ b ∧ b < (st (i + 1)).2.1.next ∧ i < m
    · left
      refine ⟨hn.1, hn.2.1, hn.2.2, newb m b (hf' m b hm) z h1 hn.1 hn.2.1 hn.2.2, ?_⟩
      have hb := hI.void i hi hS b hn.1 hn.2.1
      rcases hs.place b q hb h3 with h4 | h4
      · exact h4
      · exact (hnone _ h4).elim
    · right
      obtain ⟨pl, g1, g2⟩ := hI.blk m b (hf' m b hm) z h1 (oldv m b h2 hn)
      have := hs.ext _ _ g1
      rw [h3] at this
      cases this
      exact ⟨oldv m b h2 hn, g1, g2.lt⟩
  refine ⟨ρ', ⟨fun j y hy hj k hk => ?_, blk', fun m m' b b' hm hm' z z' q q' h1 h2 h3 h4 h5 h6 h7 h8 => ?_,
    fun j hj hn b h1 h2 => ?_, fun t m hm hfit' y hy => hI.env_step hT hD hx hS hs.ext hv hput hlt t m hm hfit' y hy, Emb.le_trans hI.ext hs.ext, fun b h1 h2 => ?_, Nat.le_trans hI.size hs.size, hs.os.trans hI.os, hs.tape.trans hI.tape, hs.output.trans hI.output,
    fun cb h1 h2 => ?_, fun m b hm z q h1 h2 h3 h4 h5 => ?_, fun b q h1 h2 => ?_, by rw [put_size]; exact hI.tmps, by rw [put_defers]; exact hI.defers⟩⟩
  · rcases hj with hj | hj
    · exact .inl (hI.closed j y hy hj k hk)
    · subst hj
      rw [hx] at hy
      cases hy
      exact .inl (hanc k hk)
  · rcases lie m b hm z q h2 h4 h7 with ⟨_, _, _, e1, e2⟩ | ⟨e1, e2, e3⟩ <;> rcases lie m' b' hm' z' q' h3 h5 h8 with ⟨_, _, _, f1, f2⟩ | ⟨f1, f2, f3⟩
    · exact hh.apart b b' z z' q q' h1 e1 f1 h6 h7 h8
    · omega
    · omega
    · exact hI.apart m m' b b' (hf' m b hm) (hf' m' b' hm') z z' q q' h1 h2 h3 e1 f1 h6 e2 f2
  · have hne : j ≠ i := fun e => hn (.inr e)
    have hb := hI.void j hj (fun hh => hn (.inl hh)) b h1 h2
    cases hq : ρ' b with
    | none => rfl
    | some q =>
      have hfr := hs.fresh b hb (by rw [hq]; simp)
      have hfr1 : (st i).2.1.next ≤ b := hfr.1
      rcases Nat.lt_or_ge j i with h5 | h5
      · have := hT.mono' (i := j + 1) (j := i) (by omega) (by omega); omega
      · have := hT.mono' (i := i + 1) (j := j) (by omega) (by omega); omega
  · cases hb : ρ b with
    | none =>
      have hfr := hs.fresh b hb h2
      have hfr1 : (st i).2.1.next ≤ b := hfr.1
      omega
    | some q => exact hI.fresh b h1 (by rw [hb]; simp)
  · rw [hs.frame cb (Nat.lt_of_lt_of_le h1 hI.size) (hnone _), hI.frame cb h1 h2]
  · rcases lie m b hm z q h1 h4 h3 with ⟨_, _, _, e1, e2⟩ | ⟨e1, e2, e3⟩
    · have := hI.size; omega
    · exact hI.owned m b (hf' m b hm) z q h1 h2 e2 e1 h5
  · cases hb : ρ b with
    | none =>
      rcases hs.place b q hb h2 with h3 | h3
      · exact .inl (Nat.le_trans hI.size h3)
      · exact (hnone _ h3).elim
    | some q2 =>
      have := hs.ext _ _ hb
      rw [h2] at this
      cases this
      exact hI.place b q h1 hb

/-- One block alone. -/
def AH.only (H : AH) (b : Nat) (z : ABlk) : AH := { tr := Tr.put depth .l b (some z), next := H.next, low := 0, hid := [] }

theorem only_get {H : AH} {b : Nat} {z : ABlk} (hb : b < room) (hn : b < H.next) (j : Nat) : (H.only b z).get j = if j = b then some z else none := by
  unfold AH.get AH.only
  simp only [hidden, Bool.false_eq_true, if_false]
  have e0 : Nat.blt j 0 = false := rfl
  rw [e0, Tr.get_put _ _ _ _ _ (by unfold room at hb; show b + 1 < 2 ^ 24; omega)]
  by_cases e : j = b
  · subst e
    have : Nat.blt j H.next = true := by simpa using hn
    simp [this]
  · simp only [e, if_false, Bool.false_eq_true, Tr.get]
    split <;> rfl

/-- A store meets its block alone. -/
theorem st_only {F : Facts} {call : CallFn} {e : Tr AV} {H H' : AH} {n b off : Nat} {p q : O} {r : AV} (hv : opA F call e H (.st n p q) = some (r, H')) (hb : p.ev e = .p b off) :
    ∃ y z Ho, H.get b = some y ∧ y.own = true ∧ b < H.next ∧ b < room ∧ opA F call e (H.only b y) (.st n p q) = some (r, Ho) ∧ H'.get b = some z ∧ z.own = true ∧ (∀ j, Ho.get j = if j = b then some z else none) ∧ Ho.next = H.next := by
  simp only [opA, hb] at hv ⊢
  split at hv
  · rename_i b' o' cs e1 e2
    cases e1
    split at hv
    · rename_i hlen
      simp only [Option.map_eq_some_iff, Prod.mk.injEq] at hv
      obtain ⟨H1, hw, rfl, rfl⟩ := hv
      unfold AH.wr at hw
      split at hw
      · rename_i y hy
        split at hw
        · cases hw
        · rename_i hmt
          split at hw
          · rename_i hc
            have hw0 := hw
            unfold AH.lay at hw
            rw [hy] at hw
            simp only at hw
            split at hw
            · rename_i ho
              simp only [Bool.and_eq_true, Nat.blt_eq] at ho
              obtain ⟨g1, g2, g3, g4⟩ := H.get_own hy ho.1
              have og := only_get (z := y) (H := H) ho.2 g2
              have ogb : (H.only b y).get b = some y := by rw [og b, if_pos rfl]
              obtain ⟨Ho, hlay, hnx⟩ : ∃ Ho, (H.only b y).lay b (some { y with cells := splice y.cells off cs }) = some Ho ∧ Ho.next = H.next := by
                unfold AH.lay
                rw [ogb]
                have : (y.own && Nat.blt b room) = true := by simp [ho.1, ho.2]
                simp only [this, if_true]
                exact ⟨_, rfl, rfl⟩
              refine ⟨y, { y with cells := splice y.cells off cs }, Ho, hy, ho.1, g2, ho.2, ?_, by rw [AH.lay_get hw0 b, if_pos rfl], ho.1, fun j => ?_, hnx⟩
              · simp only [hlen, if_true, AH.wr, ogb, hmt, hc, hlay]
                rfl
              · rw [AH.lay_get hlay j, og j]
                by_cases e : j = b <;> simp [e]
            · cases hw
          · cases hw
      · cases hw
    · cases hv
  · cases hv

/-- Behind a store that is not free. -/
theorem Inv.loned (hI : Inv ν L xs st N d0 ρ0 w0 S ρ a w) (hT : Trace F call L xs st) (hD : OkD xs) (hL : LoneOk L xs) {i : Nat} {x : IOp} (hx : xs[i]? = some x) (hS : ¬ S i) (hanc : ∀ j ∈ x.anc, S j) {r : AV} {v : Value} {w' : World} {Ho : AH} {b : Nat} {y z : ABlk}
    (hp : x.op.isPure = false) (hf : x.free = false) (hw : wantedA (st i).1 x.guard = some true) (hlo : loneAt L i = some b) (hok : loneOk i x.anc b L = true) (hhid : hidden (spansBut x.anc (st i).2.2) b = false)
    (hput : putE (st i).1 x.dst r = some (st (i + 1)).1) (hlt : ∀ d, x.dst = some d → d < N) (hy : (st i).2.1.get b = some y) (hyo : y.own = true) (hz : (st (i + 1)).2.1.get b = some z) (hzo : z.own = true) (hHo : ∀ j, Ho.get j = if j = b then some z else none) (hHn : Ho.next = (st i).2.1.next)
    (hnx : (st (i + 1)).2.1.next = (st i).2.1.next) (ha : After ν ρ ((st i).2.1.only b y) w r Ho v w') (hbr : b < room) (hbn : b < (st i).2.1.next) : ∃ ρ', Inv ν L xs st N d0 ρ0 w0 (fun j => S j ∨ j = i) ρ' (a.put x.dst v) w' := by
  obtain ⟨ρ', hv, hh, hs⟩ := ha
  have hi : i < xs.length := (List.getElem?_eq_some_iff.1 hx).1
  have og := only_get (z := y) (H := (st i).2.1) hbr hbn
  have hwb : Wb L xs st b i := .inr ⟨x, hx, hf, hp, hw, hlo⟩
  have hfit : Fits L xs st b i S := hI.fitsL hD hL hx hS hanc hp (loneOk_shows hok)
  have hvis : Vis st i S b := hI.vis hT hD hx hS hanc hp hhid
  have hnw : ∀ c, c ≠ b → ¬ Wb L xs st c i := by
    rintro c hc (⟨x', hx', hfx, _⟩ | ⟨x', hx', _, _, _, hl⟩)
    · rw [hx] at hx'
      cases hx'
      rw [hf] at hfx
      cases hfx
    · rw [hlo] at hl
      cases hl
      exact hc rfl
  have hf' : ∀ m c, c ≠ b → Fits L xs st c m (fun j => S j ∨ j = i) → Fits L xs st c m S := fun m c hc h => ⟨h.1, fun j hj => (h.2 j hj).trans ⟨fun hh => hh.elim id (fun e => by subst e; exact (hnw c hc hj).elim), .inl⟩⟩
  have hv' : ∀ m c, Vis st m (fun j => S j ∨ j = i) c → Vis st m S c := fun m c h k h1 h2 h3 => (h k h1 h2 h3).elim id (fun e => by subst e; omega)
  -- the block itself, behind
  have self : ∀ m, Fits L xs st b m (fun j => S j ∨ j = i) → ∀ z', (st m).2.1.get b = some z' → z' = z := by
    intro m hm z' hz'
    have him : i < m := (hm.2 i hwb).2 (.inr rfl)
    rw [hT.stable' (i := i + 1) (j := m) (by omega) hm.1 (fun k h1 h2 hk => by
      rcases (hm.2 k hk).1 h2 with h3 | h3
      · have := (hfit.2 k hk).2 h3; omega
      · omega) (by omega)] at hz'
    rw [hz] at hz'
    cases hz'
    rfl
  obtain ⟨pl, p1, p2⟩ := hI.blk i b hfit y hy hvis
  have p1' : ρ' b = some pl := hs.ext _ _ p1
  have notO : ∀ cb, cb ≠ pl.cb → ¬ Owned ρ ((st i).2.1.only b y) cb := by
    rintro cb hcb ⟨c, f1, q, h1, _, h3, h4⟩
    rw [og c] at h1
    split at h1
    · rename_i e
      subst e
      rw [p1] at h3
      cases h3
      exact hcb h4.symm
    · cases h1
  have ownb : pl.cb < w0.heap.size → Owned ρ0 (st 0).2.1 pl.cb := fun h => hI.owned i b hfit y pl hy hyo p1 hvis h
  have none' : ∀ c, ρ c = none → ρ' c = none := by
    intro c hc
    cases hq : ρ' c with
    | none => rfl
    | some q =>
      have := hs.fresh c hc (by rw [hq]; simp)
      rw [hHn] at this
      have h2 : ((st i).2.1.only b y).next = (st i).2.1.next := rfl
      omega
  have back : ∀ c q, ρ' c = some q → ρ c = some q := by
    intro c q hq
    cases hc : ρ c with
    | none => rw [none' c hc] at hq; cases hq
    | some q' =>
      have := hs.ext _ _ hc
      rw [hq] at this
      exact this.symm
  refine ⟨ρ', ⟨fun j g hg hj k hk => ?_, fun m c hm f1 h1 h2 => ?_, fun m m' c c' hm hm' f1 f2 q q' h1 h2 h3 h4 h5 h6 h7 h8 => ?_,
    fun j hj hn c h1 h2 => none' c (hI.void j hj (fun hh => hn (.inl hh)) c h1 h2), fun t m hm hfit' g hg => hI.env_step hT hD hx hS hs.ext hv hput hlt t m hm hfit' g hg, Emb.le_trans hI.ext hs.ext, fun c h1 h2 => ?_, Nat.le_trans hI.size hs.size, hs.os.trans hI.os, hs.tape.trans hI.tape, hs.output.trans hI.output,
    fun cb h1 h2 => ?_, fun m c hm f1 q h1 h2 h3 h4 h5 => ?_, fun c q h1 h2 => hI.place c q h1 (back c q h2), by rw [put_size]; exact hI.tmps, by rw [put_defers]; exact hI.defers⟩⟩
  · rcases hj with hj | hj
    · exact .inl (hI.closed j g hg hj k hk)
    · subst hj
      rw [hx] at hg
      cases hg
      exact .inl (hanc k hk)
  · by_cases e : c = b
    · subst e
      have := self m hm f1 h1
      subst this
      exact hh.blk c f1 (by rw [hHo c, if_pos rfl])
    · obtain ⟨q, g1, g2⟩ := hI.blk m c (hf' m c e hm) f1 h1 (hv' m c h2)
      refine ⟨q, hs.ext _ _ g1, g2.keep hs.ext (hs.frame q.cb g2.lt (notO _ fun hq => ?_))⟩
      exact hI.apart i m b c hfit (hf' m c e hm) y f1 pl q (fun h => e h.symm) hy h1 hvis (hv' m c h2) hyo p1 g1 hq.symm
  · by_cases e : c = b
    · subst e
      have hc' : c' ≠ c := fun h => h1 h.symm
      exact hI.apart i m' c c' hfit (hf' m' c' hc' hm') y f2 q q' h1 hy h3 hvis (hv' m' c' h5) hyo (back _ _ h7) (back _ _ h8)
    · by_cases e' : c' = b
      · subst e'
        exact hI.apart m i c c' (hf' m c e hm) hfit f1 y q q' h1 h2 hy (hv' m c h4) hvis h6 (back _ _ h7) (back _ _ h8)
      · exact hI.apart m m' c c' (hf' m c e hm) (hf' m' c' e' hm') f1 f2 q q' h1 h2 h3 (hv' m c h4) (hv' m' c' h5) h6 (back _ _ h7) (back _ _ h8)
  · exact hI.fresh c h1 fun h => h2 (none' c h)
  · rw [hs.frame cb (Nat.lt_of_lt_of_le h1 hI.size) (notO cb fun e => h2 (by subst e; exact ownb h1)), hI.frame cb h1 h2]
  · by_cases e : c = b
    · subst e
      rw [p1'] at h3
      cases h3
      exact ownb h5
    · exact hI.owned m c (hf' m c e hm) f1 q h1 h2 (back _ _ h3) (hv' m c h4) h5

end
end Go.Sh
