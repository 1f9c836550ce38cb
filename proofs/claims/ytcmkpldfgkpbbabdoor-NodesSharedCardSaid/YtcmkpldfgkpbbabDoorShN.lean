/-
  THE SHADOW MACHINE: regions whose order is open: every order, step by step. Own work.
-/
import Derived.Test.YtcmkpldfgkpbbabDoorShM
namespace Go.Sh

section
variable {ν : Nat → Int} {F : Facts} {P : Program} {call : CallFn} {xs : List IOp} {st : Nat → St} {ops : Array Oper} {N : Nat}
variable {d0 : List Deferred} {ρ0 : Emb} {w0 : World} {S : Nat → Prop} {ρ : Emb} {a : Act} {w : World}

/-- Behind an operation that is free. -/
theorem Inv.freed (hI : Inv ν xs st N d0 ρ0 w0 S ρ a w) (hT : Trace F call xs st) (hD : OkD xs) {i : Nat} {x : IOp} (hx : xs[i]? = some x) (hS : ¬ S i) (hanc : ∀ j ∈ x.anc, S j) {r : AV} {v : Value} {w' : World}
    (hp : x.op.isPure = false) (hf : x.free = true) (hw : wantedA (st i).1 x.guard = some true) (hput : putE (st i).1 x.dst r = some (st (i + 1)).1) (hlt : ∀ d, x.dst = some d → d < N) (ha : After ν ρ (st i).2.1 w r (st (i + 1)).2.1 v w') :
    ∃ ρ', Inv ν xs st N d0 ρ0 w0 (fun j => S j ∨ j = i) ρ' (a.put x.dst v) w' := by
  obtain ⟨ρ', hv, hh, hs⟩ := ha
  have hi : i < xs.length := (List.getElem?_eq_some_iff.1 hx).1
  have hwr : Wr xs st i := ⟨x, hx, hf, hp, hw⟩
  have hfit := hI.fits hD hx hS hanc hp
  -- a place at which the text stands, behind this one
  have after : ∀ m, Fits xs st m (fun j => S j ∨ j = i) → i < m ∧ (∀ k, i + 1 ≤ k → k < m → ¬ Wr xs st k) := by
    intro m hm
    refine ⟨(hm.2 i hwr).2 (.inr rfl), fun k h1 h2 hk => ?_⟩
    rcases (hm.2 k hk).1 h2 with h3 | h3
    · obtain ⟨y, hy, hfy, hpy, _⟩ := hk
      rcases hD.free i k x y hx hy (by omega) hf hp hpy with h4 | h4
      · have := hD.lt i x hx k h4; omega
      · exact hS (hI.closed k y hy h3 i h4)
    · omega
  have vis : ∀ m, Fits xs st m (fun j => S j ∨ j = i) → ∀ b z, (st m).2.1.get b = some z → Vis st m (fun j => S j ∨ j = i) b → (st (i + 1)).2.1.get b = some z := by
    intro m hm b z hz hvb
    obtain ⟨h1, h2⟩ := after m hm
    have hbm : b < (st m).2.1.next := by
      obtain ⟨q1, _⟩ := hT.facts m hm.1
      unfold AH.get at hz
      split at hz
      · cases hz
      · split at hz
        · rename_i h3
          have := hT.low
          have h4 := (hT.facts m hm.1).2.2
          simp only [Nat.blt_eq] at h3
          omega
        · split at hz
          · rename_i h3; simpa using h3
          · cases hz
    have hb : b < (st (i + 1)).2.1.next := by
      rcases Nat.lt_or_ge b (st (i + 1)).2.1.next with h3 | h3
      · exact h3
      · exfalso
        obtain ⟨k, g1, g2, g3⟩ : ∃ k, k < m ∧ (st k).2.1.next ≤ b ∧ b < (st (k + 1)).2.1.next := Trace.cover st xs m hm.1 b (Nat.le_trans (hT.facts (i + 1) (by omega)).2.2 h3) hbm
        have hkl : k < xs.length := by have := hm.1; omega
        have hki : i < k := by
          rcases Nat.lt_or_ge i k with h5 | h5
          · exact h5
          · have := hT.mono' (i := k + 1) (j := i + 1) (by omega) (by omega); omega
        have hl := hT.loud hkl (by omega)
        have hSk : S k := (hvb k g1 g2 g3).elim id (fun e => by omega)
        rcases hD.free i k x xs[k] hx (by simp [hkl]) (by omega) hf hp hl with h4 | h4
        · have := hD.lt i x hx k h4; omega
        · exact hS (hI.closed k xs[k] (by simp [hkl]) hSk i h4)
    rw [← hT.stable' (i := i + 1) (j := m) (by omega) hm.1 h2 hb]
    exact hz
  have n0 := (hT.facts i (by omega)).2.2
  have n1 := hT.mono' (i := i + 1) (j := xs.length) (by omega) (Nat.le_refl _)
  have visI : ∀ b, Vis st i S b := by
    intro b k hk h1 h2
    have hkl : k < xs.length := by omega
    have hl := hT.loud hkl (by omega)
    rcases hD.free i k x xs[k] hx (by simp [hkl]) (by omega) hf hp hl with h3 | h3
    · exact hanc k h3
    · have := hD.lt k xs[k] (by simp [hkl]) i h3; omega
  have own0 : ∀ cb, cb < w0.heap.size → Owned ρ (st i).2.1 cb → Owned ρ0 (st 0).2.1 cb := by
    rintro cb hcb ⟨b, z, q, h1, h2, h3, h4⟩
    have := hI.owned i hfit b z q h1 h2 h3 (visI b) (by omega)
    rwa [h4] at this
  refine ⟨ρ', ⟨fun j y hy hj k hk => ?_, fun m hm b z h1 h2 => hh.blk b z (vis m hm b z h1 h2), fun m hm b b' z z' q q' h1 h2 h3 h4 h5 h6 h7 h8 => hh.apart b b' z z' q q' h1 (vis m hm b z h2 h4) (vis m hm b' z' h3 h5) h6 h7 h8,
    fun j hj hn b h1 h2 => ?_, fun t m hm hfit' y hy => hI.env_step hT hD hx hS hs.ext hv hput hlt t m hm hfit' y hy, Emb.le_trans hI.ext hs.ext, fun b h1 h2 => ?_, Nat.le_trans hI.size hs.size, hs.os.trans hI.os, hs.tape.trans hI.tape, hs.output.trans hI.output,
    fun cb h1 h2 => ?_, fun m hm b z q h1 h2 h3 h4 h5 => ?_, fun b q h1 h2 => ?_, by rw [put_size]; exact hI.tmps, by rw [put_defers]; exact hI.defers⟩⟩
  · rcases hj with hj | hj
    · exact .inl (hI.closed j y hy hj k hk)
    · subst hj
      rw [hx] at hy
      cases hy
      exact .inl (hanc k hk)
  · have hne : j ≠ i := fun e => hn (.inr e)
    have hb := hI.void j hj (fun hh => hn (.inl hh)) b h1 h2
    cases hq : ρ' b with
    | none => rfl
    | some q =>
      have := hs.fresh b hb (by rw [hq]; simp)
      rcases Nat.lt_or_ge j i with h5 | h5
      · have := hT.mono' (i := j + 1) (j := i) (by omega) (by omega); omega
      · have := hT.mono' (i := i + 1) (j := j) (by omega) (by omega); omega
  · cases hb : ρ b with
    | none => have := hs.fresh b hb h2; omega
    | some q => exact hI.fresh b h1 (by rw [hb]; simp)
  · rw [hs.frame cb (Nat.lt_of_lt_of_le h1 hI.size) (fun ho => h2 (own0 cb h1 ho)), hI.frame cb h1 h2]
  · exact own0 _ h5 (hs.owned q.cb (Nat.lt_of_lt_of_le h5 hI.size) ⟨b, z, q, vis m hm b z h1 h4, h2, h3, rfl⟩)
  · cases hb : ρ b with
    | none =>
      rcases hs.place b q hb h2 with h3 | h3
      · exact .inl (Nat.le_trans hI.size h3)
      · rcases Nat.lt_or_ge q.cb w0.heap.size with h4 | h4
        · exact .inr (own0 _ h4 h3)
        · exact .inl h4
    | some q2 =>
      have := hs.ext _ _ hb
      rw [h2] at this
      cases this
      exact hI.place b q h1 hb

/-- Behind one that is not. -/
theorem Inv.sealed (hI : Inv ν xs st N d0 ρ0 w0 S ρ a w) (hT : Trace F call xs st) (hD : OkD xs) (h0 : (st 0).2.2 = []) {i : Nat} {x : IOp} (hx : xs[i]? = some x) (hS : ¬ S i) (hanc : ∀ j ∈ x.anc, S j) {r : AV} {v : Value} {w' : World} {H' : AH}
    (hp : x.op.isPure = false) (hf : x.free = false) (hput : putE (st i).1 x.dst r = some (st (i + 1)).1) (hlt : ∀ d, x.dst = some d → d < N) (hk : Keeps (Seen x (st i)) H') (hst : (st (i + 1)).2.1 = { H' with low := (st i).2.1.low, hid := (st i).2.1.hid })
    (ha : After ν ρ (Seen x (st i)) w r H' v w') : ∃ ρ', Inv ν xs st N d0 ρ0 w0 (fun j => S j ∨ j = i) ρ' (a.put x.dst v) w' := by
  obtain ⟨ρ', hv, hh, hs⟩ := ha
  have hi : i < xs.length := (List.getElem?_eq_some_iff.1 hx).1
  obtain ⟨_, hnone⟩ := hI.seen hT hD hx hS hanc hp
  have hfit := hI.fits hD hx hS hanc hp
  have hnw : ¬ Wr xs st i := by
    rintro ⟨y, hy, hfy, _⟩
    rw [hx] at hy
    cases hy
    rw [hf] at hfy
    cases hfy
  have hnext : (st (i + 1)).2.1.next = H'.next := by rw [hst]
  have hf' : ∀ m, Fits xs st m (fun j => S j ∨ j = i) → Fits xs st m S := fun m h => ⟨h.1, fun j hj => (h.2 j hj).trans ⟨fun hh => hh.elim id (fun e => by subst e; exact (hnw hj).elim), .inl⟩⟩
  have nowr : ∀ m, Fits xs st m S → i < m → ∀ k, i ≤ k → k < m → ¬ Wr xs st k := fun m hm him k h1 h2 hk => by
    have := (hfit.2 k hk).2 ((hm.2 k hk).1 h2); omega
  have glt : ∀ m, m ≤ xs.length → ∀ b z, (st m).2.1.get b = some z → b < (st m).2.1.next := by
    intro m hm b z hz
    unfold AH.get at hz
    split at hz
    · cases hz
    · split at hz
      · rename_i h3
        have := hT.low
        have h4 := (hT.facts m hm).2.2
        have h5 := (hT.facts m hm).1
        simp only [Nat.blt_eq] at h3
        omega
      · split at hz
        · rename_i h3; simpa using h3
        · cases hz
  have hlowi : (st i).2.1.low ≤ (st i).2.1.next := by
    have h4 := (hT.facts i (by omega)).2.2
    have h5 := (hT.facts i (by omega)).1
    have := hT.low
    omega
  -- what is new
  have newb : ∀ m, Fits xs st m S → ∀ b z, (st m).2.1.get b = some z → (st i).2.1.next ≤ b → b < (st (i + 1)).2.1.next → i < m → H'.get b = some z := by
    intro m hm b z hz h1 h2 him
    rw [hT.stable' (i := i + 1) (j := m) (by omega) hm.1 (fun k q1 q2 => nowr m hm him k (by omega) q2) h2] at hz
    rw [hst] at hz
    unfold AH.get at hz ⊢
    rw [hk.low, hk.hid]
    have e1 : Nat.blt b (Seen x (st i)).low = false := by rw [Bool.eq_false_iff]; simp [Seen]; omega
    have e2 : Nat.blt b (st i).2.1.low = false := by rw [Bool.eq_false_iff]; simp; omega
    have e3 : hidden (Seen x (st i)).hid b = hidden (st i).2.1.hid b := by
      show hidden (spansBut x.anc (st i).2.2 ++ (st i).2.1.hid) b = _
      rw [hidden_append, spansBut_le (st i).2.2 (hT.span_le h0 i (by omega)) h1, Bool.false_or]
    simp only [e2, Bool.false_eq_true, if_false] at hz
    rw [e3, e1]
    simpa using hz
  -- what is old
  have oldv : ∀ m b, Vis st m (fun j => S j ∨ j = i) b → ¬ ((st i).2.1.next ≤ b ∧ b < (st (i + 1)).2.1.next ∧ i < m) → Vis st m S b := fun m b h hn k h1 h2 h3 => (h k h1 h2 h3).elim id (fun e => by subst e; exact (hn ⟨h2, h3, h1⟩).elim)
  have keepC : ∀ q : Pl, ∀ C ty fz, w.heap[q.cb]? = some (.cells C ty fz) → w'.heap[q.cb]? = some (.cells C ty fz) := by
    intro q C ty fz h1
    rw [hs.frame q.cb (Array.getElem?_eq_some_iff.1 h1).1 (hnone _)]
    exact h1
  have n0 := (hT.facts i (by omega)).2.2
  have n1 := hT.mono' (i := i + 1) (j := xs.length) (by omega) (Nat.le_refl _)
  have blk' : ∀ m, Fits xs st m (fun j => S j ∨ j = i) → ∀ b z, (st m).2.1.get b = some z → Vis st m (fun j => S j ∨ j = i) b → ∃ pl, ρ' b = some pl ∧ BR ν ρ' w' z pl := by
    intro m hm b z h1 h2
    by_cases hn : (st i).2.1.next ≤ b ∧ b < (st (i + 1)).2.1.next ∧ i < m
    · exact hh.blk b z (newb m (hf' m hm) b z h1 hn.1 hn.2.1 hn.2.2)
    · obtain ⟨pl, g1, ⟨C, ty, fz, g2, g3, g4⟩⟩ := hI.blk m (hf' m hm) b z h1 (oldv m b h2 hn)
      exact ⟨pl, hs.ext _ _ g1, ⟨C, ty, fz, keepC pl C ty fz g2, fun k c hc => (let ⟨u, q1, q2⟩ := g3 k c hc; ⟨u, q1, q2.mono hs.ext⟩), g4⟩⟩
  -- where old and new ones lie
  have lie : ∀ m, Fits xs st m (fun j => S j ∨ j = i) → ∀ b z q, (st m).2.1.get b = some z → Vis st m (fun j => S j ∨ j = i) b → ρ' b = some q →
      ((st i).2.1.next ≤ b ∧ b < (st (i + 1)).2.1.next ∧ i < m ∧ H'.get b = some z ∧ w.heap.size ≤ q.cb) ∨ (Vis st m S b ∧ ρ b = some q ∧ q.cb < w.heap.size) := by
    intro m hm b z q h1 h2 h3
    by_cases hn : (st i).2.1.next ≤ b ∧ b < (st (i + 1)).2.1.next ∧ i < m
    · left
      refine ⟨hn.1, hn.2.1, hn.2.2, newb m (hf' m hm) b z h1 hn.1 hn.2.1 hn.2.2, ?_⟩
      have hb := hI.void i hi hS b hn.1 hn.2.1
      rcases hs.place b q hb h3 with h4 | h4
      · exact h4
      · exact (hnone _ h4).elim
    · right
      obtain ⟨pl, g1, ⟨C, ty, fz, g2, _⟩⟩ := hI.blk m (hf' m hm) b z h1 (oldv m b h2 hn)
      have := hs.ext _ _ g1
      rw [h3] at this
      cases this
      exact ⟨oldv m b h2 hn, g1, (Array.getElem?_eq_some_iff.1 g2).1⟩
  refine ⟨ρ', ⟨fun j y hy hj k hk => ?_, blk', fun m hm b b' z z' q q' h1 h2 h3 h4 h5 h6 h7 h8 => ?_,
    fun j hj hn b h1 h2 => ?_, fun t m hm hfit' y hy => hI.env_step hT hD hx hS hs.ext hv hput hlt t m hm hfit' y hy, Emb.le_trans hI.ext hs.ext, fun b h1 h2 => ?_, Nat.le_trans hI.size hs.size, hs.os.trans hI.os, hs.tape.trans hI.tape, hs.output.trans hI.output,
    fun cb h1 h2 => ?_, fun m hm b z q h1 h2 h3 h4 h5 => ?_, fun b q h1 h2 => ?_, by rw [put_size]; exact hI.tmps, by rw [put_defers]; exact hI.defers⟩⟩
  · rcases hj with hj | hj
    · exact .inl (hI.closed j y hy hj k hk)
    · subst hj
      rw [hx] at hy
      cases hy
      exact .inl (hanc k hk)
  · rcases lie m hm b z q h2 h4 h7 with ⟨_, _, _, e1, e2⟩ | ⟨e1, e2, e3⟩ <;> rcases lie m hm b' z' q' h3 h5 h8 with ⟨_, _, _, f1, f2⟩ | ⟨f1, f2, f3⟩
    · exact hh.apart b b' z z' q q' h1 e1 f1 h6 h7 h8
    · omega
    · omega
    · exact hI.apart m (hf' m hm) b b' z z' q q' h1 h2 h3 e1 f1 h6 e2 f2
  · have hne : j ≠ i := fun e => hn (.inr e)
    have hb := hI.void j hj (fun hh => hn (.inl hh)) b h1 h2
    cases hq : ρ' b with
    | none => rfl
    | some q =>
      have hfr := hs.fresh b hb (by rw [hq]; simp)
      have hfr1 : (st i).2.1.next ≤ b := hfr.1
      rcases Nat.lt_or_ge j i with h5 | h5
      · have := hT.mono' (i := j + 1) (j := i) (by omega) (by omega); omega
      · have := hT.mono' (i := i + 1) (j := j) (by omega) (by omega); omega
  · cases hb : ρ b with
    | none =>
      have hfr := hs.fresh b hb h2
      have hfr1 : (st i).2.1.next ≤ b := hfr.1
      omega
    | some q => exact hI.fresh b h1 (by rw [hb]; simp)
  · rw [hs.frame cb (Nat.lt_of_lt_of_le h1 hI.size) (hnone _), hI.frame cb h1 h2]
  · rcases lie m hm b z q h1 h4 h3 with ⟨_, _, _, e1, e2⟩ | ⟨e1, e2, e3⟩
    · have := hI.size; omega
    · exact hI.owned m (hf' m hm) b z q h1 h2 e2 e1 h5
  · cases hb : ρ b with
    | none =>
      rcases hs.place b q hb h2 with h3 | h3
      · exact .inl (Nat.le_trans hI.size h3)
      · exact (hnone _ h3).elim
    | some q2 =>
      have := hs.ext _ _ hb
      rw [h2] at this
      cases this
      exact hI.place b q h1 hb

end
end Go.Sh
