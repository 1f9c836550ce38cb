/-
  STORE: what lies on its disk, on lists. Own work.
-/
import Derived.Test.YtafpfiadapabaaaDoorSTp
namespace Go.Proofs.YtafpfiadapabaaaDoor
set_option maxRecDepth 100000
def le2 (x : Nat) : List Int := [((x % 256 : Nat) : Int), ((x / 256 : Nat) : Int), 0, 0, 0, 0, 0, 0]
def hd (c z : Nat) : List Int := le2 c ++ (le2 z ++ List.replicate 48 0)
theorem hd_len (c z : Nat) : (hd c z).length = 64 := by simp [hd, le2]
theorem zsec_hd : zsec = (hd 0 0, false) := by decide
abbrev Hds := Option (Nat × Nat)
/-- What a head's sector tells: torn, or how often was saved, and how many bytes. -/
def IsH (s : Sec) : Hds → Prop
  | none => s.2 = true
  | some (c, z) => s = (hd c z, false) ∧ c < 60000 ∧ z ≤ 8000
def best1 (b : Nat × Nat × Nat) (a : Nat) : Hds → Nat × Nat × Nat
  | none => b
  | some (c, z) => if b.2.1 < c then (a, c, z) else b
def best (h0 h1 : Hds) : Nat × Nat × Nat := best1 (best1 (0, 0, 0) 0 h0) 1 h1
def InA (l : List Sec) (a : Nat) (S : List Int) : Prop := ∀ i, i * 64 < S.length → l[2 + a * 125 + i]? = some (pad (S.drop (i * 64)), false)
/-- The state that is kept. -/
structure Held (l : List Sec) (S : List Int) (h0 h1 : Hds) (a c : Nat) : Prop where
  s0 : ∃ s, l[0]? = some s ∧ IsH s h0
  s1 : ∃ s, l[1]? = some s ∧ IsH s h1
  b : best h0 h1 = (a, c, S.length)
  area : InA l a S
theorem best_le {h0 h1 : Hds} {a c z : Nat} (h : best h0 h1 = (a, c, z)) : a ≤ 1 ∧ (∀ c' z', h0 = some (c', z') → c' ≤ c) ∧ (∀ c' z', h1 = some (c', z') → c' ≤ c) ∧ (a = 0 → best1 (0, 0, 0) 0 h0 = (a, c, z)) ∧ (a = 1 → h1 = some (c, z) ∧ 0 < c) := by
  rcases h0 with _ | ⟨c0, z0⟩
  · rcases h1 with _ | ⟨c1, z1⟩
    · simp only [best, best1, Prod.mk.injEq] at h ⊢
      obtain ⟨rfl, rfl, rfl⟩ := h
      simp
    · by_cases e : 0 < c1
      · simp only [best, best1, e, if_true, Prod.mk.injEq] at h ⊢
        obtain ⟨rfl, rfl, rfl⟩ := h
        simp [e]
      · simp only [best, best1, e, if_false, Prod.mk.injEq] at h ⊢
        obtain ⟨rfl, rfl, rfl⟩ := h
        simp
        omega
  · by_cases e0 : 0 < c0
    · rcases h1 with _ | ⟨c1, z1⟩
      · simp only [best, best1, e0, if_true, Prod.mk.injEq] at h ⊢
        obtain ⟨rfl, rfl, rfl⟩ := h
        simp
      · by_cases e : c0 < c1
        · simp only [best, best1, e0, e, if_true, Prod.mk.injEq] at h ⊢
          obtain ⟨rfl, rfl, rfl⟩ := h
          simp
          omega
        · simp only [best, best1, e0, e, if_true, if_false, Prod.mk.injEq] at h ⊢
          obtain ⟨rfl, rfl, rfl⟩ := h
          simp
          omega
    · obtain rfl : c0 = 0 := by omega
      rcases h1 with _ | ⟨c1, z1⟩
      · simp only [best, best1, Nat.lt_irrefl, if_false, Prod.mk.injEq] at h ⊢
        obtain ⟨rfl, rfl, rfl⟩ := h
        simp
      · by_cases e : 0 < c1
        · simp only [best, best1, Nat.lt_irrefl, e, if_true, if_false, Prod.mk.injEq] at h ⊢
          obtain ⟨rfl, rfl, rfl⟩ := h
          simp [e]
        · simp only [best, best1, Nat.lt_irrefl, e, if_false, Prod.mk.injEq] at h ⊢
          obtain ⟨rfl, rfl, rfl⟩ := h
          simp
          omega
theorem best_size {h0 h1 : Hds} {a c z : Nat} {s0 s1 : Sec} (h : best h0 h1 = (a, c, z)) (i0 : IsH s0 h0) (i1 : IsH s1 h1) : z ≤ 8000 ∧ c < 60000 := by
  have key : ∀ (b : Nat × Nat × Nat) (a : Nat) (k : Hds) (s : Sec), IsH s k → b.2.2 ≤ 8000 ∧ b.2.1 < 60000 → (best1 b a k).2.2 ≤ 8000 ∧ (best1 b a k).2.1 < 60000 := by
    intro b a k s i hb
    rcases k with _ | ⟨c1, z1⟩
    · exact hb
    · by_cases e : b.2.1 < c1
      · simp only [best1, e, if_true]
        exact ⟨i.2.2, i.2.1⟩
      · simp only [best1, e, if_false]
        exact hb
  have h2 := key _ 1 h1 s1 i1 (key (0, 0, 0) 0 h0 s0 i0 (by simp))
  have h3 : best1 (best1 (0, 0, 0) 0 h0) 1 h1 = (a, c, z) := h
  rw [h3] at h2
  exact h2
section
variable {l l' : List Sec} {S S' : List Int} {h0 h1 : Hds} {a c : Nat}
theorem Held.le (T : Held l S h0 h1 a c) : a ≤ 1 := (best_le T.b).1
theorem Held.size (T : Held l S h0 h1 a c) : S.length ≤ 8000 ∧ c < 60000 := by
  obtain ⟨s0, _, i0⟩ := T.s0
  obtain ⟨s1, _, i1⟩ := T.s1
  exact best_size T.b i0 i1
/-- The other area is not the state's. -/
theorem Held.far (T : Held l S h0 h1 a c) (h : ∀ p, (p < 2 + (1 - a) * 125 ∨ 2 + (1 - a) * 125 + 125 ≤ p) → l'[p]? = l[p]?) : Held l' S h0 h1 a c := by
  have ha := T.le
  have hs := T.size.1
  refine ⟨by rw [h 0 (by omega)]; exact T.s0, by rw [h 1 (by omega)]; exact T.s1, T.b, fun i hi => ?_⟩
  rw [h _ ?_]
  · exact T.area i hi
  · have : a = 0 ∨ a = 1 := by omega
    rcases this with rfl | rfl
    · omega
    · omega
/-- The other head is the new one. -/
theorem Held.next (T : Held l S h0 h1 a c) (h : ∀ p, p ≠ 1 - a → l'[p]? = l[p]?) (hh : l'[1 - a]? = some (hd (c + 1) S'.length, false)) (hS : S'.length ≤ 8000) (hc : c + 1 < 60000) (hA : InA l (1 - a) S') : ∃ k0 k1, Held l' S' k0 k1 (1 - a) (c + 1) := by
  have ha := T.le
  obtain ⟨_, b0, b1, _⟩ := best_le T.b
  have hA' : InA l' (1 - a) S' := fun i hi => by rw [h _ (by omega)]; exact hA i hi
  have : a = 0 ∨ a = 1 := by omega
  rcases this with rfl | rfl
  · refine ⟨h0, some (c + 1, S'.length), by rw [h 0 (by omega)]; exact T.s0, ⟨_, hh, rfl, by omega, hS⟩, ?_, hA'⟩
    have e : (best1 (0, 0, 0) 0 h0).2.1 < c + 1 := by
      cases h0 with
      | none => simp [best1]
      | some x =>
        obtain ⟨c0, z0⟩ := x
        have := b0 c0 z0 rfl
        simp only [best1]
        split <;> simp <;> omega
    show best1 (best1 (0, 0, 0) 0 h0) 1 (some (c + 1, S'.length)) = _
    rw [best1, if_pos e]
  · refine ⟨some (c + 1, S'.length), h1, ⟨_, hh, rfl, by omega, hS⟩, by rw [h 1 (by omega)]; exact T.s1, ?_, hA'⟩
    show best1 (best1 (0, 0, 0) 0 (some (c + 1, S'.length))) 1 h1 = _
    have e : best1 (0, 0, 0) 0 (some (c + 1, S'.length)) = (0, c + 1, S'.length) := by simp [best1]
    rw [e]
    cases h1 with
    | none => rfl
    | some x =>
      obtain ⟨c1, z1⟩ := x
      have := b1 c1 z1 rfl
      simp only [best1]
      rw [if_neg (by omega)]
/-- The other head is torn. -/
theorem Held.torn (T : Held l S h0 h1 a c) (h : ∀ p, p ≠ 1 - a → l'[p]? = l[p]?) {s : Sec} (hh : l'[1 - a]? = some s) (ht : s.2 = true) : ∃ k0 k1, Held l' S k0 k1 a c := by
  have ha := T.le
  obtain ⟨_, b0, b1, e0, e1⟩ := best_le T.b
  have hA' : InA l' a S := fun i hi => by rw [h _ (by omega)]; exact T.area i hi
  have : a = 0 ∨ a = 1 := by omega
  rcases this with rfl | rfl
  · refine ⟨h0, none, by rw [h 0 (by omega)]; exact T.s0, ⟨_, hh, ht⟩, ?_, hA'⟩
    exact e0 rfl
  · obtain ⟨rfl, hc⟩ := e1 rfl
    refine ⟨none, some (c, S.length), ⟨_, hh, ht⟩, by rw [h 1 (by omega)]; exact T.s1, ?_, hA'⟩
    simp [best, best1, hc]
theorem held_fresh (n : Nat) (hn : 2 ≤ n) : Held (List.replicate n zsec) [] (some (0, 0)) (some (0, 0)) 0 0 :=
  ⟨⟨zsec, by rw [List.getElem?_replicate, if_pos (by omega)], zsec_hd, by omega, by omega⟩, ⟨zsec, by rw [List.getElem?_replicate, if_pos (by omega)], zsec_hd, by omega, by omega⟩, by simp [best, best1], fun i hi => by simp at hi⟩
end
/-! ## A Save, on lists -/
/-- All that was written is safe. -/
structure Quiet (d : Dk) : Prop where
  off : d.off = false
  wr : d.wr = []
  eq : d.now = d.safe
/-- The power went. -/
structure Gone (d : Dk) : Prop where
  off : d.off = true
  wr : d.wr = []
  eq : d.now = d.safe
  left : d.left = 0
structure Wrt (d0 : Dk) (a : Nat) (S : List Int) (k : Nat) (d : Dk) : Prop where
  safe : d.safe = d0.safe
  off : d.off = false
  wrl : d.wr.length ≤ k
  wrat : ∀ x ∈ d.wr, 2 + a * 125 ≤ x.1 ∧ x.1 < 2 + a * 125 + 125
  far : ∀ p, (p < 2 + a * 125 ∨ 2 + a * 125 + 125 ≤ p) → d.now[p]? = d0.now[p]?
  cons : ∀ p, (∀ x ∈ d.wr, p ≠ x.1) → d.now[p]? = d.safe[p]?
  len : d.now.length = d.safe.length
  done : ∀ j, j < k → j * 64 < S.length → d.now[2 + a * 125 + j]? = some (pad (S.drop (j * 64)), false)
  left : d0.left = 0 → d.left = 0
  sm : d.left < 9223372036854775808
theorem Quiet.wrt {d : Dk} (Q : Quiet d) (a : Nat) (S : List Int) (hm : d.left < 9223372036854775808) : Wrt d a S 0 d :=
  ⟨rfl, Q.off, by simp [Q.wr], fun x hx => absurd hx (by simp [Q.wr]), fun _ _ => rfl, fun p _ => by rw [Q.eq], by rw [Q.eq], fun j hj => absurd hj (Nat.not_lt_zero _), fun h => h, hm⟩
theorem Wrt.put {d0 d : Dk} {a k : Nat} {S : List Int} (W : Wrt d0 a S k d) (hk : k < 125) (hp : 2 + a * 125 + k < d.now.length) : Wrt d0 a S (k + 1) { d with wr := d.wr ++ [(2 + a * 125 + k, pad (S.drop (k * 64)))], left := d.left - 1, now := d.now.set (2 + a * 125 + k) (pad (S.drop (k * 64)), false) } := by
  refine ⟨W.safe, W.off, ?_, ?_, ?_, ?_, ?_, ?_, ?_, ?_⟩
  · simp only [List.length_append, List.length_cons, List.length_nil]
    have := W.wrl
    omega
  · intro x hx
    rcases List.mem_append.1 hx with hx | hx
    · exact W.wrat x hx
    · rw [List.mem_singleton.1 hx]
      simp only
      omega
  · intro p hp
    simp only
    rw [List.getElem?_set_ne (by omega)]
    exact W.far p hp
  · intro p hp
    have hne := hp (2 + a * 125 + k, pad (S.drop (k * 64))) (List.mem_append.2 (.inr (List.mem_singleton.2 rfl)))
    simp only at hne ⊢
    rw [List.getElem?_set_ne (Ne.symm hne)]
    exact W.cons p (fun x hx => hp x (List.mem_append.2 (.inl hx)))
  · simp only [List.length_set]
    exact W.len
  · intro j hj hl
    simp only
    by_cases e : j = k
    · subst e
      rw [List.getElem?_set_self hp]
    · rw [List.getElem?_set_ne (by omega)]
      exact W.done j (by omega) hl
  · intro h
    have := W.left h
    simp only
    omega
  · have := W.sm
    simp only
    omega
theorem syn_get {l : List Wri} {nw s : List Sec} (hl : nw.length = s.length) (p : Nat) : ∀ j, ((syn l nw s j)[p]? = s[p]? ∨ (syn l nw s j)[p]? = nw[p]?) ∧ ((∃ i x, i < j ∧ l[i]? = some x ∧ x.1 = p) → (syn l nw s j)[p]? = nw[p]?)
  | 0 => ⟨.inl rfl, fun ⟨i, _, h, _⟩ => absurd h (Nat.not_lt_zero _)⟩
  | j + 1 => by
    obtain ⟨h1, h2⟩ := syn_get hl p j
    rw [syn]
    cases hx : l[j]? with
    | none =>
      refine ⟨h1, fun ⟨i, x, hi, hix, hp⟩ => h2 ⟨i, x, ?_, hix, hp⟩⟩
      rcases Nat.lt_or_ge i j with h | h
      · exact h
      · obtain rfl : i = j := by omega
        rw [hx] at hix
        cases hix
    | some y =>
      simp only
      have hlen := @syn_len l nw s j
      cases hy : nw[y.1]? with
      | none =>
        refine ⟨h1, fun ⟨i, x, hi, hix, hp⟩ => ?_⟩
        rcases Nat.lt_or_ge i j with h | h
        · exact h2 ⟨i, x, h, hix, hp⟩
        · obtain rfl : i = j := by omega
          rw [hx] at hix
          cases hix
          rw [hp] at hy
          have e2 : (syn l nw s i)[p]? = none := by
            rw [List.getElem?_eq_none_iff] at hy ⊢
            omega
          simp only [hy]
          exact e2
      | some z =>
        simp only
        by_cases e : y.1 = p
        · subst e
          have hlt : y.1 < nw.length := (List.getElem?_eq_some_iff.1 hy).1
          rw [List.getElem?_set_self (by omega), hy]
          exact ⟨.inr rfl, fun _ => rfl⟩
        · rw [List.getElem?_set_ne e]
          refine ⟨h1, fun ⟨i, x, hi, hix, hp⟩ => ?_⟩
          rcases Nat.lt_or_ge i j with h | h
          · exact h2 ⟨i, x, h, hix, hp⟩
          · obtain rfl : i = j := by omega
            rw [hx] at hix
            cases hix
            exact absurd hp e
theorem syn_all {l : List Wri} {nw s : List Sec} (hl : nw.length = s.length) (h : ∀ p, (∀ x ∈ l, p ≠ x.1) → nw[p]? = s[p]?) : syn l nw s l.length = nw := by
  refine List.ext_getElem? (fun p => ?_)
  obtain ⟨h1, h2⟩ := syn_get hl (l := l) p l.length
  by_cases e : ∃ x ∈ l, p = x.1
  · obtain ⟨x, hx, hp⟩ := e
    obtain ⟨i, hi, rfl⟩ := List.getElem_of_mem hx
    exact h2 ⟨i, l[i], hi, List.getElem?_eq_getElem hi, hp.symm⟩
  · have h3 := h p (fun x hx hp => e ⟨x, hx, hp⟩)
    rcases h1 with h1 | h1
    · rw [h1, h3]
    · exact h1
theorem Wrt.safe_now {d0 d : Dk} {a k : Nat} {S : List Int} (W : Wrt d0 a S k d) : syn d.wr d.now d.safe d.wr.length = d.now := syn_all W.len W.cons
/-- The power goes while an area is written. -/
theorem Held.cut {d0 d : Dk} {S S' : List Int} {h0 h1 : Hds} {a c k : Nat} (T : Held d0.now S h0 h1 a c) (Q : d0.now = d0.safe) (W : Wrt d0 (1 - a) S' k d) (ks : List Bool) (t : Int) {l : List Wri} (hl : ∀ x ∈ l, 2 + (1 - a) * 125 ≤ x.1 ∧ x.1 < 2 + (1 - a) * 125 + 125) (j : Nat) : Held (crs ks t l d.safe j) S h0 h1 a c := by
  refine T.far (fun p hp => ?_)
  rw [crs_far (fun x hx he => by have := hl x hx; omega), W.safe, Q]
/-- The power goes while a head is written: there it is, or not, or torn. -/
theorem Held.cutHead {l : List Sec} {S S' : List Int} {h0 h1 : Hds} {a c : Nat} (T : Held l S h0 h1 a c) (hn : 2 ≤ l.length) (hA : InA l (1 - a) S') (hS : S'.length ≤ 8000) (hc : c + 1 < 60000) (ks : List Bool) (t : Int) : (∃ k0 k1, Held (crs ks t [(1 - a, hd (c + 1) S'.length)] l 1) S k0 k1 a c) ∨ ∃ k0 k1, Held (crs ks t [(1 - a, hd (c + 1) S'.length)] l 1) S' k0 k1 (1 - a) (c + 1) := by
  have e : crs ks t [(1 - a, hd (c + 1) S'.length)] l 1 = stepC ks t 0 (1 - a, hd (c + 1) S'.length) l := rfl
  have hlt : 1 - a < l.length := by omega
  rw [e, stepC]
  split
  · rw [List.getElem?_eq_getElem hlt]
    simp only
    exact .inl (T.torn (fun p hp => List.getElem?_set_ne (Ne.symm hp)) (List.getElem?_set_self hlt) rfl)
  · split
    · exact .inr (T.next (fun p hp => List.getElem?_set_ne (Ne.symm hp)) (List.getElem?_set_self hlt) hS hc hA)
    · exact .inl ⟨_, _, T⟩
end Go.Proofs.YtafpfiadapabaaaDoor
