/-
  KNOWNESTS: seals, boxes, signatures, lists, one in the other: what is innermost is known just if all keys on the way are. Own work.
-/
import Derived.Test.YtikbeagcflofhaaKMw
import Derived.Deep.Grids
namespace Go.Proofs.Ytikbeagcflofhaa
open Go.RowKit Go.Maps
set_option maxRecDepth 100000
structure Rd where
  q : Nat
  k : Nat
  p : Nat
  d : Nat
  b : Nat
  a : Nat
def wrapT (q k p d b : Nat) : Tm := if q = 0 then (6, 0, [(k : Int), (b : Int)]) else if q = 1 then (7, 0, [(p : Int), (d : Int), (b : Int)]) else if q = 2 then (8, 0, [(k : Int), (b : Int)]) else (9, 0, [(d : Int), (b : Int)])
structure Rok (L : List Tm) (j : Nat) (r : Rd) : Prop where
  k : L[r.k]? = some (1, 100 + (j : Int), [])
  p : L[r.p]? = some (5, 0, [(r.k : Int)])
  d : L[r.d]? = some (1, 1000 + (j : Int), [])
  a : L[r.a]? = some (wrapT r.q r.k r.p r.d r.b)
theorem Rok.mono {L L' : List Tm} {j : Nat} {r : Rd} (h : Rok L j r) (hm : ∀ (i : Nat) (u : Tm), L[i]? = some u → L'[i]? = some u) : Rok L' j r := ⟨hm _ _ h.k, hm _ _ h.p, hm _ _ h.d, hm _ _ h.a⟩
def lastA (x0 : Nat) (rs : List Rd) : Nat := match rs.getLast? with
  | none => x0
  | some r => r.a
structure Nest (L : List Tm) (x0 : Nat) (rs : List Rd) : Prop where
  x : L[x0]? = some (1, 0, [])
  ok : ∀ (j : Nat) (r : Rd), rs[j]? = some r → Rok L j r
  first : ∀ r : Rd, rs[0]? = some r → r.b = x0
  step : ∀ (j : Nat) (r s : Rd), rs[j]? = some r → rs[j + 1]? = some s → s.b = r.a
  cov : ∀ i, i < L.length → i = x0 ∨ ∃ (j : Nat) (r : Rd), rs[j]? = some r ∧ (i = r.k ∨ i = r.p ∨ i = r.d ∨ i = r.a)
theorem Nest.start {L : List Tm} {x0 : Nat} (h : L[x0]? = some (1, 0, [])) (hc : ∀ i, i < L.length → i = x0) : Nest L x0 [] := ⟨h, fun j r hj => (by simp at hj), fun r hr => (by simp at hr), fun j r s hj => (by simp at hj), fun i hi => .inl (hc i hi)⟩
theorem snoc_at {rs : List Rd} {r s : Rd} {j : Nat} (h : (rs ++ [r])[j]? = some s) : rs[j]? = some s ∨ (j = rs.length ∧ s = r) := by
  rcases Nat.lt_or_ge j rs.length with h1 | h1
  · rw [List.getElem?_append_left h1] at h
    exact .inl h
  · rw [List.getElem?_append_right h1] at h
    have : j - rs.length = 0 := by
      rcases Nat.eq_zero_or_pos (j - rs.length) with h2 | h2
      · exact h2
      · rw [List.getElem?_eq_none (by simp; omega)] at h
        cases h
    rw [this] at h
    cases h
    exact .inr ⟨by omega, rfl⟩
theorem at_lt {rs : List Rd} {j : Nat} {r : Rd} (h : rs[j]? = some r) : j < rs.length := (List.getElem?_eq_some_iff.1 h).1
theorem lastA_at {x0 : Nat} {rs : List Rd} {j : Nat} {r : Rd} (h : rs[j]? = some r) (hj : j + 1 = rs.length) : lastA x0 rs = r.a := by
  unfold lastA
  rw [List.getLast?_eq_getElem?, show rs.length - 1 = j by omega, h]
theorem Nest.snoc {L L' : List Tm} {x0 : Nat} {rs : List Rd} {r : Rd} (N : Nest L x0 rs) (hm : ∀ (i : Nat) (u : Tm), L[i]? = some u → L'[i]? = some u) (hr : Rok L' rs.length r) (hb : r.b = lastA x0 rs) (hc : ∀ i, i < L'.length → i < L.length ∨ i = r.k ∨ i = r.p ∨ i = r.d ∨ i = r.a) : Nest L' x0 (rs ++ [r]) := by
  refine ⟨hm _ _ N.x, fun j s hj => ?_, fun s hs => ?_, fun j s t hs ht => ?_, fun i hi => ?_⟩
  · rcases snoc_at hj with h | ⟨rfl, rfl⟩
    · exact (N.ok j s h).mono hm
    · exact hr
  · rcases snoc_at hs with h | ⟨h0, rfl⟩
    · exact N.first s h
    · rw [hb]
      have : rs = [] := List.eq_nil_of_length_eq_zero h0.symm
      subst this
      rfl
  · rcases snoc_at ht with h | ⟨h0, rfl⟩
    · rcases snoc_at hs with h2 | ⟨h2, _⟩
      · exact N.step j s t h2 h
      · have := at_lt h
        omega
    · rcases snoc_at hs with h2 | ⟨h2, _⟩
      · rw [hb]
        exact lastA_at h2 h0
      · omega
  · rcases hc i hi with h | h
    · rcases N.cov i h with h | ⟨j, s, hs, h⟩
      · exact .inl h
      · exact .inr ⟨j, s, by rw [List.getElem?_append_left (at_lt hs)]; exact hs, h⟩
    · exact .inr ⟨rs.length, r, by simp, h⟩
theorem lastA_snoc (x0 : Nat) (rs : List Rd) (r : Rd) : lastA x0 (rs ++ [r]) = r.a := by simp [lastA]
/-! what is where -/
def nm (L : List Tm) (i : Nat) : Int := (tmAt L i).2.1
theorem at_nm {L : List Tm} {i : Nat} {k n : Int} {xs : List Int} (h : L[i]? = some (k, n, xs)) : nm L i = n := by
  unfold nm tmAt
  rw [List.getD_eq_getElem?_getD, h]
  rfl
section
variable {L : List Tm} {x0 : Nat} {rs : List Rd}
theorem Rok.kd_k {j : Nat} {r : Rd} (h : Rok L j r) : kd L r.k = 1 ∧ nm L r.k = 100 + (j : Int) := ⟨(at_kd h.k).1, at_nm h.k⟩
theorem Rok.kd_p {j : Nat} {r : Rd} (h : Rok L j r) : kd L r.p = 5 ∧ ar L r.p = [r.k] := ⟨(at_kd h.p).1, by rw [(at_kd h.p).2]; simp⟩
theorem Rok.kd_d {j : Nat} {r : Rd} (h : Rok L j r) : kd L r.d = 1 ∧ nm L r.d = 1000 + (j : Int) := ⟨(at_kd h.d).1, at_nm h.d⟩
theorem Rok.kd_a {j : Nat} {r : Rd} (h : Rok L j r) : (r.q = 0 ∧ kd L r.a = 6 ∧ ar L r.a = [r.k, r.b]) ∨ (r.q = 1 ∧ kd L r.a = 7 ∧ ar L r.a = [r.p, r.d, r.b]) ∨ (r.q = 2 ∧ kd L r.a = 8 ∧ ar L r.a = [r.k, r.b]) ∨ (2 < r.q ∧ kd L r.a = 9 ∧ ar L r.a = [r.d, r.b]) := by
  have ha := h.a
  unfold wrapT at ha
  by_cases h0 : r.q = 0
  · rw [if_pos h0] at ha
    exact .inl ⟨h0, (at_kd ha).1, by rw [(at_kd ha).2]; simp⟩
  · rw [if_neg h0] at ha
    by_cases h1 : r.q = 1
    · rw [if_pos h1] at ha
      exact .inr (.inl ⟨h1, (at_kd ha).1, by rw [(at_kd ha).2]; simp⟩)
    · rw [if_neg h1] at ha
      by_cases h2 : r.q = 2
      · rw [if_pos h2] at ha
        exact .inr (.inr (.inl ⟨h2, (at_kd ha).1, by rw [(at_kd ha).2]; simp⟩))
      · rw [if_neg h2] at ha
        exact .inr (.inr (.inr ⟨by omega, (at_kd ha).1, by rw [(at_kd ha).2]; simp⟩))
theorem Rok.ge6 {j : Nat} {r : Rd} (h : Rok L j r) : 6 ≤ kd L r.a ∧ r.b ∈ ar L r.a := by
  rcases h.kd_a with ⟨_, h1, h2⟩ | ⟨_, h1, h2⟩ | ⟨_, h1, h2⟩ | ⟨_, h1, h2⟩ <;> rw [h1, h2] <;> simp
theorem Rok.lt {j : Nat} {r : Rd} (hW : Wf L) (h : Rok L j r) : r.b < r.a := ar_lt hW (List.getElem?_eq_some_iff.1 h.a).1 _ h.ge6.2
theorem Nest.mono (hW : Wf L) (N : Nest L x0 rs) : ∀ (n i : Nat) (r s : Rd), rs[i]? = some r → rs[i + 1 + n]? = some s → r.a ≤ s.b := by
  intro n
  induction n with
  | zero => exact fun i r s hr hs => Nat.le_of_eq (N.step i r s hr hs).symm
  | succ n ih =>
    intro i r s hr hs
    obtain ⟨t, ht⟩ : ∃ t, rs[i + 1 + n]? = some t := ⟨_, List.getElem?_eq_getElem (by have := at_lt hs; omega)⟩
    have h1 := ih i r t hr ht
    have h2 := (N.ok _ t ht).lt hW
    have h3 := N.step _ t s ht hs
    omega
theorem Nest.mono' (hW : Wf L) (N : Nest L x0 rs) {i j : Nat} {r s : Rd} (h : i < j) (hr : rs[i]? = some r) (hs : rs[j]? = some s) : r.a ≤ s.b := by
  obtain ⟨n, rfl⟩ : ∃ n, j = i + 1 + n := ⟨j - (i + 1), by omega⟩
  exact N.mono hW n i r s hr hs
/-- What is within: the innermost, or the one ahead of it. -/
theorem Nest.bOf (N : Nest L x0 rs) {j : Nat} {r : Rd} (h : rs[j]? = some r) : (j = 0 ∧ r.b = x0) ∨ ∃ (i : Nat) (s : Rd), j = i + 1 ∧ rs[i]? = some s ∧ r.b = s.a := by
  cases j with
  | zero => exact .inl ⟨rfl, N.first r h⟩
  | succ j =>
    obtain ⟨s, hs⟩ : ∃ s, rs[j]? = some s := ⟨_, List.getElem?_eq_getElem (by have := at_lt h; omega)⟩
    exact .inr ⟨j, s, rfl, hs, N.step j s r hs h⟩
theorem Nest.kdB (N : Nest L x0 rs) {j : Nat} {r : Rd} (h : rs[j]? = some r) : (kd L r.b = 1 ∧ nm L r.b = 0) ∨ 6 ≤ kd L r.b := by
  rcases N.bOf h with ⟨_, e⟩ | ⟨i, s, _, hs, e⟩
  · rw [e]
    exact .inl ⟨(at_kd N.x).1, at_nm N.x⟩
  · rw [e]
    exact .inr (N.ok i s hs).ge6.1
/-! what stays hidden, if the key of the round m is not known -/
def Out (rs : List Rd) (m : Nat) (r : Rd) (i : Nat) : Prop := (∃ (j : Nat) (s : Rd), j ≤ m ∧ rs[j]? = some s ∧ i = s.b) ∨ i = r.k ∨ i = r.p ∨ i = r.d
variable {m : Nat} {r : Rd}
theorem Nest.high (hW : Wf L) (N : Nest L x0 rs) (hr : rs[m]? = some r) {i : Nat} (hi : r.a ≤ i) (hk : 6 ≤ kd L i) : ¬ Out rs m r i := by
  rintro (⟨j, s, hj, hs, rfl⟩ | rfl | rfl | rfl)
  · have h1 := (N.ok m r hr).lt hW
    rcases Nat.lt_or_ge j m with h | h
    · have h2 := N.mono' hW h hs hr
      have h3 := (N.ok j s hs).lt hW
      omega
    · obtain rfl : j = m := by omega
      rw [hr] at hs
      cases hs
      omega
  · rw [(N.ok m r hr).kd_k.1] at hk; omega
  · rw [(N.ok m r hr).kd_p.1] at hk; omega
  · rw [(N.ok m r hr).kd_d.1] at hk; omega
theorem Nest.atom (N : Nest L x0 rs) (hr : rs[m]? = some r) {i : Nat} (h1 : kd L i = 1) (h2 : nm L i ≠ 0) (h3 : nm L i ≠ 100 + (m : Int)) (h4 : nm L i ≠ 1000 + (m : Int)) : ¬ Out rs m r i := by
  rintro (⟨j, s, hj, hs, rfl⟩ | rfl | rfl | rfl)
  · rcases N.kdB hs with ⟨_, h⟩ | h
    · exact h2 h
    · omega
  · exact h3 (N.ok m r hr).kd_k.2
  · rw [(N.ok m r hr).kd_p.1] at h1; omega
  · exact h4 (N.ok m r hr).kd_d.2
theorem kd_ltL {i : Nat} {c : Int} (h : kd L i = c) (hc : c ≠ 0) : i < L.length := by
  rcases Nat.lt_or_ge i L.length with h1 | h1
  · exact h1
  · unfold kd tmAt at h
    rw [List.getD_eq_getElem?_getD, List.getElem?_eq_none h1] at h
    exact absurd h.symm hc
/-- What is opened is of a round behind m, or of m itself. -/
theorem Nest.opens (N : Nest L x0 rs) (hr : rs[m]? = some r) {i : Nat} {c : Int} (h : ¬ Out rs m r i) (hk : kd L i = c) (hc : 6 ≤ c) : ∃ (j : Nat) (s : Rd), m ≤ j ∧ rs[j]? = some s ∧ i = s.a := by
  have hl : i < L.length := kd_ltL hk (by omega)
  rcases N.cov i hl with rfl | ⟨j, s, hs, h1⟩
  · rw [(at_kd N.x).1] at hk; omega
  · have ho := N.ok j s hs
    rcases h1 with rfl | rfl | rfl | rfl
    · rw [ho.kd_k.1] at hk; omega
    · rw [ho.kd_p.1] at hk; omega
    · rw [ho.kd_d.1] at hk; omega
    · refine ⟨j, s, ?_, hs, rfl⟩
      rcases Nat.lt_or_ge j m with h2 | h2
      · exfalso
        obtain ⟨t, ht⟩ : ∃ t, rs[j + 1]? = some t := ⟨_, List.getElem?_eq_getElem (by have := at_lt hr; omega)⟩
        exact h (.inl ⟨j + 1, t, h2, ht, (N.step j s t hs ht).symm⟩)
      · exact h2
theorem Nest.hidB (hW : Wf L) (N : Nest L x0 rs) (hr : rs[m]? = some r) {j : Nat} {s : Rd} (hs : rs[j]? = some s) (hj : m < j) : ¬ Out rs m r s.b := by
  have h1 := N.mono' hW hj hr hs
  rcases N.bOf hs with ⟨h, _⟩ | ⟨i, t, _, ht, e⟩
  · omega
  · rw [e]
    exact N.high hW hr (by omega) (N.ok i t ht).ge6.1
theorem Nest.hidden (hW : Wf L) (N : Nest L x0 rs) (hlen : rs.length ≤ 40) (hr : rs[m]? = some r) (hq : r.q ≤ 1) {S : Nat → Prop} (hS : ∀ i, S i → i = lastA x0 rs ∨ ∃ (j : Nat) (s : Rd), rs[j]? = some s ∧ j ≠ m ∧ i = s.k) : ¬ Kn L S x0 := by
  have hml := at_lt hr
  have hx : Out rs m r x0 := by
    obtain ⟨s, hs⟩ : ∃ s, rs[0]? = some s := ⟨_, List.getElem?_eq_getElem (by omega)⟩
    exact .inl ⟨0, s, Nat.zero_le _, hs, (N.first s hs).symm⟩
  have hkm : Out rs m r r.k := .inr (.inl rfl)
  have hdm : Out rs m r r.d := .inr (.inr (.inr rfl))
  have ro := N.ok m r hr
  intro h
  refine Kn.closed (K := fun i => ¬ Out rs m r i) ?_ ?_ ?_ ?_ ?_ ?_ ?_ h hx
  · intro i hsi hl
    rcases hS i hsi with rfl | ⟨j, s, hs, hj, rfl⟩
    · obtain ⟨t, ht⟩ : ∃ t, rs[rs.length - 1]? = some t := ⟨_, List.getElem?_eq_getElem (by omega)⟩
      rw [lastA_at ht (by omega)]
      refine N.high hW hr ?_ (N.ok _ t ht).ge6.1
      rcases Nat.lt_or_ge m (rs.length - 1) with h1 | h1
      · have h2 := N.mono' hW h1 hr ht
        have h3 := (N.ok _ t ht).lt hW
        omega
      · obtain rfl : m = rs.length - 1 := by omega
        rw [hr] at ht
        cases ht
        exact Nat.le_refl _
    · have so := N.ok j s hs
      have := at_lt hs
      exact N.atom hr so.kd_k.1 (by rw [so.kd_k.2]; omega) (by rw [so.kd_k.2]; omega) (by rw [so.kd_k.2]; omega)
  · intro i hl hk ha ho
    rcases ho with ⟨j, s, hj, hs, rfl⟩ | rfl | rfl | rfl
    · rcases N.bOf hs with ⟨_, e⟩ | ⟨i', t, hi', ht, e⟩
      · rw [e] at hk
        exact hk (at_kd N.x).1
      · rw [e] at ha
        exact ha t.b (N.ok i' t ht).ge6.2 (.inl ⟨i', t, by omega, ht, rfl⟩)
    · exact hk ro.kd_k.1
    · exact ha r.k (by rw [ro.kd_p.2]; simp) hkm
    · exact hk ro.kd_d.1
  · intro i x hi hk hxa
    obtain ⟨j, s, hj, hs, rfl⟩ := N.opens hr hi hk (by decide)
    have so := N.ok j s hs
    rcases so.kd_a with ⟨_, h1, h2⟩ | ⟨_, h1, h2⟩ | ⟨_, h1, h2⟩ | ⟨h0, h1, h2⟩
    · rw [h1] at hk; cases hk
    · rw [h1] at hk; cases hk
    · rw [h1] at hk; cases hk
    · have hjm : m < j := by
        rcases Nat.lt_or_ge m j with h | h
        · exact h
        · obtain rfl : j = m := by omega
          rw [hr] at hs
          cases hs
          omega
      rw [h2] at hxa
      simp only [List.mem_cons, List.not_mem_nil, or_false] at hxa
      have := at_lt hs
      rcases hxa with rfl | rfl
      · exact N.atom hr so.kd_d.1 (by rw [so.kd_d.2]; omega) (by rw [so.kd_d.2]; omega) (by rw [so.kd_d.2]; omega)
      · exact N.hidB hW hr hs hjm
  · intro i x hi hk hxa
    obtain ⟨j, s, hj, hs, rfl⟩ := N.opens hr hi hk (by decide)
    have so := N.ok j s hs
    rcases so.kd_a with ⟨_, h1, h2⟩ | ⟨_, h1, h2⟩ | ⟨h0, h1, h2⟩ | ⟨_, h1, h2⟩
    · rw [h1] at hk; cases hk
    · rw [h1] at hk; cases hk
    · have hjm : m < j := by
        rcases Nat.lt_or_ge m j with h | h
        · exact h
        · obtain rfl : j = m := by omega
          rw [hr] at hs
          cases hs
          omega
      rw [h2] at hxa
      simp only [List.drop_succ_cons, List.drop_zero, List.mem_cons, List.not_mem_nil, or_false] at hxa
      rw [hxa]
      exact N.hidB hW hr hs hjm
    · rw [h1] at hk; cases hk
  · intro i x hi hk hk0 hxa
    obtain ⟨j, s, hj, hs, rfl⟩ := N.opens hr hi hk (by decide)
    have so := N.ok j s hs
    rcases so.kd_a with ⟨_, h1, h2⟩ | ⟨_, h1, h2⟩ | ⟨_, h1, h2⟩ | ⟨_, h1, h2⟩
    · rw [h2] at hxa hk0
      simp only [List.drop_succ_cons, List.drop_zero, List.mem_cons, List.not_mem_nil, or_false, List.getD_cons_zero] at hxa hk0
      have hjm : m < j := by
        rcases Nat.lt_or_ge m j with h | h
        · exact h
        · obtain rfl : j = m := by omega
          rw [hr] at hs
          cases hs
          exact absurd hkm hk0
      rw [hxa]
      exact N.hidB hW hr hs hjm
    · rw [h1] at hk; cases hk
    · rw [h1] at hk; cases hk
    · rw [h1] at hk; cases hk
  · intro i x hi hk hk0 hxa
    obtain ⟨j, s, hj, hs, rfl⟩ := N.opens hr hi hk (by decide)
    have so := N.ok j s hs
    rcases so.kd_a with ⟨_, h1, h2⟩ | ⟨_, h1, h2⟩ | ⟨_, h1, h2⟩ | ⟨_, h1, h2⟩
    · rw [h1] at hk; cases hk
    · rw [h2] at hxa hk0
      simp only [List.drop_succ_cons, List.drop_zero, List.mem_cons, List.not_mem_nil, or_false, List.getD_cons_zero, List.getD_cons_succ] at hxa hk0
      have hjm : m < j := by
        rcases Nat.lt_or_ge m j with h | h
        · exact h
        · obtain rfl : j = m := by omega
          rw [hr] at hs
          cases hs
          exact absurd hdm hk0
      rw [hxa]
      exact N.hidB hW hr hs hjm
    · rw [h1] at hk; cases hk
    · rw [h1] at hk; cases hk
  · intro i x hi hk h5 hk0 hxa
    obtain ⟨j, s, hj, hs, rfl⟩ := N.opens hr hi hk (by decide)
    have so := N.ok j s hs
    rcases so.kd_a with ⟨_, h1, h2⟩ | ⟨_, h1, h2⟩ | ⟨_, h1, h2⟩ | ⟨_, h1, h2⟩
    · rw [h1] at hk; cases hk
    · rw [h2] at hxa hk0
      simp only [List.drop_succ_cons, List.drop_zero, List.mem_cons, List.not_mem_nil, or_false, List.getD_cons_zero] at hxa hk0
      rw [so.kd_p.2, List.getD_cons_zero] at hk0
      have hjm : m < j := by
        rcases Nat.lt_or_ge m j with h | h
        · exact h
        · obtain rfl : j = m := by omega
          rw [hr] at hs
          cases hs
          exact absurd hkm hk0
      rw [hxa]
      exact N.hidB hW hr hs hjm
    · rw [h1] at hk; cases hk
    · rw [h1] at hk; cases hk
/-- All keys known: what is innermost is. -/
theorem Nest.shown (N : Nest L x0 rs) {S : Nat → Prop} (hz : S (lastA x0 rs)) (hS : ∀ (j : Nat) (s : Rd), rs[j]? = some s → s.q ≤ 1 → S s.k) : Kn L S x0 := by
  have hop : ∀ (j : Nat) (s : Rd), rs[j]? = some s → Kn L S s.a → Kn L S s.b := by
    intro j s hs hk
    have so := N.ok j s hs
    have hkk : s.q ≤ 1 → Kn L S s.k := fun h => .given _ (hS j s hs h) (kd_ltL so.kd_k.1 (by decide))
    rcases so.kd_a with ⟨h0, h1, h2⟩ | ⟨h0, h1, h2⟩ | ⟨h0, h1, h2⟩ | ⟨h0, h1, h2⟩
    · exact .sealed s.a s.b hk h1 (by rw [h2]; exact hkk (by omega)) (by rw [h2]; simp)
    · exact .box2 s.a s.b hk h1 (by rw [h2]; exact so.kd_p.1) (by rw [h2, List.getD_cons_zero, so.kd_p.2, List.getD_cons_zero]; exact hkk (by omega)) (by rw [h2]; simp)
    · exact .sig s.a s.b hk h1 (by rw [h2]; simp)
    · exact .list s.a s.b hk h1 (by rw [h2]; simp)
  have hdown : ∀ (t j : Nat) (s : Rd), rs[j]? = some s → j + t + 1 = rs.length → Kn L S s.a := by
    intro t
    induction t with
    | zero =>
      intro j s hs hj
      exact .given _ (by rw [← lastA_at (x0 := x0) hs (by omega)]; exact hz) (List.getElem?_eq_some_iff.1 (N.ok j s hs).a).1
    | succ t ih =>
      intro j s hs hj
      obtain ⟨u, hu⟩ : ∃ u, rs[j + 1]? = some u := ⟨_, List.getElem?_eq_getElem (by omega)⟩
      rw [← N.step j s u hs hu]
      exact hop _ u hu (ih (j + 1) u hu (by omega))
  cases hr : rs with
  | nil =>
    subst hr
    exact .given _ hz (List.getElem?_eq_some_iff.1 N.x).1
  | cons s l =>
    have h0 : rs[0]? = some s := by rw [hr]; rfl
    rw [← N.first s h0]
    exact hop 0 s h0 (hdown (rs.length - 1) 0 s h0 (by rw [hr]; simp))
end
end Go.Proofs.Ytikbeagcflofhaa
namespace Go.Proofs.Ytikbeagcflofhaa
open Go.RowKit Go.Maps Go.ChangeShapes Go.WideShapes Go.Deep
set_option maxRecDepth 100000
/-- A term made. -/
structure MkT (L : List Tm) (t : Tm) (i : Nat) (L' : List Tm) : Prop where
  put : put L t = ((i : Int), 0, L')
  at' : L'[i]? = some t
  keep : ∀ (j : Nat) (u : Tm), L[j]? = some u → L'[j]? = some u
  le : L.length ≤ L'.length
  le1 : L'.length ≤ L.length + 1
  cov : ∀ j, j < L'.length → j < L.length ∨ j = i
theorem mk_ex {L : List Tm} {t : Tm} (h : shape t = 0) (hf : fitsIn L.length t) (hr : L.length < 1048576) : ∃ i L', MkT L t i L' := by
  refine ⟨plc L t, ext L t, put_good h hf hr, plc_at L t, fun j u hu => ext_at hu t, ext_le L t, ext_le1 L t, fun j hj => ?_⟩
  unfold plc ext at *
  split
  · rename_i h1
    rw [if_pos h1] at hj
    exact .inl hj
  · rename_i h1
    rw [if_neg h1] at hj
    simp at hj
    omega
theorem sh_atom (n : Int) (h : 0 ≤ n) : shape (1, n, []) = 0 := by
  unfold shape rightOf leastOf mostOf
  simp
  omega
theorem sh_pub (x : Int) : shape (5, 0, [x]) = 0 := by
  unfold shape rightOf leastOf mostOf
  simp
theorem sh_seal (x : Int) (xs : List Int) (h : xs.length ≤ 300) : shape (6, 0, x :: xs) = 0 := by
  unfold shape rightOf leastOf mostOf
  simp
  omega
theorem sh_box (x y z : Int) : shape (7, 0, [x, y, z]) = 0 := by
  unfold shape rightOf leastOf mostOf
  simp
theorem sh_sig (x : Int) (xs : List Int) (h : xs.length ≤ 300) : shape (8, 0, x :: xs) = 0 := by
  unfold shape rightOf leastOf mostOf
  simp
  omega
theorem sh_list (xs : List Int) (h : xs.length ≤ 300) : shape (9, 0, xs) = 0 := by
  unfold shape rightOf leastOf mostOf
  simp
  omega
/-- Flags in memory. -/
def RdB (w : World) (v : Value) (hs : List Bool) : Prop :=
  ∃ p c, v = .slice p hs.length c ∧ (hs = [] ∨ ∃ b o, p = some ⟨b, o, none⟩ ∧ b < w.heap.size ∧ ∀ t, t < hs.length → w.cell? ⟨b, o + t, none⟩ = some (.bool (bt hs t)))
theorem RdB.below {w w' : World} {v : Value} {hs : List Bool} (h : RdB w v hs) (hB : Below w.heap.size w w') : RdB w' v hs := by
  obtain ⟨p, c, rfl, h | ⟨b, o, rfl, hb, hc⟩⟩ := h
  · exact ⟨p, c, rfl, .inl h⟩
  · exact ⟨_, c, rfl, .inr ⟨b, o, rfl, Nat.lt_of_lt_of_le hb hB.size, fun t ht => (hB.cell (p := ⟨b, o + t, none⟩) hb).trans (hc t ht)⟩⟩
theorem rdb_nth {w : World} {p : Option Addr} {n c t : Nat} {hs : List Bool} (h : RdB w (.slice p n c) hs) (ht : t < hs.length) : ∃ b o, p = some ⟨b, o, none⟩ ∧ w.cell? ⟨b, o + t, none⟩ = some (.bool (bt hs t)) := by
  obtain ⟨p', c', e, rfl | ⟨b, o, rfl, hb, hc⟩⟩ := h
  · exact absurd ht (Nat.not_lt_zero _)
  · cases e
    exact ⟨b, o, rfl, hc t ht⟩
theorem open_flags {H : Type} {enc : TypeId × Value → H} {w : World} {base : Nat} {held : Bool} {r : Reach} {b0 : Nat} {v : Value} {d : DataW H} {ps : List MemPlace} (hval : Value.okWide Try.prog w r b0 38 v) (h : DataW.Trod enc Try.prog w base (fun _ => true) held 38 v d ps) : ∃ hs, RdB w v hs := by
  obtain ⟨fuel, hf⟩ := h
  obtain ⟨a0, len0, cap0, rfl⟩ := okWide_slice Try.underlying38 hval
  rcases open_bools Try.underlying38 Try.underlying4 (by kernel_rfl) hf with ⟨hcs, _⟩ | ⟨a, len, cap, B, hcs, _, hl, hm, _, hcell⟩
  · cases hcs
    exact ⟨[], ⟨none, 0, rfl, .inl rfl⟩⟩
  · cases hcs
    have hlen : ((List.range len0).map B).length = len0 := by simp
    by_cases h0 : len0 = 0
    · subst h0
      exact ⟨[], ⟨_, cap0, rfl, .inl rfl⟩⟩
    · obtain ⟨b, off, spot⟩ := a
      have hc0 := hcell 0 (by omega)
      have hspot : spot = none := by simpa [Addr.add] using World.cell?_spot hc0
      subst hspot
      have hb : b < w.heap.size := by
        have := World.block_lt_of_cell? w _ hc0
        simpa [Addr.add] using this
      refine ⟨(List.range len0).map B, ⟨some ⟨b, off, none⟩, cap0, by rw [hlen], .inr ⟨b, off, rfl, hb, fun t ht => ?_⟩⟩⟩
      have h1 := hcell t (by omega)
      rw [add_plain] at h1
      rw [h1]
      unfold bt
      rw [List.getD_eq_getElem?_getD, List.getElem?_map, List.getElem?_range (by omega)]
      rfl
end Go.Proofs.Ytikbeagcflofhaa
