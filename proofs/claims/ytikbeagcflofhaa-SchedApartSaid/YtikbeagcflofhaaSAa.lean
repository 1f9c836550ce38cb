/-
  SCHEDAPART: of an epoch's keys none tells the secret, nor another one of them (mathematics). Own work.
-/
import Derived.Test.YtikbeagcflofhaaKMe
import Derived.Test.YtikbeagcflofhaaKMf
import Derived.Test.YtikbeagcflofhaaSQd
namespace Go.Proofs.Ytikbeagcflofhaa
open Go.RowKit Go.Maps
set_option maxRecDepth 100000
theorem mk_plc {L : List Tm} {t : Tm} (h : shape t = 0) (hf : fitsIn L.length t) (hr : L.length < 1048576) : MkT L t (plc L t) (ext L t) := by
  refine ⟨put_good h hf hr, plc_at L t, fun j u hu => ext_at hu t, ext_le L t, ext_le1 L t, fun j hj => ?_⟩
  unfold plc ext at *
  split
  · rename_i h1
    rw [if_pos h1] at hj
    exact .inl hj
  · rename_i h1
    rw [if_neg h1] at hj
    simp at hj
    omega
/-- The lower one of a leaf and the next one, and the higher one. -/
def loM (i : Nat) : Int := if (((i + 1) % 8 : Nat) : Int) < (i : Int) then (((i + 1) % 8 : Nat) : Int) else (i : Int)
def hiM (i : Nat) : Int := if (i : Int) < (((i + 1) % 8 : Nat) : Int) then (((i + 1) % 8 : Nat) : Int) else (i : Int)
theorem loHi {i j : Nat} (hi : i < 8) (hj : j < 8) (h1 : loM i = loM j) (h2 : hiM i = hiM j) : i = j := by
  revert h1 h2
  have : ∀ i j : Fin 8, loM i = loM j → hiM i = hiM j → i = j := by decide +kernel
  intro h1 h2
  exact congrArg Fin.val (this ⟨i, hi⟩ ⟨j, hj⟩ h1 h2)
/-- x is the epoch's key of number q. -/
inductive KeyQ (L : List Tm) (h : Nat) (r : Int) : Nat → Nat → Prop
  | start (x : Nat) : L[x]? = some (4, 21, [0]) → KeyQ L h r 0 x
  | tag (x k : Nat) : L[k]? = some (4, 22, [0]) → L[x]? = some (3, 0, [(k : Int), (h : Int)]) → KeyQ L h r 1 x
  | reg (x : Nat) : L[x]? = some (4, 25, [0]) → KeyQ L h r 2 x
  | chain (i x k u : Nat) : i < 8 → L[k]? = some (4, 23, [0]) → L[u]? = some (2, (i : Int), []) → L[x]? = some (3, 0, [(k : Int), (u : Int)]) → KeyQ L h r (3 + 2 * i) x
  | meet (i x k u1 u2 u3 : Nat) : i < 8 → L[k]? = some (4, 24, [0]) → L[u1]? = some (2, loM i, []) → L[u2]? = some (2, hiM i, []) → L[u3]? = some (2, r, []) → L[x]? = some (3, 0, [(k : Int), (u1 : Int), (u2 : Int), (u3 : Int)]) → KeyQ L h r (4 + 2 * i) x
section
variable {L L' : List Tm} {h q q' x y j n m : Nat} {r a b : Int} {xs zs : List Int} {hs : List Bool}
theorem KeyQ.keep (K : KeyQ L h r q x) (hm : ∀ (j : Nat) (u : Tm), L[j]? = some u → L'[j]? = some u) : KeyQ L' h r q x := by
  cases K with
  | start _ h1 => exact .start _ (hm _ _ h1)
  | tag _ k h1 h2 => exact .tag _ k (hm _ _ h1) (hm _ _ h2)
  | reg _ h1 => exact .reg _ (hm _ _ h1)
  | chain i _ k u hi h1 h2 h3 => exact .chain i _ k u hi (hm _ _ h1) (hm _ _ h2) (hm _ _ h3)
  | meet i _ k u1 u2 u3 hi h1 h2 h3 h4 h5 => exact .meet i _ k u1 u2 u3 hi (hm _ _ h1) (hm _ _ h2) (hm _ _ h3) (hm _ _ h4) (hm _ _ h5)
/-- A key is a Kdf of the secret, or a Hash whose first argument is one. -/
theorem KeyQ.form (K : KeyQ L h r q x) : (∃ c, L[x]? = some (4, c, [0]) ∧ (c = 21 ∨ c = 25)) ∨ ∃ (k : Nat) (c : Int) (ys : List Int), L[k]? = some (4, c, [0]) ∧ (c = 22 ∨ c = 23 ∨ c = 24) ∧ L[x]? = some (3, 0, (k : Int) :: ys) := by
  cases K with
  | start _ h1 => exact .inl ⟨_, h1, .inl rfl⟩
  | tag _ k h1 h2 => exact .inr ⟨k, _, _, h1, .inl rfl, h2⟩
  | reg _ h1 => exact .inl ⟨_, h1, .inr rfl⟩
  | chain i _ k u hi h1 h2 h3 => exact .inr ⟨k, _, _, h1, .inr (.inl rfl), h3⟩
  | meet i _ k u1 u2 u3 hi h1 h2 h3 h4 h5 => exact .inr ⟨k, _, _, h1, .inr (.inr rfl), h5⟩
theorem KeyQ.lt (K : KeyQ L h r q x) : x < L.length := by
  rcases K.form with ⟨c, h1, _⟩ | ⟨k, c, ys, _, _, h1⟩ <;> exact (List.getElem?_eq_some_iff.1 h1).1
theorem same_at {L : List Tm} {x : Nat} {s t : Tm} (h1 : L[x]? = some s) (h2 : L[x]? = some t) : s = t := Option.some.inj (h1.symm.trans h2)
theorem KeyQ.inj (K : KeyQ L h r q x) (K' : KeyQ L h r q' x) : q = q' := by
  cases K with
  | start _ h1 =>
    cases K' with
    | start _ g1 => rfl
    | reg _ g1 => have := same_at h1 g1; simp at this
    | tag _ k g1 g2 => have := same_at h1 g2; simp at this
    | chain i _ k u hi g1 g2 g3 => have := same_at h1 g3; simp at this
    | meet i _ k u1 u2 u3 hi g1 g2 g3 g4 g5 => have := same_at h1 g5; simp at this
  | reg _ h1 =>
    cases K' with
    | start _ g1 => have := same_at h1 g1; simp at this
    | reg _ g1 => rfl
    | tag _ k g1 g2 => have := same_at h1 g2; simp at this
    | chain i _ k u hi g1 g2 g3 => have := same_at h1 g3; simp at this
    | meet i _ k u1 u2 u3 hi g1 g2 g3 g4 g5 => have := same_at h1 g5; simp at this
  | tag _ k h1 h2 =>
    cases K' with
    | start _ g1 => have := same_at h2 g1; simp at this
    | reg _ g1 => have := same_at h2 g1; simp at this
    | tag _ k g1 g2 => rfl
    | chain i _ k' u hi g1 g2 g3 =>
      have e := same_at h2 g3
      simp only [Prod.mk.injEq, List.cons.injEq] at e
      obtain rfl : k = k' := by omega
      have := same_at h1 g1
      simp at this
    | meet i _ k' u1 u2 u3 hi g1 g2 g3 g4 g5 => have := same_at h2 g5; simp at this
  | chain i _ k u hi h1 h2 h3 =>
    cases K' with
    | start _ g1 => have := same_at h3 g1; simp at this
    | reg _ g1 => have := same_at h3 g1; simp at this
    | tag _ k' g1 g2 =>
      have e := same_at h3 g2
      simp only [Prod.mk.injEq, List.cons.injEq] at e
      obtain rfl : k = k' := by omega
      have := same_at h1 g1
      simp at this
    | chain i' _ k' u' hi' g1 g2 g3 =>
      have e := same_at h3 g3
      simp only [Prod.mk.injEq, List.cons.injEq] at e
      obtain rfl : u = u' := by omega
      have e2 := same_at h2 g2
      simp only [Prod.mk.injEq] at e2
      omega
    | meet i' _ k' u1 u2 u3 hi g1 g2 g3 g4 g5 => have := same_at h3 g5; simp at this
  | meet i _ k u1 u2 u3 hi h1 h2 h3 h4 h5 =>
    cases K' with
    | start _ g1 => have := same_at h5 g1; simp at this
    | reg _ g1 => have := same_at h5 g1; simp at this
    | tag _ k' g1 g2 => have := same_at h5 g2; simp at this
    | chain i' _ k' u' hi' g1 g2 g3 => have := same_at h5 g3; simp at this
    | meet i' _ k' v1 v2 v3 hi' g1 g2 g3 g4 g5 =>
      have e := same_at h5 g5
      simp only [Prod.mk.injEq, List.cons.injEq] at e
      obtain rfl : u1 = v1 := by omega
      obtain rfl : u2 = v2 := by omega
      have e2 := same_at h2 g2
      have e3 := same_at h3 g3
      simp only [Prod.mk.injEq] at e2 e3
      rw [loHi hi hi' e2.2.1 e3.2.1]
/-- What the making of one key adds. -/
structure Grown (L L' : List Tm) (y : Nat) : Prop where
  keep : ∀ (j : Nat) (u : Tm), L[j]? = some u → L'[j]? = some u
  le : L.length ≤ L'.length
  le5 : L'.length ≤ L.length + 5
  cov : ∀ j, j < L'.length → j < L.length ∨ kd L' j = 2 ∨ (kd L' j = 4 ∧ ar L' j = [0]) ∨ j = y
structure SInv (L : List Tm) (h : Nat) (r a b : Int) (xs : List Int) : Prop where
  s : L[0]? = some (1, a, [])
  hh : L[h]? = some (1, b, [])
  keys : ∀ q : Nat, q < xs.length → ∃ x : Nat, xs[q]? = some (x : Int) ∧ KeyQ L h r q x
  cov : ∀ i, i < L.length → i = 0 ∨ i = h ∨ kd L i = 2 ∨ (kd L i = 4 ∧ ar L i = [0]) ∨ (i : Int) ∈ xs
theorem SInv.more (S : SInv L h r a b xs) (M : Grown L L' y) (K : KeyQ L' h r xs.length y) : SInv L' h r a b (xs ++ [(y : Int)]) := by
  refine ⟨M.keep _ _ S.s, M.keep _ _ S.hh, fun q hq => ?_, fun i hi => ?_⟩
  · rcases Nat.lt_or_ge q xs.length with h1 | h1
    · obtain ⟨x, h2, h3⟩ := S.keys q h1
      exact ⟨x, by rw [List.getElem?_append_left h1]; exact h2, h3.keep M.keep⟩
    · obtain rfl : q = xs.length := by simp at hq; omega
      exact ⟨y, by simp, K⟩
  · rcases M.cov i hi with h1 | h1 | h1 | rfl
    · obtain ⟨e1, e2⟩ := kd_keep M.keep h1
      rw [e1, e2]
      rcases S.cov i h1 with h2 | h2 | h2 | h2 | h2
      · exact .inl h2
      · exact .inr (.inl h2)
      · exact .inr (.inr (.inl h2))
      · exact .inr (.inr (.inr (.inl h2)))
      · exact .inr (.inr (.inr (.inr (List.mem_append_left _ h2))))
    · exact .inr (.inr (.inl h1))
    · exact .inr (.inr (.inr (.inl h1)))
    · exact .inr (.inr (.inr (.inr (by simp))))
theorem SInv.mem (S : SInv L h r a b xs) {i : Nat} (hi : (i : Int) ∈ xs) : ∃ q, xs[q]? = some (i : Int) ∧ KeyQ L h r q i := by
  obtain ⟨q, hq, e⟩ := List.getElem_of_mem hi
  obtain ⟨x, h1, h2⟩ := S.keys q hq
  rw [List.getElem?_eq_getElem hq, e] at h1
  obtain rfl : i = x := by simp at h1; omega
  exact ⟨q, by rw [List.getElem?_eq_getElem hq, e], h2⟩
theorem SInv.in' (S : SInv L h r a b xs) : allIn L xs := by
  intro x hx
  obtain ⟨q, hq, e⟩ := List.getElem_of_mem hx
  obtain ⟨x', h1, h2⟩ := S.keys q hq
  rw [List.getElem?_eq_getElem hq, e] at h1
  have h3 := h2.lt
  obtain rfl : x = (x' : Int) := by simpa using h1
  omega
/-- Unlike keys. -/
theorem SInv.ne (S : SInv L h r a b xs) {z : Int} (h1 : xs[q]? = some z) (h2 : xs[q']? = some z) : q = q' := by
  obtain ⟨x, e1, k1⟩ := S.keys q (List.getElem?_eq_some_iff.1 h1).1
  obtain ⟨x', e2, k2⟩ := S.keys q' (List.getElem?_eq_some_iff.1 h2).1
  rw [h1] at e1
  rw [h2] at e2
  obtain rfl : x = x' := by simp at e1 e2; omega
  exact k1.inj k2
theorem SInv.kinds (S : SInv L h r a b xs) {i : Nat} (hl : i < L.length) : kd L i = 1 ∨ kd L i = 2 ∨ kd L i = 3 ∨ kd L i = 4 := by
  rcases S.cov i hl with rfl | rfl | h2 | h2 | h2
  · exact .inl (at_kd S.s).1
  · exact .inl (at_kd S.hh).1
  · exact .inr (.inl h2)
  · exact .inr (.inr (.inr h2.1))
  · obtain ⟨q, _, K⟩ := S.mem h2
    rcases K.form with ⟨c, h1, _⟩ | ⟨k, c, ys, _, _, h1⟩
    · exact .inr (.inr (.inr (at_kd h1).1))
    · exact .inr (.inr (.inl (at_kd h1).1))
theorem kd_out {i : Nat} (h1 : ¬ i < L.length) : kd L i = 0 := by
  unfold kd tmAt
  rw [List.getD_eq_getElem?_getD, List.getElem?_eq_none (by omega)]
  rfl
/-- Which of the keys are told. -/
structure Tlk (hs : List Bool) (xs : List Int) (i : Nat) (zs : List Int) : Prop where
  mem : ∀ z, z ∈ zs ↔ ∃ q, q < i ∧ bt hs q = true ∧ xs[q]? = some z
  len : zs.length ≤ i
theorem Tlk.start : Tlk hs xs 0 [] := ⟨fun z => by simp, by simp⟩
theorem Tlk.yes {i : Nat} {z : Int} (T : Tlk hs xs i zs) (hz : xs[i]? = some z) (hb : bt hs i = true) : Tlk hs xs (i + 1) (zs ++ [z]) := by
  refine ⟨fun y => ?_, by have := T.len; simp; omega⟩
  rw [List.mem_append, T.mem, List.mem_singleton]
  constructor
  · rintro (⟨q, h1, h2, h3⟩ | rfl)
    · exact ⟨q, by omega, h2, h3⟩
    · exact ⟨i, by omega, hb, hz⟩
  · rintro ⟨q, h1, h2, h3⟩
    rcases Nat.lt_or_ge q i with h | h
    · exact .inl ⟨q, h, h2, h3⟩
    · obtain rfl : q = i := by omega
      rw [hz] at h3
      exact .inr (Option.some.inj h3).symm
theorem Tlk.no {i : Nat} (T : Tlk hs xs i zs) (hb : bt hs i = false) : Tlk hs xs (i + 1) zs := by
  refine ⟨fun y => ?_, by have := T.len; omega⟩
  rw [T.mem]
  constructor
  · rintro ⟨q, h1, h2, h3⟩
    exact ⟨q, by omega, h2, h3⟩
  · rintro ⟨q, h1, h2, h3⟩
    refine ⟨q, ?_, h2, h3⟩
    rcases Nat.lt_or_ge q i with h | h
    · exact h
    · obtain rfl : q = i := by omega
      rw [hb] at h2
      cases h2
theorem SInv.told_in (S : SInv L h r a b xs) {i : Nat} (T : Tlk hs xs i zs) : allIn L zs := by
  intro z hz
  obtain ⟨q, _, _, h3⟩ := (T.mem z).1 hz
  exact S.in' z (List.mem_of_getElem? h3)
theorem SInv.closed (S : SInv L h r a b xs) {i : Nat} (T : Tlk hs xs i zs) {x : Nat} (hk : Kn L (· ∈ zs.map Int.toNat) x) : kd L x = 2 ∨ (x : Int) ∈ zs := by
  have hin := S.told_in T
  have hL := (List.getElem?_eq_some_iff.1 S.s).1
  have hz : ∀ i : Nat, (i : Int) ∈ zs → ∃ q, KeyQ L h r q i := by
    intro i hi
    obtain ⟨q, _, _, h3⟩ := (T.mem _).1 hi
    obtain ⟨q', _, K⟩ := S.mem (List.mem_of_getElem? h3)
    exact ⟨q', K⟩
  have hz1 : ∀ i : Nat, (i : Int) ∈ zs → kd L i = 3 ∨ kd L i = 4 := by
    intro i hi
    obtain ⟨q, K⟩ := hz i hi
    rcases K.form with ⟨c, h1, _⟩ | ⟨k, c, ys, _, _, h1⟩
    · exact .inr (at_kd h1).1
    · exact .inl (at_kd h1).1
  have h0 : ¬ (kd L 0 = 2 ∨ ((0 : Nat) : Int) ∈ zs) := by
    have e := (at_kd S.s).1
    rintro (h1 | h1)
    · omega
    · have := hz1 0 h1
      omega
  have hlt : ∀ i : Nat, (kd L i = 2 ∨ (i : Int) ∈ zs) → kd L i = 2 ∨ kd L i = 3 ∨ kd L i = 4 := by
    rintro i (h1 | h1)
    · exact .inl h1
    · exact .inr (hz1 i h1)
  refine Kn.closed (K := fun i => kd L i = 2 ∨ (i : Int) ∈ zs) ?_ ?_ ?_ ?_ ?_ ?_ ?_ hk
  · intro i hi _
    obtain ⟨z, hz, rfl⟩ := List.mem_map.1 hi
    have := hin z hz
    refine .inr ?_
    rwa [show ((z.toNat : Nat) : Int) = z by omega]
  · intro i hl hk1 ha
    rcases S.cov i hl with rfl | rfl | h2 | h2 | h2
    · exact absurd (at_kd S.s).1 hk1
    · exact absurd (at_kd S.hh).1 hk1
    · exact .inl h2
    · exact absurd (ha 0 (by rw [h2.2]; simp)) h0
    · obtain ⟨q, _, K⟩ := S.mem h2
      rcases K.form with ⟨c, h1, _⟩ | ⟨k, c, ys, h3, hc, h1⟩
      · exact absurd (ha 0 (by rw [(at_kd h1).2]; simp)) h0
      · have hka := ha k (by rw [(at_kd h1).2]; simp)
        have h4 := (at_kd h3).1
        rcases hka with h5 | h5
        · omega
        · obtain ⟨q', K'⟩ := hz k h5
          rcases K'.form with ⟨c', g1, hc'⟩ | ⟨k', c', ys', g3, _, g1⟩
          · have e := same_at h3 g1
            simp only [Prod.mk.injEq] at e
            omega
          · have e := same_at h3 g1
            simp at e
  · intro i y hi h9 _
    have := hlt i hi
    omega
  · intro i y hi h9 _
    have := hlt i hi
    omega
  · intro i y hi h9 _ _
    have := hlt i hi
    omega
  · intro i y hi h9 _ _
    have := hlt i hi
    omega
  · intro i y hi h9 _ _ _
    have := hlt i hi
    omega
theorem SInv.not0 (S : SInv L h r a b xs) {i : Nat} (T : Tlk hs xs i zs) : ¬ Kn L (· ∈ zs.map Int.toNat) 0 := by
  intro hk
  have e := (at_kd S.s).1
  rcases S.closed T hk with h1 | h1
  · omega
  · obtain ⟨q, _, _, h3⟩ := (T.mem _).1 h1
    obtain ⟨q', _, K⟩ := S.mem (i := 0) (List.mem_of_getElem? h3)
    rcases K.form with ⟨c, h1, _⟩ | ⟨k, c, ys, _, _, h1⟩ <;> (have := (at_kd h1).1; omega)
theorem SInv.iff (S : SInv L h r a b xs) (T : Tlk hs xs xs.length zs) {q x : Nat} (hx : xs[q]? = some (x : Int)) : Kn L (· ∈ zs.map Int.toNat) x ↔ bt hs q = true := by
  have hq := (List.getElem?_eq_some_iff.1 hx).1
  obtain ⟨x', e, K⟩ := S.keys q hq
  rw [hx] at e
  obtain rfl : x = x' := by simp at e; omega
  constructor
  · intro hk
    rcases S.closed T hk with h1 | h1
    · rcases K.form with ⟨c, h2, _⟩ | ⟨k, c, ys, _, _, h2⟩ <;> (have := (at_kd h2).1; omega)
    · obtain ⟨q', _, h2, h3⟩ := (T.mem _).1 h1
      rw [S.ne hx h3]
      exact h2
  · intro hb
    exact .given _ (List.mem_map.2 ⟨(x : Int), (T.mem _).2 ⟨q, hq, hb, hx⟩, by simp⟩) K.lt
theorem kn_kdf {S : Nat → Prop} {c : Int} {k : Nat} (h0 : Kn L S 0) (hk : L[k]? = some (4, c, [0])) : Kn L S k := by
  refine .make k (List.getElem?_eq_some_iff.1 hk).1 (by rw [(at_kd hk).1]; decide) (fun y hy => ?_)
  rw [(at_kd hk).2] at hy
  simp at hy
  subst hy
  exact h0
theorem kn_word {S : Nat → Prop} {c : Int} {k : Nat} (hk : L[k]? = some (2, c, [])) : Kn L S k := by
  refine .make k (List.getElem?_eq_some_iff.1 hk).1 (by rw [(at_kd hk).1]; decide) (fun y hy => ?_)
  rw [(at_kd hk).2] at hy
  simp at hy
theorem SInv.all (S : SInv L h r a b xs) {q x : Nat} (hx : xs[q]? = some (x : Int)) : Kn L (· ∈ [(0 : Int), (h : Int)].map Int.toNat) x := by
  have hq := (List.getElem?_eq_some_iff.1 hx).1
  obtain ⟨x', e, K⟩ := S.keys q hq
  rw [hx] at e
  obtain rfl : x = x' := by simp at e; omega
  have h0 : Kn L (· ∈ [(0 : Int), (h : Int)].map Int.toNat) 0 := .given _ (by simp) (List.getElem?_eq_some_iff.1 S.s).1
  have h1 : Kn L (· ∈ [(0 : Int), (h : Int)].map Int.toNat) h := .given _ (by simp) (List.getElem?_eq_some_iff.1 S.hh).1
  cases K with
  | start _ g1 => exact kn_kdf h0 g1
  | reg _ g1 => exact kn_kdf h0 g1
  | tag _ k g1 g2 =>
    refine .make x (List.getElem?_eq_some_iff.1 g2).1 (by rw [(at_kd g2).1]; decide) (fun y hy => ?_)
    rw [(at_kd g2).2] at hy
    simp only [List.map_cons, List.map_nil, Int.toNat_natCast, List.mem_cons, List.not_mem_nil, or_false] at hy
    rcases hy with rfl | rfl
    · exact kn_kdf h0 g1
    · exact h1
  | chain i _ k u hi g1 g2 g3 =>
    refine .make x (List.getElem?_eq_some_iff.1 g3).1 (by rw [(at_kd g3).1]; decide) (fun y hy => ?_)
    rw [(at_kd g3).2] at hy
    simp only [List.map_cons, List.map_nil, Int.toNat_natCast, List.mem_cons, List.not_mem_nil, or_false] at hy
    rcases hy with rfl | rfl
    · exact kn_kdf h0 g1
    · exact kn_word g2
  | meet i _ k u1 u2 u3 hi g1 g2 g3 g4 g5 =>
    refine .make x (List.getElem?_eq_some_iff.1 g5).1 (by rw [(at_kd g5).1]; decide) (fun y hy => ?_)
    rw [(at_kd g5).2] at hy
    simp only [List.map_cons, List.map_nil, Int.toNat_natCast, List.mem_cons, List.not_mem_nil, or_false] at hy
    rcases hy with rfl | rfl | rfl | rfl
    · exact kn_kdf h0 g1
    · exact kn_word g2
    · exact kn_word g3
    · exact kn_word g4
end
/-! each key made -/
section
variable {L : List Tm} {h : Nat} {r : Int}
theorem grown1 {L L1 : List Tm} {t : Tm} {y : Nat} (M : MkT L t y L1) : Grown L L1 y := ⟨M.keep, M.le, by have := M.le1; omega, fun j hj => by
  rcases M.cov j hj with h | h
  · exact .inl h
  · exact .inr (.inr (.inr h))⟩
theorem kdf_ex (h0 : 0 < L.length) (hr : L.length + 20 < 1048576) (c : Int) (hc : 0 ≤ c) : MkT L (4, c, [0]) (plc L (4, c, [0])) (ext L (4, c, [0])) := mk_plc (sh_kdf c 0 hc) (fun z hz => by simp at hz; omega) (by omega)
theorem tag_ex (h0 : 0 < L.length) (hh : h < L.length) (hr : L.length + 20 < 1048576) : Grown L (ext (tagL L 0) (tagT L 0 h)) (plc (tagL L 0) (tagT L 0 h)) ∧ KeyQ (ext (tagL L 0) (tagT L 0 h)) h r 1 (plc (tagL L 0) (tagT L 0 h)) := by
  have M1 := kdf_ex h0 hr 22 (by omega)
  have k1 := plc_lt L (4, 22, [0])
  have k2 := M1.le
  have k3 := M1.le1
  have M2 : MkT (ext L (4, 22, [0])) (tagT L 0 h) (plc (tagL L 0) (tagT L 0 h)) (ext (tagL L 0) (tagT L 0 h)) := mk_plc (sh_hash _ (by simp)) (fun z hz => by
    simp only [tagT, List.mem_cons, List.not_mem_nil, or_false] at hz
    rcases hz with rfl | rfl
    · have : plc L (4, 22, [((0 : Nat) : Int)]) < (ext L (4, 22, [0])).length := k1
      omega
    · omega) (by omega)
  have k4 := M2.le
  have k5 := M2.le1
  refine ⟨⟨fun j u hu => M2.keep _ _ (M1.keep _ _ hu), by omega, by omega, fun j hj => ?_⟩, .tag _ (plc L (4, 22, [0])) (M2.keep _ _ M1.at') M2.at'⟩
  rcases M2.cov j hj with h1 | h1
  · rcases M1.cov j h1 with h2 | h2
    · exact .inl h2
    · subst h2
      have h3 := at_kd (M2.keep _ _ M1.at')
      exact .inr (.inr (.inl ⟨h3.1, by rw [h3.2]; rfl⟩))
  · exact .inr (.inr (.inr h1))
theorem chain_ex (h0 : 0 < L.length) (hr : L.length + 20 < 1048576) {i : Nat} (hi : i < 8) : Grown L (ext (boundL L 0 23 [(i : Int)]) (boundT L 0 23 [(i : Int)])) (plc (boundL L 0 23 [(i : Int)]) (boundT L 0 23 [(i : Int)])) ∧ KeyQ (ext (boundL L 0 23 [(i : Int)]) (boundT L 0 23 [(i : Int)])) h r (3 + 2 * i) (plc (boundL L 0 23 [(i : Int)]) (boundT L 0 23 [(i : Int)])) := by
  have M1 := kdf_ex h0 hr 23 (by omega)
  have k1 := plc_lt L (4, 23, [0])
  have k2 := M1.le
  have k3 := M1.le1
  have M2 : MkT (ext L (4, 23, [0])) (2, (i : Int), []) _ _ := mk_plc (sh_word _ (by omega)) (fun z hz => by cases hz) (by omega)
  have j1 := plc_lt (ext L (4, 23, [0])) (2, (i : Int), [])
  have j2 := M2.le
  have j3 := M2.le1
  have M3 : MkT (boundL L 0 23 [(i : Int)]) (boundT L 0 23 [(i : Int)]) _ _ := mk_plc (sh_hash _ (by simp [wordsA])) (fun z hz => by
    simp only [boundT, wordsA, List.mem_cons, List.not_mem_nil, or_false] at hz
    have e1 : plc L (4, ((23 : Nat) : Int), [((0 : Nat) : Int)]) < (ext L (4, 23, [0])).length := k1
    have e2 : (boundL L 0 23 [(i : Int)]).length = (ext (ext L (4, 23, [0])) (2, (i : Int), [])).length := rfl
    have e3 : plc (ext L (4, ((23 : Nat) : Int), [((0 : Nat) : Int)])) (2, (i : Int), []) < (ext (ext L (4, 23, [0])) (2, (i : Int), [])).length := j1
    rcases hz with rfl | rfl <;> omega) (by
    have e2 : (boundL L 0 23 [(i : Int)]).length = (ext (ext L (4, 23, [0])) (2, (i : Int), [])).length := rfl
    omega)
  have e2 : (boundL L 0 23 [(i : Int)]).length = (ext (ext L (4, 23, [0])) (2, (i : Int), [])).length := rfl
  have k4 := M3.le
  have k5 := M3.le1
  refine ⟨⟨fun j u hu => M3.keep _ _ (M2.keep _ _ (M1.keep _ _ hu)), by omega, by omega, fun j hj => ?_⟩, .chain i _ (plc L (4, 23, [0])) (plc (ext L (4, 23, [0])) (2, (i : Int), [])) hi (M3.keep _ _ (M2.keep _ _ M1.at')) (M3.keep _ _ M2.at') M3.at'⟩
  rcases M3.cov j hj with h1 | h1
  · rcases M2.cov j h1 with h2 | h2
    · rcases M1.cov j h2 with h3 | h3
      · exact .inl h3
      · subst h3
        have h3 := at_kd (M3.keep _ _ (M2.keep _ _ M1.at'))
        exact .inr (.inr (.inl ⟨h3.1, by rw [h3.2]; rfl⟩))
    · subst h2
      exact .inr (.inl (at_kd (M3.keep _ _ M2.at')).1)
  · exact .inr (.inr (.inr h1))
theorem meet_ex (h0 : 0 < L.length) (hr : L.length + 20 < 1048576) (hr0 : 0 ≤ r) {i : Nat} (hi : i < 8) {lo hh : Int} (hlo : lo = loM i) (hhi : hh = hiM i) : Grown L (ext (boundL L 0 24 [lo, hh, r]) (boundT L 0 24 [lo, hh, r])) (plc (boundL L 0 24 [lo, hh, r]) (boundT L 0 24 [lo, hh, r])) ∧ KeyQ (ext (boundL L 0 24 [lo, hh, r]) (boundT L 0 24 [lo, hh, r])) h r (4 + 2 * i) (plc (boundL L 0 24 [lo, hh, r]) (boundT L 0 24 [lo, hh, r])) := by
  have g1 : 0 ≤ lo := by rw [hlo]; unfold loM; split <;> omega
  have g2 : 0 ≤ hh := by rw [hhi]; unfold hiM; split <;> omega
  have M1 := kdf_ex h0 hr 24 (by omega)
  have k1 := plc_lt L (4, 24, [0])
  have k2 := M1.le
  have k3 := M1.le1
  have M2 : MkT (ext L (4, 24, [0])) (2, lo, []) _ _ := mk_plc (sh_word _ g1) (fun z hz => by cases hz) (by omega)
  have j1 := plc_lt (ext L (4, 24, [0])) (2, lo, [])
  have j2 := M2.le
  have j3 := M2.le1
  have M3 : MkT (ext (ext L (4, 24, [0])) (2, lo, [])) (2, hh, []) _ _ := mk_plc (sh_word _ g2) (fun z hz => by cases hz) (by omega)
  have l1 := plc_lt (ext (ext L (4, 24, [0])) (2, lo, [])) (2, hh, [])
  have l2 := M3.le
  have l3 := M3.le1
  have M4 : MkT (ext (ext (ext L (4, 24, [0])) (2, lo, [])) (2, hh, [])) (2, r, []) _ _ := mk_plc (sh_word _ hr0) (fun z hz => by cases hz) (by omega)
  have m1 := plc_lt (ext (ext (ext L (4, 24, [0])) (2, lo, [])) (2, hh, [])) (2, r, [])
  have m2 := M4.le
  have m3 := M4.le1
  have e2 : (boundL L 0 24 [lo, hh, r]).length = (ext (ext (ext (ext L (4, 24, [0])) (2, lo, [])) (2, hh, [])) (2, r, [])).length := rfl
  have M5 : MkT (boundL L 0 24 [lo, hh, r]) (boundT L 0 24 [lo, hh, r]) _ _ := mk_plc (sh_hash _ (by simp [wordsA])) (fun z hz => by
    simp only [boundT, wordsA, List.mem_cons, List.not_mem_nil, or_false] at hz
    have e1 : plc L (4, ((24 : Nat) : Int), [((0 : Nat) : Int)]) < (ext L (4, 24, [0])).length := k1
    have e3 : plc (ext L (4, ((24 : Nat) : Int), [((0 : Nat) : Int)])) (2, lo, []) < (ext (ext L (4, 24, [0])) (2, lo, [])).length := j1
    have e4 : plc (ext (ext L (4, ((24 : Nat) : Int), [((0 : Nat) : Int)])) (2, lo, [])) (2, hh, []) < (ext (ext (ext L (4, 24, [0])) (2, lo, [])) (2, hh, [])).length := l1
    have e5 : plc (ext (ext (ext L (4, ((24 : Nat) : Int), [((0 : Nat) : Int)])) (2, lo, [])) (2, hh, [])) (2, r, []) < (ext (ext (ext (ext L (4, 24, [0])) (2, lo, [])) (2, hh, [])) (2, r, [])).length := m1
    rcases hz with rfl | rfl | rfl | rfl <;> omega) (by omega)
  have k4 := M5.le
  have k5 := M5.le1
  refine ⟨⟨fun j u hu => M5.keep _ _ (M4.keep _ _ (M3.keep _ _ (M2.keep _ _ (M1.keep _ _ hu)))), by omega, by omega, fun j hj => ?_⟩, .meet i _ (plc L (4, 24, [0])) (plc (ext L (4, 24, [0])) (2, lo, [])) (plc (ext (ext L (4, 24, [0])) (2, lo, [])) (2, hh, [])) (plc (ext (ext (ext L (4, 24, [0])) (2, lo, [])) (2, hh, [])) (2, r, [])) hi (M5.keep _ _ (M4.keep _ _ (M3.keep _ _ (M2.keep _ _ M1.at')))) (by rw [← hlo]; exact M5.keep _ _ (M4.keep _ _ (M3.keep _ _ M2.at'))) (by rw [← hhi]; exact M5.keep _ _ (M4.keep _ _ M3.at')) (M5.keep _ _ M4.at') M5.at'⟩
  rcases M5.cov j hj with h1 | h1
  · rcases M4.cov j h1 with h2 | h2
    · rcases M3.cov j h2 with h3 | h3
      · rcases M2.cov j h3 with h4 | h4
        · rcases M1.cov j h4 with h5 | h5
          · exact .inl h5
          · subst h5
            have h3 := at_kd (M5.keep _ _ (M4.keep _ _ (M3.keep _ _ (M2.keep _ _ M1.at'))))
            exact .inr (.inr (.inl ⟨h3.1, by rw [h3.2]; rfl⟩))
        · subst h4
          exact .inr (.inl (at_kd (M5.keep _ _ (M4.keep _ _ (M3.keep _ _ M2.at')))).1)
      · subst h3
        exact .inr (.inl (at_kd (M5.keep _ _ (M4.keep _ _ M3.at'))).1)
    · subst h2
      exact .inr (.inl (at_kd (M5.keep _ _ M4.at')).1)
  · exact .inr (.inr (.inr h1))
theorem apart_start {L1 : List Tm} {n b : Int} (K1 : MkT [(1, n, [])] (1, b, []) h L1) : SInv L1 h r n b [] ∧ 0 < L1.length ∧ L1.length ≤ 2 := by
  have hl := K1.le
  have hl1 := K1.le1
  simp at hl hl1
  refine ⟨⟨K1.keep _ _ rfl, K1.at', fun q hq => by simp at hq, fun i hi => ?_⟩, by omega, by omega⟩
  rcases K1.cov i hi with h1 | h1
  · simp at h1
    exact .inl h1
  · exact .inr (.inl h1)
theorem apart_pre {n b : Int} (S : SInv L h r n b []) (h0 : 0 < L.length) (h2 : L.length ≤ 2) : ∃ (x1 : Nat) (L2 : List Tm) (x2 : Nat) (L3 : List Tm) (x3 : Nat) (L4 : List Tm), put L (4, 21, [0]) = ((x1 : Int), 0, L2) ∧ plc (tagL L2 0) (tagT L2 0 h) = x2 ∧ ext (tagL L2 0) (tagT L2 0 h) = L3 ∧ put L3 (4, 25, [0]) = ((x3 : Int), 0, L4) ∧ SInv L4 h r n b [(x1 : Int), (x2 : Int), (x3 : Int)] ∧ L4.length ≤ 17 ∧ 0 < L2.length ∧ h < L2.length ∧ L2.length ≤ 100 := by
  have M1 := kdf_ex h0 (by omega) 21 (by omega)
  have S2 := S.more (grown1 M1) (.start _ M1.at')
  have a1 := M1.le
  have a2 := M1.le1
  have hh := (List.getElem?_eq_some_iff.1 S2.hh).1
  obtain ⟨G2, Q2⟩ := tag_ex (r := r) (L := ext L (4, 21, [0])) (h := h) (by omega) hh (by omega)
  have S3 := S2.more G2 Q2
  have b1 := G2.le
  have b2 := G2.le5
  have M3 := kdf_ex (L := ext (tagL (ext L (4, 21, [0])) 0) (tagT (ext L (4, 21, [0])) 0 h)) (by omega) (by omega) 25 (by omega)
  have S4 := S3.more (grown1 M3) (.reg _ M3.at')
  have c2 := M3.le1
  exact ⟨_, _, _, _, _, _, M1.put, rfl, rfl, M3.put, S4, by omega, by omega, hh, by omega⟩
theorem apart_round {n b : Int} {xs : List Int} (S : SInv L h r n b xs) (hr0 : 0 ≤ r) {i : Nat} (hi : i < 8) (hx : xs.length = 3 + 2 * i) (hL : L.length ≤ 17 + 10 * i) : ∃ (y1 : Nat) (L2 : List Tm) (y2 : Nat) (L3 : List Tm), plc (boundL L 0 23 [(i : Int)]) (boundT L 0 23 [(i : Int)]) = y1 ∧ ext (boundL L 0 23 [(i : Int)]) (boundT L 0 23 [(i : Int)]) = L2 ∧ plc (boundL L2 0 24 [loM i, hiM i, r]) (boundT L2 0 24 [loM i, hiM i, r]) = y2 ∧ ext (boundL L2 0 24 [loM i, hiM i, r]) (boundT L2 0 24 [loM i, hiM i, r]) = L3 ∧ SInv L3 h r n b (xs ++ [(y1 : Int), (y2 : Int)]) ∧ L3.length ≤ 17 + 10 * (i + 1) ∧ 0 < L.length ∧ 0 < L2.length ∧ L2.length ≤ 200 := by
  have h0 := (List.getElem?_eq_some_iff.1 S.s).1
  obtain ⟨G1, Q1⟩ := chain_ex (h := h) (r := r) (L := L) h0 (by omega) hi
  have S2 := S.more G1 (by rw [hx]; exact Q1)
  have a1 := G1.le
  have a2 := G1.le5
  obtain ⟨G2, Q2⟩ := meet_ex (h := h) (r := r) (L := ext (boundL L 0 23 [(i : Int)]) (boundT L 0 23 [(i : Int)])) (by omega) (by omega) hr0 hi rfl rfl
  have S3 := S2.more G2 (by rw [List.length_append, hx, List.length_singleton, show 3 + 2 * i + 1 = 4 + 2 * i by omega]; exact Q2)
  have b2 := G2.le5
  rw [List.append_assoc] at S3
  exact ⟨_, _, _, _, rfl, rfl, rfl, rfl, S3, by omega, h0, by omega, by omega⟩
end
end Go.Proofs.Ytikbeagcflofhaa
