/-
  KNOWSECRETS: a secret beneath nothing but as a key, or hashed, derived from, made public, is not known. Own work.
-/
import Derived.Test.YtikbeagcflofhaaKMe
import Derived.Laws.OwnMore
namespace Go.Proofs.Ytikbeagcflofhaa
open Go.RowKit Go.Maps
set_option maxRecDepth 100000
theorem kd_keep {L L' : List Tm} (hm : ∀ (j : Nat) (u : Tm), L[j]? = some u → L'[j]? = some u) {i : Nat} (h : i < L.length) : kd L' i = kd L i ∧ ar L' i = ar L i := by
  obtain ⟨⟨k, n, xs⟩, hat⟩ : ∃ t, L[i]? = some t := ⟨_, List.getElem?_eq_getElem h⟩
  have h1 := at_kd hat
  have h2 := at_kd (hm i _ hat)
  exact ⟨h2.1.trans h1.1.symm, h2.2.trans h1.2.symm⟩
theorem wpList_append_any {w : World} {ops : Array Oper} {rest : List Oper} {o : Oper} {a : Act} {Q : Exit → Act → World → Prop} (hgd : o.guard = none) (s x : Operand) (t : TypeId)
    (ho : o.op = .call { callee := .builtin .append, args := #[s, x], argTypes := #[t, t] })
    (base : Nat) (e : TypeId) (i : TypeInfo) (z : Value) (bytes : Nat) (ht : Try.prog.underlying t = some (.slice e)) (hi : Try.prog.info? e = some i) (hz : i.zero = some z)
    (hsize : i.size = 1) (hby : i.bytes = bytes) (hzs : z.cells.size = 1)
    (v : Value) (n : Nat) (xs : List Value) (hs : a.eval s = v) (hown : w.ownsRow base e 1 v n xs)
    (sv : Value) (base2 m : Nat) (news : List Value) (hx : a.eval x = sv) (hsrc : w.ownsRow base2 e 1 sv m news) (h1 : ∀ u ∈ news, u.oneCell' = true)
    (h63 : n + m ≤ maxLen) (hbytes : (n + m) * bytes ≤ 140737488355328) (hbase : base ≤ w.heap.size)
    (h : ∀ v' w', w'.ownsRow base e 1 v' (n + m) (xs ++ news) → w.grownBy w' v.ownBlock → (v'.ownBlock = v.ownBlock ∨ v'.ownBlock = some w.heap.size) → wpList Try.prog ops Q rest (a.put o.dst v') w') :
    wpList Try.prog ops Q (o :: rest) a w := by
  rcases hsrc.2 with ⟨rfl, hm0⟩ | ⟨g, cap, cur, rfl, _⟩
  · subst hm0
    obtain rfl : news = [] := List.eq_nil_of_length_eq_zero (by have := hsrc.1; omega)
    refine wpList_plain hgd fun K hK => ?_
    have hr := run_append_owned_none (P := Try.prog) w base t o.type e i 1 ht hi v n xs hown
    unfold Oper.wp execOp
    simp only [ho, resolve, invoke, builtin, Sem.run_bind, Sem.run_pure, Result.andThen_ok, List.map_toArray, List.map_cons, List.map_nil, hs, hx, hr]
    exact hK _ _ (h v w (by rw [List.append_nil, Nat.add_zero]; exact hown) ⟨rfl, rfl, rfl, Nat.le_refl _, fun _ _ _ => rfl⟩ (.inl rfl))
  · exact wpList_append_own_at w hgd s x t ho base e i z 1 bytes ht hi hz hsize hby hzs (by decide) v n xs hs hown ⟨g, 0, none⟩ m cap news hx hsrc.1 (fun j u hj => World.ownsRow.cells hsrc rfl j u hj) h1 h63 hbytes hbase (fun v' w' a1 a2 _ a4 => h v' w' a1 a2 a4)
structure Wds (L : List Tm) (ys : List Int) : Prop where
  w : ∀ y ∈ ys, 0 ≤ y ∧ y.toNat < L.length ∧ kd L y.toNat = 2
theorem Wds.keep {L L' : List Tm} {ys : List Int} (h : Wds L ys) (hm : ∀ (j : Nat) (u : Tm), L[j]? = some u → L'[j]? = some u) (hle : L.length ≤ L'.length) : Wds L' ys := ⟨fun y hy => by
  obtain ⟨h1, h2, h3⟩ := h.w y hy
  exact ⟨h1, by omega, by rw [(kd_keep hm h2).1]; exact h3⟩⟩
structure Sec (L : List Tm) (n : Int) (xs : List Int) : Prop where
  s : L[0]? = some (1, n, [])
  cov : ∀ i, i < L.length → i = 0 ∨ kd L i = 2 ∨ (i : Int) ∈ xs
  form : ∀ x ∈ xs, ∃ (i : Nat) (k m : Int) (ys : List Int), x = (i : Int) ∧ L[i]? = some (k, m, 0 :: ys) ∧ (k = 3 ∨ k = 4 ∨ k = 5 ∨ k = 6 ∨ k = 8) ∧ m < 1048576 ∧ Wds L ys
theorem Sec.start (n : Int) : Sec [(1, n, [])] n [] := ⟨rfl, fun i hi => by simp at hi; exact .inl hi, fun x hx => by cases hx⟩
theorem Sec.word {L L' : List Tm} {n m : Int} {xs : List Int} {i : Nat} (h : Sec L n xs) (M : MkT L (2, m, []) i L') : Sec L' n xs := by
  refine ⟨M.keep _ _ h.s, fun j hj => ?_, fun x hx => ?_⟩
  · rcases M.cov j hj with h1 | rfl
    · rcases h.cov j h1 with h2 | h2 | h2
      · exact .inl h2
      · exact .inr (.inl (by rw [(kd_keep M.keep h1).1]; exact h2))
      · exact .inr (.inr h2)
    · exact .inr (.inl (at_kd M.at').1)
  · obtain ⟨j, k, m', ys, e, h1, h2, h3, h4⟩ := h.form x hx
    exact ⟨j, k, m', ys, e, M.keep _ _ h1, h2, h3, h4.keep M.keep M.le⟩
theorem Sec.more {L L' : List Tm} {n k m : Int} {xs ys : List Int} {i : Nat} (h : Sec L n xs) (M : MkT L (k, m, 0 :: ys) i L') (hk : k = 3 ∨ k = 4 ∨ k = 5 ∨ k = 6 ∨ k = 8) (hm : m < 1048576) (hy : Wds L ys) : Sec L' n (xs ++ [(i : Int)]) := by
  refine ⟨M.keep _ _ h.s, fun j hj => ?_, fun x hx => ?_⟩
  · rcases M.cov j hj with h1 | rfl
    · rcases h.cov j h1 with h2 | h2 | h2
      · exact .inl h2
      · exact .inr (.inl (by rw [(kd_keep M.keep h1).1]; exact h2))
      · exact .inr (.inr (List.mem_append_left _ h2))
    · exact .inr (.inr (by simp))
  · rcases List.mem_append.1 hx with hx | hx
    · obtain ⟨j, k, m', ys, e, h1, h2, h3, h4⟩ := h.form x hx
      exact ⟨j, k, m', ys, e, M.keep _ _ h1, h2, h3, h4.keep M.keep M.le⟩
    · rw [List.mem_singleton.1 hx]
      exact ⟨i, k, m, ys, rfl, M.at', hk, hm, hy.keep M.keep M.le⟩
theorem Sec.in' {L : List Tm} {n : Int} {xs : List Int} (h : Sec L n xs) : allIn L xs := by
  intro x hx
  obtain ⟨j, k, m', ys, rfl, h1, _⟩ := h.form x hx
  have := (List.getElem?_eq_some_iff.1 h1).1
  omega
section
variable {L L' : List Tm} {n : Int} {xs : List Int} {d : Nat}
theorem Sec.closed (h : Sec L n xs) (M : MkT L (4, 1048576, [0]) d L') {i : Nat} (hk : Kn L' (· ∈ xs.map Int.toNat) i) : kd L' i = 2 ∨ (i : Int) ∈ xs := by
  have hd := at_kd M.at'
  have hL := (List.getElem?_eq_some_iff.1 h.s).1
  have h0k : kd L' 0 = 1 := by rw [(kd_keep M.keep hL).1]; exact (at_kd h.s).1
  have h0x : (0 : Int) ∉ xs := fun hx => by
    obtain ⟨j, k, m', ys, e, h1, h2, _⟩ := h.form 0 hx
    have hj : j = 0 := by omega
    subst hj
    rw [h.s] at h1
    cases h1
  have hmem : ∀ i : Nat, (i : Int) ∈ xs → ∃ (k m : Int) (ys : List Int), kd L' i = k ∧ (k = 3 ∨ k = 4 ∨ k = 5 ∨ k = 6 ∨ k = 8) ∧ ar L' i = 0 :: ys.map Int.toNat ∧ Wds L' ys := by
    intro i hi
    obtain ⟨j, k, m', ys, e, h1, h2, h3, h4⟩ := h.form _ hi
    obtain rfl : i = j := by omega
    have h5 := at_kd (M.keep _ _ h1)
    exact ⟨k, m', ys, h5.1, h2, by rw [h5.2]; rfl, h4.keep M.keep M.le⟩
  have h0 : ¬ (kd L' 0 = 2 ∨ ((0 : Nat) : Int) ∈ xs) := by
    rintro (e | e)
    · omega
    · exact h0x e
  refine Kn.closed (K := fun i => kd L' i = 2 ∨ (i : Int) ∈ xs) ?_ ?_ ?_ ?_ ?_ ?_ ?_ hk
  · intro i hi _
    obtain ⟨x, hx, rfl⟩ := List.mem_map.1 hi
    have := h.in' x hx
    refine .inr ?_
    rwa [show ((x.toNat : Nat) : Int) = x by omega]
  · intro i hl hk1 ha
    rcases M.cov i hl with h1 | rfl
    · rcases h.cov i h1 with rfl | h2 | h2
      · exact absurd h0k hk1
      · exact .inl (by rw [(kd_keep M.keep h1).1]; exact h2)
      · exact .inr h2
    · exact absurd (ha 0 (by rw [hd.2]; simp)) h0
  · intro i x hi h9 _
    rcases hi with hi | hi
    · omega
    · obtain ⟨k, m, ys, e, h2, _⟩ := hmem i hi
      omega
  · intro i x hi h8 hx
    rcases hi with hi | hi
    · omega
    · obtain ⟨k, m, ys, e, h2, h3, h4⟩ := hmem i hi
      rw [h3] at hx
      simp only [List.drop_succ_cons, List.drop_zero] at hx
      obtain ⟨y, hy, rfl⟩ := List.mem_map.1 hx
      exact .inl (h4.w y hy).2.2
  · intro i x hi h6 ha hx
    rcases hi with hi | hi
    · omega
    · obtain ⟨k, m, ys, e, h2, h3, h4⟩ := hmem i hi
      rw [h3, List.getD_cons_zero] at ha
      exact absurd ha h0
  · intro i x hi h7 _ _
    rcases hi with hi | hi
    · omega
    · obtain ⟨k, m, ys, e, h2, _⟩ := hmem i hi
      omega
  · intro i x hi h7 _ _ _
    rcases hi with hi | hi
    · omega
    · obtain ⟨k, m, ys, e, h2, _⟩ := hmem i hi
      omega
theorem Sec.noS (h : Sec L n xs) (M : MkT L (4, 1048576, [0]) d L') : ¬ Kn L' (· ∈ xs.map Int.toNat) 0 := by
  intro hk
  have hL := (List.getElem?_eq_some_iff.1 h.s).1
  rcases h.closed M hk with e | e
  · rw [(kd_keep M.keep hL).1, (at_kd h.s).1] at e
    omega
  · obtain ⟨j, k, m', ys, e, h1, h2, _⟩ := h.form _ e
    have hj : j = 0 := by omega
    subst hj
    rw [h.s] at h1
    cases h1
theorem Sec.noD (h : Sec L n xs) (M : MkT L (4, 1048576, [0]) d L') : ¬ Kn L' (· ∈ xs.map Int.toNat) d := by
  intro hk
  rcases h.closed M hk with e | e
  · rw [(at_kd M.at').1] at e
    omega
  · obtain ⟨j, k, m', ys, e, h1, h2, h3, _⟩ := h.form _ e
    obtain rfl : d = j := by omega
    have h4 := M.keep _ _ h1
    rw [M.at'] at h4
    cases h4
    omega
theorem Sec.yesD (M : MkT L (4, 1048576, [0]) d L') (hL : 0 < L.length) (xs : List Int) : Kn L' (· ∈ (xs ++ [(0 : Int)]).map Int.toNat) d := by
  have hd := at_kd M.at'
  have := M.le
  refine .make d (List.getElem?_eq_some_iff.1 M.at').1 (by rw [hd.1]; decide) (fun x hx => ?_)
  rw [hd.2] at hx
  simp only [List.map_cons, List.map_nil, List.mem_singleton] at hx
  subst hx
  exact .given _ (by simp) (by simp; omega)
end
end Go.Proofs.Ytikbeagcflofhaa
