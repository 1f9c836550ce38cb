/-
  TERMS: AN ARENA OF A LIST OF TERMS, and Make as a whole: what it answers is 'put' of the list. Own work.
-/
import Derived.Test.YtenllpaochcjfaaDoorTT
import Derived.Test.YtenllpaochcjfaaDoorTU
namespace Go.Proofs.YtenllpaochcjfaaDoor
open Go.RowKit Go.Maps
set_option maxRecDepth 100000
/-! a world that keeps all but the blocks of F -/
structure Keeps (F : Nat → Prop) (w w' : World) : Prop where
  os : w'.os = w.os
  tape : w'.tape = w.tape
  output : w'.output = w.output
  size : w.heap.size ≤ w'.heap.size
  block : ∀ k, k < w.heap.size → ¬ F k → w'.heap[k]? = w.heap[k]?
theorem Keeps.refl (F : Nat → Prop) (w : World) : Keeps F w w := ⟨rfl, rfl, rfl, Nat.le_refl _, fun _ _ _ => rfl⟩
theorem Keeps.of_below {F : Nat → Prop} {w w' : World} (h : Below w.heap.size w w') : Keeps F w w' := ⟨h.os, h.tape, h.output, h.size, fun k hk _ => h.block k hk⟩
theorem Keeps.of_grown {F : Nat → Prop} {w w' : World} {row : Option Nat} (h : w.grownBy w' row) (hF : ∀ k, row = some k → F k) : Keeps F w w' := ⟨h.os, h.tape, h.output, h.size, fun k hk hn => h.block k hk (fun e => hn (hF k e.symm))⟩
theorem Keeps.trans {F G : Nat → Prop} {a b c : World} (h : Keeps F a b) (h' : Keeps G b c) (hG : ∀ k, k < a.heap.size → G k → F k) : Keeps F a c :=
  ⟨h'.os.trans h.os, h'.tape.trans h.tape, h'.output.trans h.output, Nat.le_trans h.size h'.size, fun k hk hn => (h'.block k (Nat.lt_of_lt_of_le hk h.size) (fun g => hn (hG k hk g))).trans (h.block k hk hn)⟩
theorem Keeps.mono {F G : Nat → Prop} {a b : World} (h : Keeps F a b) (hG : ∀ k, k < a.heap.size → F k → G k) : Keeps G a b := ⟨h.os, h.tape, h.output, h.size, fun k hk hn => h.block k hk (fun f => hn (hG k hk f))⟩
theorem Keeps.below {F : Nat → Prop} {a b : World} (h : Keeps F a b) {B : Nat} (hB : B ≤ a.heap.size) (hF : ∀ k, F k → B ≤ k) : Below B a b := ⟨h.os, h.tape, h.output, h.size, fun k hk => h.block k (by omega) (fun f => by have := hF k f; omega)⟩
theorem Keeps.cell {F : Nat → Prop} {a b : World} (h : Keeps F a b) {p : Addr} (hp : p.block < a.heap.size) (hn : ¬ F p.block) : b.cell? p = a.cell? p := World.cell?_of_block (h.block _ hp hn)
theorem Keeps.frozen {F : Nat → Prop} {a b : World} (h : Keeps F a b) {p : Addr} (hp : p.block < a.heap.size) (hn : ¬ F p.block) : b.frozen? p = a.frozen? p := World.frozen?_of_block (h.block _ hp hn)
theorem row_keeps {F : Nat → Prop} {w w' : World} {base e size n : Nat} {v : Value} {xs : List Value} (h : w.ownsRow base e size v n xs) (hK : Keeps F w w') (hn : ∀ k, v.ownBlock = some k → ¬ F k) : w'.ownsRow base e size v n xs := by
  refine ⟨h.1, ?_⟩
  rcases h.2 with h1 | ⟨g, cap, cur, h1, hb, hg, r⟩
  · exact .inl h1
  · refine .inr ⟨g, cap, cur, h1, hb, ?_, r⟩
    rw [hK.block g (Array.getElem?_eq_some_iff.1 hg).1 (hn g (by rw [h1]; rfl))]
    exact hg
theorem map_keeps {F : Nat → Prop} {H : Type} {w w' : World} {k : TypeId} {R : Value → Option (DataW H × List MemPlace)} {b n : Nat} {D : DataW H} (h : w.ownsMap Tryd.prog k R b n D) (hK : Keeps F w w') (hn : ¬ F b) : w'.ownsMap Tryd.prog k R b n D := by
  obtain ⟨es, clock, hb, r⟩ := h
  exact ⟨es, clock, (hK.block b (Array.getElem?_eq_some_iff.1 hb).1 hn).trans hb, r⟩

/-! terms, as a list -/
abbrev Tm := Int × Int × List Int
def fitsIn (m : Nat) (t : Tm) : Prop := ∀ x ∈ t.2.2, 0 ≤ x ∧ x < (m : Int)
instance (m : Nat) (t : Tm) : Decidable (fitsIn m t) := inferInstanceAs (Decidable (∀ x ∈ t.2.2, 0 ≤ x ∧ x < (m : Int)))
def shape (t : Tm) : Int := rightOf t.1 t.2.1 t.2.2.length
/-- WHAT MAKE ANSWERS (a place, a number of a fault), and the terms then. -/
def put (L : List Tm) (t : Tm) : Int × Int × List Tm :=
  if shape t ≠ 0 then (0, shape t, L) else if ¬ fitsIn L.length t then (0, 8, L) else if t ∈ L then ((L.idxOf t : Nat), 0, L) else if 1048576 ≤ L.length then (0, 7, L) else ((L.length : Nat), 0, L ++ [t])
theorem put_bad {L : List Tm} {t : Tm} (h : shape t ≠ 0) : put L t = (0, shape t, L) := by unfold put; rw [if_pos h]
theorem put_out {L : List Tm} {t : Tm} (h : shape t = 0) (h8 : ¬ fitsIn L.length t) : put L t = (0, 8, L) := by unfold put; rw [if_neg (by simp [h]), if_pos h8]
theorem put_in {L : List Tm} {t : Tm} (h : shape t = 0) (h8 : fitsIn L.length t) (hin : t ∈ L) : put L t = (((L.idxOf t : Nat) : Int), 0, L) := by unfold put; rw [if_neg (by simp [h]), if_neg (fun hh => hh h8), if_pos hin]
theorem put_full {L : List Tm} {t : Tm} (h : shape t = 0) (h8 : fitsIn L.length t) (hin : t ∉ L) (hf : 1048576 ≤ L.length) : put L t = (0, 7, L) := by unfold put; rw [if_neg (by simp [h]), if_neg (fun hh => hh h8), if_neg hin, if_pos hf]
theorem put_new {L : List Tm} {t : Tm} (h : shape t = 0) (h8 : fitsIn L.length t) (hin : t ∉ L) (hf : ¬ 1048576 ≤ L.length) : put L t = (((L.length : Nat) : Int), 0, L ++ [t]) := by unfold put; rw [if_neg (by simp [h]), if_neg (fun hh => hh h8), if_neg hin, if_neg hf]
structure Wf (L : List Tm) : Prop where
  nodup : L.Nodup
  good : ∀ i (h : i < L.length), shape L[i] = 0 ∧ L[i].2.1 < 9223372036854775808 ∧ fitsIn i L[i]
  len : L.length ≤ 1048576
theorem wf_nil : Wf [] := ⟨List.nodup_nil, (fun i h => by cases h), by simp⟩
theorem shape_k {t : Tm} (h : shape t = 0) : 1 ≤ t.1 ∧ t.1 ≤ 9 ∧ 0 ≤ t.2.1 ∧ t.2.2.length ≤ 400 := by
  unfold shape rightOf leastOf mostOf at h
  repeat' split at h
  all_goals omega
theorem fitsIn_mono {m m' : Nat} {t : Tm} (h : fitsIn m t) (hm : m ≤ m') : fitsIn m' t := fun x hx => ⟨(h x hx).1, by have := (h x hx).2; omega⟩
theorem Wf.put {L : List Tm} (h : Wf L) {t : Tm} (hn : t.2.1 < 9223372036854775808) : Wf (put L t).2.2 := by
  unfold Proofs.YtenllpaochcjfaaDoor.put
  split
  · exact h
  · rename_i h1
    split
    · exact h
    · rename_i h2
      split
      · exact h
      · rename_i h3
        split
        · exact h
        · rename_i h4
          refine ⟨List.nodup_append.2 ⟨h.nodup, by simp, fun a ha b hb e => ?_⟩, fun i hi => ?_, by simp; omega⟩
          · simp at hb
            exact h3 (by rw [← hb, ← e]; exact ha)
          · simp only [List.length_append, List.length_cons, List.length_nil] at hi
            rcases Nat.lt_or_ge i L.length with hlt | hge
            · rw [List.getElem_append_left hlt]
              exact h.good i hlt
            · obtain rfl : i = L.length := by omega
              rw [List.getElem_append_right (Nat.le_refl _)]
              simp only [Nat.sub_self, List.getElem_cons_zero]
              exact ⟨by simpa using h1, hn, by simpa using h2⟩
/-! keys -/
def tkey (t : Tm) : Lit := keyL t.1 t.2.1 t.2.2
def Named (t : Tm) : Prop := shape t = 0 ∧ t.2.1 < 9223372036854775808 ∧ fitsIn 1048576 t
theorem Wf.named {L : List Tm} (h : Wf L) {i : Nat} (hi : i < L.length) : Named L[i] := ⟨(h.good i hi).1, (h.good i hi).2.1, fitsIn_mono (h.good i hi).2.2 (by have := h.len; omega)⟩
theorem tkey_inj {t u : Tm} (ht : Named t) (hu : Named u) (h : tkey t = tkey u) : t = u := by
  have h1 := shape_k ht.1
  have h2 := shape_k hu.1
  have := ht.2.1
  have := hu.2.1
  obtain ⟨e1, e2, e3⟩ := keyL_inj (by omega) (by omega) (by omega) (by omega) (fun z hz => by have := ht.2.2 z hz; omega) (fun z hz => by have := hu.2.2 z hz; omega) h
  obtain ⟨a, b, c⟩ := t
  obtain ⟨a', b', c'⟩ := u
  simp_all
theorem tkey_lit (t : Tm) : WideAt.IsKeyLit (tkey t) := trivial
structure MapOf (D : DataW Unit) (L : List Tm) : Prop where
  isMap : IsMap D
  has : ∀ t, Named t → Maps.has D (tkey t) = decide (t ∈ L)
  at_ : ∀ i (h : i < L.length) z, D.atKey (tkey L[i]) z = .lit (.int .i64 i)
theorem mapOf_nil : MapOf (.map []) [] := ⟨isMap_empty, fun t _ => by simp [Maps.has], fun i h => by cases h⟩
theorem MapOf.put {D : DataW Unit} {L : List Tm} (h : MapOf D L) (hL : Wf L) {t : Tm} (ht : Named t) (hn : t ∉ L) : MapOf (D.put (tkey t) (.lit (.int .i64 L.length))) (L ++ [t]) := by
  refine ⟨h.isMap.put _ _, fun u hu => ?_, fun i hi z => ?_⟩
  · by_cases e : u = t
    · subst e
      rw [has_put_same h.isMap (tkey_lit _)]
      simp
    · rw [has_put_other (fun he => e (tkey_inj hu ht he)), h.has u hu]
      simp [e]
  · simp only [List.length_append, List.length_cons, List.length_nil] at hi
    rcases Nat.lt_or_ge i L.length with hlt | hge
    · rw [List.getElem_append_left hlt, atKey_put_other, h.at_ i hlt]
      intro he
      have := tkey_inj (hL.named hlt) ht he
      exact hn (by rw [← this]; exact List.getElem_mem _)
    · obtain rfl : i = L.length := by omega
      rw [List.getElem_append_right (Nat.le_refl _)]
      simp only [Nat.sub_self, List.getElem_cons_zero]
      exact atKey_put_same h.isMap (tkey_lit _) _ _
/-! numbers in memory -/
def Reads (w : World) (v : Value) (xs : List Int) : Prop :=
  (v = .slice none 0 0 ∧ xs = []) ∨ ∃ b o c, v = .slice (some ⟨b, o, none⟩) xs.length c ∧ b < w.heap.size ∧ ∀ t, t < xs.length → w.cell? ⟨b, o + t, none⟩ = some (.int .i64 (xs.getD t 0))
def IRow (w : World) (v : Value) (xs : List Int) : Prop := w.ownsRow 0 3 1 v xs.length (xs.map (Value.int .i64))
theorem IRow.cellAt {w : World} {g c : Nat} {xs : List Int} (h : IRow w (.slice (some ⟨g, 0, none⟩) xs.length c) xs) (t : Nat) (ht : t < xs.length) : w.cell? ⟨g, t, none⟩ = some (.int .i64 (xs.getD t 0)) := by
  have h2 := World.ownsRow.cellAt h t (by omega)
  rw [h2, List.getElem?_map, List.getElem?_eq_getElem ht, List.getD_eq_getElem?_getD, List.getElem?_eq_getElem ht]
  rfl
theorem IRow.reads {w : World} {v : Value} {xs : List Int} (h : IRow w v xs) : Reads w v xs := by
  rcases h.2 with ⟨h1, h2⟩ | ⟨g, cap, cur, h1, hb, hg, r⟩
  · exact .inl ⟨h1, List.eq_nil_of_length_eq_zero h2⟩
  · refine .inr ⟨g, 0, cap, h1, (Array.getElem?_eq_some_iff.1 hg).1, fun t ht => ?_⟩
    subst h1
    rw [Nat.zero_add]
    exact IRow.cellAt h t ht
theorem irow_of {w : World} {v : Value} {xs : List Int} {base n : Nat} (h : w.ownsRow base 3 1 v n (xs.map (Value.int .i64))) : IRow w v xs := by
  have := h.1
  simp only [List.length_map, Nat.mul_one] at this
  subst this
  exact row_lower h (Nat.zero_le _)
/-! nodes in memory -/
def cellsOf : List Tm → List Value → List Value
  | t :: L, v :: vs => .int .i64 t.1 :: .int .i64 t.2.1 :: v :: cellsOf L vs
  | _, _ => []
theorem cellsOf_snoc : ∀ {L : List Tm} {vs : List Value}, vs.length = L.length → ∀ (t : Tm) (v : Value), cellsOf (L ++ [t]) (vs ++ [v]) = cellsOf L vs ++ [.int .i64 t.1, .int .i64 t.2.1, v]
  | [], [], _, _, _ => rfl
  | _ :: _, _ :: _, h, t, v => by
    simp only [List.cons_append, cellsOf]
    rw [cellsOf_snoc (by simpa using h)]
  | [], _ :: _, h, _, _ => by simp at h
  | _ :: _, [], h, _, _ => by simp at h
theorem cellsOf_at : ∀ {L : List Tm} {vs : List Value} (_ : vs.length = L.length) (i : Nat) (h : i < L.length) (h' : i < vs.length), (cellsOf L vs)[i * 3]? = some (.int .i64 L[i].1) ∧ (cellsOf L vs)[i * 3 + 1]? = some (.int .i64 L[i].2.1) ∧ (cellsOf L vs)[i * 3 + 2]? = some vs[i]
  | _ :: _, _ :: _, _, 0, _, _ => ⟨rfl, rfl, rfl⟩
  | _ :: _, _ :: _, e, i + 1, h, h' => by
    have := cellsOf_at (by simpa using e) i (by simpa using h) (by simpa using h')
    simp only [cellsOf, List.getElem_cons_succ]
    rw [show (i + 1) * 3 = i * 3 + 3 by omega, show i * 3 + 3 + 1 = i * 3 + 1 + 3 by omega, show i * 3 + 3 + 2 = i * 3 + 2 + 3 by omega]
    exact this
  | [], _, _, _, h, _ => by cases h
  | _ :: _, [], e, _, _, _ => by simp at e
structure Rows3 (w : World) (L : List Tm) (vs : List Value) (F : Nat → Prop) : Prop where
  len : vs.length = L.length
  row : ∀ i (h : i < L.length) (h' : i < vs.length), IRow w vs[i] L[i].2.2
  foot : ∀ i (h' : i < vs.length) k, vs[i].ownBlock = some k → F k
theorem Rows3.keeps {F G : Nat → Prop} {w w' : World} {L : List Tm} {vs : List Value} (h : Rows3 w L vs F) (hK : Keeps G w w') (hn : ∀ k, F k → ¬ G k) : Rows3 w' L vs F :=
  ⟨h.len, fun i hi hi' => row_keeps (h.row i hi hi') hK (fun k hk => hn k (h.foot i hi' k hk)), h.foot⟩
theorem Rows3.mono {F F' : Nat → Prop} {w : World} {L : List Tm} {vs : List Value} (h : Rows3 w L vs F) (hF : ∀ k, F k → F' k) : Rows3 w L vs F' := ⟨h.len, h.row, fun i hi k hk => hF k (h.foot i hi k hk)⟩
theorem Rows3.snoc {F : Nat → Prop} {w : World} {L : List Tm} {vs : List Value} (h : Rows3 w L vs F) {t : Tm} {v : Value} (hr : IRow w v t.2.2) (hf : ∀ k, v.ownBlock = some k → F k) : Rows3 w (L ++ [t]) (vs ++ [v]) F := by
  refine ⟨by simp [h.len], fun i hi hi' => ?_, fun i hi' k hk => ?_⟩
  · rcases Nat.lt_or_ge i L.length with hlt | hge
    · have hlt' : i < vs.length := by rw [h.len]; exact hlt
      rw [List.getElem_append_left hlt, List.getElem_append_left hlt']
      exact h.row i hlt hlt'
    · simp only [List.length_append, List.length_cons, List.length_nil] at hi
      obtain rfl : i = L.length := by omega
      have e : (vs ++ [v])[L.length] = v := by
        rw [List.getElem_append_right (by rw [h.len]; exact Nat.le_refl _)]
        simp [h.len]
      rw [e, List.getElem_append_right (Nat.le_refl _)]
      simpa using hr
  · rcases Nat.lt_or_ge i vs.length with hlt | hge
    · rw [List.getElem_append_left hlt] at hk
      exact h.foot i hlt k hk
    · simp only [List.length_append, List.length_cons, List.length_nil] at hi'
      obtain rfl : i = vs.length := by omega
      rw [List.getElem_append_right (Nat.le_refl _)] at hk
      exact hf k (by simpa using hk)
/-- AN ARENA OF THE TERMS L, in blocks of F alone. -/
structure Ar (w : World) (ab : Nat) (L : List Tm) (F : Nat → Prop) : Prop where
  ex : ∃ np cp mb D vs, Arena (H := Unit) w ab 0 np L.length cp mb (cellsOf L vs) D ∧ Rows3 w L vs (fun k => F k ∧ k ≠ ab ∧ k ≠ mb ∧ (Value.slice np L.length cp).ownBlock ≠ some k) ∧ MapOf D L ∧ F mb ∧ (∀ k, (Value.slice np L.length cp).ownBlock = some k → F k)
  wf : Wf L
  self : F ab
  lt : ∀ k, F k → k < w.heap.size
theorem Arena.keeps {G : Nat → Prop} {H : Type} {w w' : World} {ab ao : Nat} {np : Option Addr} {m cp mb : Nat} {nodes : List Value} {D : DataW H} (A : Arena w ab ao np m cp mb nodes D) (hK : Keeps G w w') (h1 : ¬ G ab) (h2 : ¬ G mb) (h3 : ∀ k, (Value.slice np m cp).ownBlock = some k → ¬ G k) : Arena w' ab ao np m cp mb nodes D :=
  ⟨(hK.cell (p := ⟨ab, ao, none⟩) A.lt h1).trans A.c0, (hK.cell (p := ⟨ab, ao + 1, none⟩) A.lt h1).trans A.c1, (hK.frozen (p := ⟨ab, ao, none⟩) A.lt h1).trans A.f0, row_keeps A.row hK h3, map_keeps A.own hK h2, Nat.lt_of_lt_of_le A.lt hK.size, A.map, A.apart⟩
theorem Ar.keeps {F G : Nat → Prop} {w w' : World} {ab : Nat} {L : List Tm} (A : Ar w ab L F) (hK : Keeps G w w') (hn : ∀ k, F k → ¬ G k) : Ar w' ab L F := by
  obtain ⟨np, cp, mb, D, vs, hA, hR, hM, hm, ho⟩ := A.ex
  exact ⟨⟨np, cp, mb, D, vs, hA.keeps hK (hn _ A.self) (hn _ hm) (fun k hk => hn k (ho k hk)), hR.keeps hK (fun k hk => hn k hk.1), hM, hm, ho⟩, A.wf, A.self, fun k hk => Nat.lt_of_lt_of_le (A.lt k hk) hK.size⟩
theorem Ar.below {F : Nat → Prop} {w w' : World} {ab : Nat} {L : List Tm} (A : Ar w ab L F) (hK : Below w.heap.size w w') : Ar w' ab L F := A.keeps (Keeps.of_below (F := fun _ => False) hK) (fun _ _ h => h)
theorem new_ar (w : World) : Calls Tryd.prog 27 #[] w fun e w' => ∃ ab F, e = .returned (.pointer (some ⟨ab, 0, none⟩)) ∧ Ar w' ab [] F ∧ (∀ k, F k → w.heap.size ≤ k) ∧ Below w.heap.size w w' := by
  refine (new_ok (H := Unit) w).mono ?_
  rintro e w' ⟨ab, mb, rfl, A, h1, h2, hB⟩
  have h3 := A.lt
  have h4 := A.own.lt
  exact ⟨ab, fun k => k = ab ∨ k = mb, rfl, ⟨⟨none, 0, mb, _, [], A, ⟨rfl, (fun i h => by cases h), (fun i h => by cases h)⟩, mapOf_nil, .inr rfl, fun k h => by simp [Value.ownBlock] at h⟩, wf_nil, .inl rfl, fun k hk => by rcases hk with rfl | rfl <;> assumption⟩, fun k hk => by rcases hk with rfl | rfl <;> assumption, hB⟩
theorem fits_getD {xs : List Int} {m : Nat} (h : ∀ x ∈ xs, 0 ≤ x ∧ x < (m : Int)) (t : Nat) (ht : t < xs.length) : 0 ≤ xs.getD t 0 ∧ xs.getD t 0 < m := by
  rw [List.getD_eq_getElem?_getD, List.getElem?_eq_getElem ht]
  exact h _ (List.getElem_mem ht)
theorem unfits {xs : List Int} {m : Nat} (h : ¬ ∀ x ∈ xs, 0 ≤ x ∧ x < (m : Int)) : ∃ t, t < xs.length ∧ ¬ (0 ≤ xs.getD t 0 ∧ xs.getD t 0 < m) := by
  simp only [Classical.not_forall] at h
  obtain ⟨x, hx, hn⟩ := h
  obtain ⟨t, ht, rfl⟩ := List.getElem_of_mem hx
  refine ⟨t, ht, fun hh => hn ?_⟩
  rw [List.getD_eq_getElem?_getD, List.getElem?_eq_getElem ht] at hh
  exact hh
/-- From Make's new way to the list. -/
theorem ar_grown {F : Nat → Prop} {w w' : World} {ab : Nat} {L : List Tm} {t : Tm} {np : Option Addr} {cp mb : Nat} {D : DataW Unit} {vs : List Value} {g cap : Nat} {v : Value} {base : Nat}
    (wf : Wf L) (self : F ab) (lt : ∀ k, F k → k < w.heap.size) (hA : Arena w ab 0 np L.length cp mb (cellsOf L vs) D) (hR : Rows3 w L vs (fun k => F k ∧ k ≠ ab ∧ k ≠ mb ∧ (Value.slice np L.length cp).ownBlock ≠ some k)) (hM : MapOf D L) (hm : F mb) (ho : ∀ k, (Value.slice np L.length cp).ownBlock = some k → F k)
    (ht : Named t) (hn : t ∉ L) (hroom : L.length < 1048576) (hfit : fitsIn L.length t)
    (hA' : Arena w' ab 0 (some ⟨g, 0, none⟩) (L.length + 1) cap mb (cellsOf L vs ++ [.int .i64 t.1, .int .i64 t.2.1, v]) (D.put (tkey t) (.lit (.int .i64 L.length)))) (hv : w'.ownsRow w.heap.size 3 1 v base (t.2.2.map (Value.int .i64))) (hg : (Value.slice np L.length cp).ownBlock = some g ∨ w.heap.size ≤ g) (hs : w.heap.size ≤ w'.heap.size)
    (hfr : ∀ k, k < w.heap.size → k ≠ ab → k ≠ mb → (Value.slice np L.length cp).ownBlock ≠ some k → w'.heap[k]? = w.heap[k]?) (hos : w'.os = w.os ∧ w'.tape = w.tape ∧ w'.output = w.output) :
    ∃ F', Ar w' ab (L ++ [t]) F' ∧ Keeps F w w' ∧ ∀ k, F' k → F k ∨ w.heap.size ≤ k := by
  have hK : Keeps (fun k => k = ab ∨ k = mb ∨ (Value.slice np L.length cp).ownBlock = some k) w w' := ⟨hos.1, hos.2.1, hos.2.2, hs, fun k hk hn => hfr k hk (fun e => hn (.inl e)) (fun e => hn (.inr (.inl e))) (fun e => hn (.inr (.inr e)))⟩
  have hab := lt _ self
  have hmb := lt _ hm
  have hgt : g < w'.heap.size := by
    rcases hA'.row.2 with ⟨h, _⟩ | ⟨g', cap', cur, h, _, hg', _⟩
    · cases h
    · cases h
      exact (Array.getElem?_eq_some_iff.1 hg').1
  have hvb : ∀ k, v.ownBlock = some k → w.heap.size ≤ k ∧ k < w'.heap.size := fun k hk => row_base hv hk
  have hvg : ∀ k, v.ownBlock = some k → k ≠ g := by
    rintro k hk rfl
    rcases hA'.row.2 with ⟨h, _⟩ | ⟨g', cap', cur, h, _, hg', _⟩
    · cases h
    · cases h
      rcases hv.2 with ⟨h, _⟩ | ⟨g2, cap2, cur2, h, _, hg2, _⟩
      · subst h
        simp [Value.ownBlock] at hk
      · subst h
        obtain rfl : g2 = k := by simpa [Value.ownBlock] using hk
        rw [hg'] at hg2
        simp at hg2
  refine ⟨fun k => F k ∨ k = g ∨ v.ownBlock = some k, ⟨⟨some ⟨g, 0, none⟩, cap, mb, D.put (tkey t) (.lit (.int .i64 L.length)), vs ++ [v], ?_, ?_, hM.put wf ht hn, .inl hm, ?_⟩, ?_, .inl self, ?_⟩, hK.mono ?_, ?_⟩
  · rw [cellsOf_snoc hR.len, List.length_append]
    exact hA'
  · have hR2 := (hR.keeps hK (fun k hk hc => by rcases hc with h | h | h; exact hk.2.1 h; exact hk.2.2.1 h; exact hk.2.2.2 h)).mono (F' := fun k => (F k ∨ k = g ∨ v.ownBlock = some k) ∧ k ≠ ab ∧ k ≠ mb ∧ (Value.slice (some ⟨g, 0, none⟩) (L.length + 1) cap).ownBlock ≠ some k) (fun k hk => by
      refine ⟨.inl hk.1, hk.2.1, hk.2.2.1, fun e => ?_⟩
      obtain rfl : g = k := by simpa [Value.ownBlock] using e
      rcases hg with h | h
      · exact hk.2.2.2 h
      · have := lt g hk.1
        omega)
    rw [List.length_append]
    refine hR2.snoc (irow_of hv) (fun k hk => ⟨.inr (.inr hk), ?_, ?_, fun e => ?_⟩)
    · have := (hvb k hk).1
      omega
    · have := (hvb k hk).1
      omega
    · obtain rfl : g = k := by simpa [Value.ownBlock] using e
      exact hvg g hk rfl
  · intro k e
    obtain rfl : g = k := by simpa [Value.ownBlock] using e
    exact .inr (.inl rfl)
  · have := wf.put (t := t) ht.2.1
    unfold Proofs.YtenllpaochcjfaaDoor.put at this
    rwa [if_neg (by simp [ht.1]), if_neg (by simpa using hfit), if_neg hn, if_neg (by omega)] at this
  · intro k hk
    rcases hk with h | rfl | h
    · exact Nat.lt_of_lt_of_le (lt k h) hs
    · exact hgt
    · exact (hvb k h).2
  · rintro k hk (rfl | rfl | h)
    · exact self
    · exact hm
    · exact ho k h
  · rintro k (h | rfl | h)
    · exact .inl h
    · rcases hg with h | h
      · exact .inl (ho _ h)
      · exact .inr h
    · exact .inr (hvb k h).1
set_option maxHeartbeats 2000000 in
/-- MAKE. -/
theorem make_ok {F : Nat → Prop} {w : World} {ab : Nat} {L : List Tm} (A : Ar w ab L F) (k n : Int) {v : Value} {xs : List Int} (hv : Reads w v xs) (hn : n < 9223372036854775808) :
    Calls Tryd.prog 26 #[.pointer (some ⟨ab, 0, none⟩), .int .i64 k, .int .i64 n, v] w fun e w' => e = .returned (.tuple #[.int .i64 (put L (k, n, xs)).1, .int .i64 (put L (k, n, xs)).2.1]) ∧ ∃ F', Ar w' ab (put L (k, n, xs)).2.2 F' ∧ Keeps F w w' ∧ ∀ k, F' k → F k ∨ w.heap.size ≤ k := by
  have hslice : ∃ p c, v = .slice p xs.length c := by
    rcases hv with ⟨rfl, rfl⟩ | ⟨b, o, c, rfl, _⟩
    · exact ⟨none, 0, rfl⟩
    · exact ⟨_, _, rfl⟩
  by_cases h0 : shape (k, n, xs) ≠ 0
  · obtain ⟨p, c, rfl⟩ := hslice
    refine (make_bad ⟨ab, 0, none⟩ k n p xs.length c w h0).mono ?_
    rintro e w' ⟨rfl, rfl⟩
    rw [put_bad h0]
    exact ⟨rfl, F, A, Keeps.refl _ _, fun k h => .inl h⟩
  have h0s : shape (k, n, xs) = 0 := Classical.not_not.1 h0
  have h0' : rightOf k n xs.length = 0 := h0s
  have h400 := (shape_k (t := (k, n, xs)) h0').2.2.2
  have h1000 : xs.length ≤ 1000 := by simp only at h400; omega
  obtain ⟨np, cp, mb, D, vs, hA, hR, hM, hm, ho⟩ := A.ex
  by_cases h8 : fitsIn L.length (k, n, xs)
  rotate_left
  · rw [put_out h0s h8]
    rcases hv with ⟨rfl, rfl⟩ | ⟨b, o, c, rfl, hb, hc⟩
    · exact absurd (fun x hx => by cases hx) h8
    refine (make_out rfl h1000 hb hc h0' hA.c0 (unfits h8)).mono ?_
    rintro e w' ⟨rfl, rfl⟩
    exact ⟨rfl, F, A, Keeps.refl _ _, fun k h => .inl h⟩
  have hNm : Named (k, n, xs) := ⟨h0', hn, fitsIn_mono h8 A.wf.len⟩
  have hkey := key_ok k n xs h1000
  have hhas := hM.has _ hNm
  by_cases hin : (k, n, xs) ∈ L
  · rw [put_in h0s h8 hin]
    have hi := List.idxOf_lt_length_iff.2 hin
    have hat := hM.at_ _ hi (.lit (.int .i64 0))
    rw [List.getElem_idxOf] at hat
    have hans : ∀ cc : Int, D.atKey (keyL k n xs) (.lit (.int .i64 0)) = .lit (.int .i64 cc) → cc = (L.idxOf (k, n, xs) : Nat) := fun cc h => by
      rw [show D.atKey (keyL k n xs) (.lit (.int .i64 0)) = _ from hat] at h
      injection h with h
      injection h with _ h
      exact h.symm
    rw [show Maps.has D (tkey (k, n, xs)) = Maps.has D (keyL k n xs) from rfl, decide_eq_true hin] at hhas
    rcases hv with ⟨rfl, rfl⟩ | ⟨b, o, c, rfl, hb, hc⟩
    · refine (make_found_nil (H := Unit) h0' hA hkey hhas).mono ?_
      rintro e w' ⟨cc, hcc, rfl, hB⟩
      rw [hans cc hcc]
      exact ⟨rfl, F, A.below hB, Keeps.of_below hB, fun k h => .inl h⟩
    · refine (make_found (H := Unit) rfl h1000 hb hc h0' hA.c0 (fits_getD h8) hA.c1 hA.own hA.lt hkey hhas).mono ?_
      rintro e w' ⟨cc, hcc, rfl, hB⟩
      rw [hans cc hcc]
      exact ⟨rfl, F, A.below hB, Keeps.of_below hB, fun k h => .inl h⟩
  rw [show Maps.has D (tkey (k, n, xs)) = Maps.has D (keyL k n xs) from rfl, decide_eq_false hin] at hhas
  by_cases hfull : 1048576 ≤ L.length
  · rw [put_full h0s h8 hin hfull]
    rcases hv with ⟨rfl, rfl⟩ | ⟨b, o, c, rfl, hb, hc⟩
    · refine (make_full_nil (H := Unit) h0' hA hfull hkey hhas).mono ?_
      rintro e w' ⟨rfl, hB⟩
      exact ⟨rfl, F, A.below hB, Keeps.of_below hB, fun k h => .inl h⟩
    · refine (make_full (H := Unit) rfl h1000 hb hc h0' hA (fits_getD h8) hfull hkey hhas).mono ?_
      rintro e w' ⟨rfl, hB⟩
      exact ⟨rfl, F, A.below hB, Keeps.of_below hB, fun k h => .inl h⟩
  rw [put_new h0s h8 hin hfull]
  rcases hv with ⟨rfl, rfl⟩ | ⟨b, o, c, rfl, hb, hc⟩
  · refine (make_new_nil (H := Unit) h0' hA (by omega) hkey hhas).mono ?_
    rintro e w' ⟨g, cap, rfl, hA', hv', hg, hs, hfr, hos⟩
    exact ⟨rfl, ar_grown A.wf A.self A.lt hA hR hM hm ho hNm hin (by omega) h8 hA' hv' hg hs hfr hos⟩
  · refine (make_new (H := Unit) rfl h1000 hb hc h0' hA (fits_getD h8) (by omega) hkey hhas).mono ?_
    rintro e w' ⟨g, cap, p4, c4, rfl, hA', hv', hg, hs, hfr, hos⟩
    exact ⟨rfl, ar_grown A.wf A.self A.lt hA hR hM hm ho hNm hin (by omega) h8 hA' hv' hg hs hfr hos⟩
end Go.Proofs.YtenllpaochcjfaaDoor
