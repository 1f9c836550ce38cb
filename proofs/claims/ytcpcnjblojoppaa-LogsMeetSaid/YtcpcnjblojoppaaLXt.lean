/-
  LAYER 25: what a put body turns. Own work.
-/
import Derived.Test.YtcpcnjblojoppaaLXs
namespace Go.Proofs.Ytcpcnjblojoppaa
open Go.ChangeShapes Go.WideShapes Go.ChangeAt Go.RowKit Go.Maps
set_option maxRecDepth 100000
theorem right_ins {S : List Lg} {client : Int} {a : Nat} (hR : Right S) (hA : AtL S client a) (hf : foundL S client a = false) (hc0 : 0 ≤ client) (hc8 : client < 8) : Right (insL S a (newLg client)) := by
  have hlen := ins_len (x := newLg client) hA.le
  have old : ∀ k (h : k < (insL S a (newLg client)).length), k ≠ a → ∃ g, S[wasAt a k]? = some g ∧ (insL S a (newLg client))[k] = g := fun k h hne => by
    obtain ⟨h', e⟩ := ins_was hA.le k h hne
    exact ⟨_, List.getElem?_eq_getElem h', e⟩
  have gt : ∀ t g, S[t]? = some g → a ≤ t → client < g.c := fun t g hg ht => by
    have h1 := hA.hi t g hg ht
    rcases Nat.lt_or_ge a t with h | h
    · have h2 := List.getElem?_eq_getElem (show a < S.length by have := (List.getElem?_eq_some_iff.1 hg).1; omega)
      have h3 := right_up hR h2 hg h
      have h4 := hA.hi a _ h2 (Nat.le_refl _)
      omega
    · obtain rfl : t = a := by omega
      have : g.c ≠ client := fun e => by
        unfold foundL at hf
        exact of_decide_eq_false hf ⟨g, hg, e⟩
      omega
  refine ⟨fun k hk => ?_, fun i j hij hj => ?_⟩
  · by_cases he : k = a
    · subst he
      rw [ins_at hA.le hk]
      exact ⟨hc0, hc8, by simp [newLg], by simp [newLg], by simp [newLg], fun x hx => by simp [newLg] at hx⟩
    · obtain ⟨g, hg, e⟩ := old k hk he
      rw [e]
      exact right_ok' hR hg
  · by_cases hi : i = a
    · subst hi
      rw [ins_at hA.le (by omega)]
      obtain ⟨g, hg, e⟩ := old j hj (by omega)
      rw [e]
      refine gt _ g hg ?_
      unfold wasAt
      rw [if_neg (by omega)]
      omega
    · obtain ⟨g, hg, e⟩ := old i (by omega) hi
      by_cases hja : j = a
      · subst hja
        rw [e, ins_at hA.le hj]
        refine hA.lo _ g hg ?_
        unfold wasAt
        rw [if_pos hij]
        exact hij
      · obtain ⟨g2, hg2, e2⟩ := old j hj hja
        rw [e, e2]
        refine right_up hR hg hg2 ?_
        unfold wasAt
        split <;> split <;> omega
theorem right_app {B T : List Lg} {a : Nat} {body : Int} (hR : Right B) (ha : a < B.length) (hx : B[a].xs.length < 32) (hb0 : 0 ≤ body) (hb1 : body ≤ 1048576) (h : appL B a body T) : Right T := by
  obtain ⟨hl, hh⟩ := h
  refine ⟨fun k hk => ?_, fun i j hij hj => ?_⟩
  · obtain ⟨e0, e1, e2⟩ := hh k (by omega) hk
    obtain ⟨c0, c1, c2, c3, c4, c5⟩ := hR.1 k (by omega)
    unfold okLg
    rw [e0, e1, e2]
    refine ⟨c0, c1, c2, c3, ?_, ?_⟩
    · split
      · rename_i hk'
        subst hk'
        rw [List.length_append]
        simp
        omega
      · exact c4
    · intro x hx
      split at hx
      · rcases List.mem_append.1 hx with h | h
        · exact c5 x h
        · rw [List.mem_singleton.1 h]
          exact ⟨hb0, hb1⟩
      · exact c5 x hx
  · rw [(hh i (by omega) (by omega)).1, (hh j (by omega) hj).1]
    exact hR.2 i j hij (by omega)
/-- What one has of a client. -/
def HadOf (S : List Lg) (c : Int) (h : Int) : Prop := (∃ g, g ∈ S ∧ g.c = c ∧ h = g.b + g.xs.length) ∨ ((∀ g ∈ S, g.c ≠ c) ∧ h = 0)
theorem HaveR.of {S : List Lg} {zs : List Int} (h : HaveR S S.length zs) {c : Nat} (hc : c < 8) : HadOf S c (zs.getD c 0) := by
  by_cases hex : ∃ g, g ∈ S ∧ g.c = c
  · obtain ⟨g, hg, e⟩ := hex
    obtain ⟨i, hi, rfl⟩ := List.getElem_of_mem hg
    refine .inl ⟨_, hg, e, ?_⟩
    have := h.yes i _ (List.getElem?_eq_getElem hi) hi
    rw [e, Int.toNat_natCast] at this
    exact this
  · refine .inr ⟨fun g hg e => hex ⟨g, hg, e⟩, h.no c hc (fun i g hg _ e => hex ⟨g, List.mem_of_getElem? hg, e⟩)⟩
theorem right_one {S : List Lg} (hR : Right S) {g k : Lg} (hg : g ∈ S) (hk : k ∈ S) (h : g.c = k.c) : g = k := by
  obtain ⟨i, hi, rfl⟩ := List.getElem_of_mem hg
  obtain ⟨j, hj, rfl⟩ := List.getElem_of_mem hk
  rcases Nat.lt_trichotomy i j with h1 | h1 | h1
  · have := hR.2 i j h1 hj
    omega
  · subst h1
    rfl
  · have := hR.2 j i h1 hi
    omega
theorem HadOf.same {S : List Lg} (hR : Right S) {c h h' : Int} (a : HadOf S c h) (b : HadOf S c h') : h = h' := by
  rcases a with ⟨g, hg, e, rfl⟩ | ⟨hn, rfl⟩
  · rcases b with ⟨k, hk, e', rfl⟩ | ⟨hn', _⟩
    · rw [right_one hR hg hk (e.trans e'.symm)]
    · exact absurd e (hn' g hg)
  · rcases b with ⟨k, hk, e', _⟩ | ⟨_, rfl⟩
    · exact absurd e' (hn k hk)
    · rfl
theorem HadOf.is {S : List Lg} (hR : Right S) {c : Nat} (hc : c < 8) {h : Int} (a : HadOf S c h) : HadIs S c h := fun zs hz => (hz.of hc).same hR a
/-- A body more: one has one more of that client, and of no other. -/
theorem HadOf.app {B T : List Lg} {a : Nat} {body c h : Int} (hR : Right B) (ha : a < B.length) (hap : appL B a body T) (hh : HadOf B c h) : HadOf T c (h + if c = B[a].c then 1 else 0) := by
  obtain ⟨hl, hx⟩ := hap
  rcases hh with ⟨g, hg, e, rfl⟩ | ⟨hn, rfl⟩
  · obtain ⟨i, hi, rfl⟩ := List.getElem_of_mem hg
    obtain ⟨e0, e1, e2⟩ := hx i hi (by omega)
    refine .inl ⟨T[i], List.getElem_mem _, e0.trans e, ?_⟩
    rw [e1, e2]
    by_cases hi' : i = a
    · subst hi'
      rw [if_pos e.symm, if_pos rfl, List.length_append]
      simp
      omega
    · have hne : ¬ c = B[a].c := fun h => hi' (by
        rcases Nat.lt_trichotomy i a with h1 | h1 | h1
        · have := hR.2 i a h1 ha; omega
        · exact h1
        · have := hR.2 a i h1 hi; omega)
      rw [if_neg hne, if_neg hi']
      omega
  · refine .inr ⟨fun g hg e => ?_, ?_⟩
    · obtain ⟨i, hi, rfl⟩ := List.getElem_of_mem hg
      have := (hx i (by omega) hi).1
      exact hn _ (List.getElem_mem (show i < B.length by omega)) (this.symm.trans e)
    · rw [if_neg (fun h => hn _ (List.getElem_mem ha) h.symm)]
      rfl
theorem HadOf.ins {S : List Lg} {a : Nat} {client c h : Int} (ha : a ≤ S.length) (hnf : ∀ g ∈ S, g.c ≠ client) (hh : HadOf S c h) : HadOf (insL S a (newLg client)) c h := by
  have mem : ∀ g, g ∈ insL S a (newLg client) ↔ g = newLg client ∨ g ∈ S := fun g => by
    unfold insL
    rw [List.mem_append, List.mem_cons]
    constructor
    · rintro (h | h | h)
      · exact .inr (List.mem_of_mem_take h)
      · exact .inl h
      · exact .inr (List.mem_of_mem_drop h)
    · rintro (h | h)
      · exact .inr (.inl h)
      · rw [← List.take_append_drop a S, List.mem_append] at h
        rcases h with h | h
        · exact .inl h
        · exact .inr (.inr h)
  rcases hh with ⟨g, hg, e, rfl⟩ | ⟨hn, rfl⟩
  · exact .inl ⟨g, (mem g).2 (.inr hg), e, rfl⟩
  · by_cases hc : c = client
    · subst hc
      exact .inl ⟨newLg c, (mem _).2 (.inl rfl), rfl, by simp [newLg]⟩
    · refine .inr ⟨fun g hg e => ?_, rfl⟩
      rcases (mem g).1 hg with rfl | h
      · exact hc e.symm
      · exact hn g h e
end Go.Proofs.Ytcpcnjblojoppaa
