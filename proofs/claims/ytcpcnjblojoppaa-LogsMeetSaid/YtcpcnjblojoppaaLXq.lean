/-
  LAYER 25: put, where the client's log comes ahead of others. Own work.
-/
import Derived.Test.YtcpcnjblojoppaaLXp
import Derived.Test.YtcpcnjblojoppaaLXi
namespace Go.Proofs.Ytcpcnjblojoppaa
open Go.ChangeShapes Go.WideShapes Go.ChangeAt Go.RowKit Go.Maps
set_option maxRecDepth 100000
attribute [local go_sem ↓] Go.wp_at_zero Go.wp_at_succ
theorem ins_len {T : List Lg} {i : Nat} {x : Lg} (hi : i ≤ T.length) : (insL T i x).length = T.length + 1 := by
  unfold insL
  rw [List.length_append, List.length_cons, List.length_take, List.length_drop]
  omega
theorem ins_get {T : List Lg} {i : Nat} {x : Lg} (hi : i ≤ T.length) (k : Nat) : (insL T i x)[k]? = if k < i then T[k]? else if k = i then some x else T[k - 1]? := by
  unfold insL
  have ht : (T.take i).length = i := by rw [List.length_take]; omega
  by_cases h1 : k < i
  · rw [if_pos h1, List.getElem?_append_left (by omega), List.getElem?_take, if_pos h1]
  · rw [if_neg h1, List.getElem?_append_right (by omega), ht]
    by_cases h2 : k = i
    · subst h2
      simp
    · rw [if_neg h2, show k - i = (k - i - 1) + 1 by omega, List.getElem?_cons_succ, List.getElem?_drop]
      congr 1
      omega
theorem ins_at {T : List Lg} {i : Nat} {x : Lg} (hi : i ≤ T.length) (h : i < (insL T i x).length) : (insL T i x)[i] = x := by
  have := ins_get (x := x) hi i
  rw [if_neg (by omega), if_pos rfl, List.getElem?_eq_getElem h] at this
  exact Option.some.inj this
/-- Another one, where it was. -/
def wasAt (i k : Nat) : Nat := if k < i then k else k - 1
theorem ins_was {T : List Lg} {i : Nat} {x : Lg} (hi : i ≤ T.length) (k : Nat) (h : k < (insL T i x).length) (hne : k ≠ i) : ∃ h' : wasAt i k < T.length, (insL T i x)[k] = T[wasAt i k] := by
  have hl := ins_len (x := x) hi
  have hw : wasAt i k < T.length := by unfold wasAt; split <;> omega
  refine ⟨hw, ?_⟩
  have := ins_get (x := x) hi k
  rw [List.getElem?_eq_getElem h] at this
  by_cases h1 : k < i
  · have e : wasAt i k = k := by unfold wasAt; rw [if_pos h1]
    rw [if_pos h1, List.getElem?_eq_getElem (by omega)] at this
    have := Option.some.inj this
    rw [this]
    congr 1
    exact e.symm
  · have e : wasAt i k = k - 1 := by unfold wasAt; rw [if_neg h1]
    rw [if_neg h1, if_neg hne, List.getElem?_eq_getElem (by omega)] at this
    have := Option.some.inj this
    rw [this]
    congr 1
    exact e.symm
theorem was_ne {i k k' : Nat} (h : k ≠ i) (h' : k' ≠ i) (hne : k' ≠ k) : wasAt i k' ≠ wasAt i k := by
  unfold wasAt
  split <;> split <;> omega
theorem ins_flat {T : List Lg} {i : Nat} {x : Lg} (hi : i ≤ T.length) : flatL (insL T i x) = (flatL T).take (i * 3) ++ lgC x ++ (flatL T).drop (i * 3) := by
  have e : flatL T = flatL (T.take i) ++ flatL (T.drop i) := by
    unfold flatL
    rw [← List.flatMap_append, List.take_append_drop]
  have hl : (flatL (T.take i)).length = i * 3 := by rw [flat_len, List.length_take]; congr 1; omega
  rw [e, List.take_left' hl, List.drop_left' hl]
  unfold insL flatL
  rw [List.flatMap_append, List.flatMap_cons, List.append_assoc]
theorem OwnT.insm {w w1 : World} {base n i : Nat} {v v' : Value} {T : List Lg} {x : Lg} (h : OwnT w base v T n) (hn : T.length = n) (hi : i ≤ n) (hG : w.grownBy w1 v.ownBlock) (hu : w1.ownsRow base 52 3 v' (n + 1) ((flatL T).take (i * 3) ++ lgC x ++ (flatL T).drop (i * 3))) (hat : v'.ownBlock = v.ownBlock ∨ v'.ownBlock = some w.heap.size) (hx : x.v = .slice none 0 0) (hx0 : x.xs = []) : OwnT w1 base v' (insL T i x) (n + 1) := by
  subst hn
  have nob : ∀ k, (Value.slice none 0 0).ownBlock ≠ some k := fun k h => by simp [Value.ownBlock] at h
  refine ⟨?_, ?_, ?_, ?_⟩
  · rw [ins_flat hi, ins_len hi]
    exact hu
  · intro k hk hlt
    by_cases he : k = i
    · subst he
      rw [ins_at hi hk, hx, hx0]
      exact World.ownsRow_nil _ _ _ _
    · obtain ⟨h', e⟩ := ins_was hi k hk he
      rw [e]
      exact own_grown (h.own _ h' h') hG (fun q hq e => h.apart _ h' h' q hq e)
  · intro k hk hlt q hq hq'
    by_cases he : k = i
    · subst he
      rw [ins_at hi hk, hx] at hq
      exact nob q hq
    · obtain ⟨h', e⟩ := ins_was hi k hk he
      rw [e] at hq
      rcases hat with h1 | h1
      · exact h.apart _ h' h' q hq (h1 ▸ hq')
      · rw [h1] at hq'
        cases hq'
        have := (own_block (h.own _ h' h') hq).2
        omega
  · intro k k' hk hk' hlt hlt' hne q hq hq'
    by_cases he : k = i
    · subst he
      rw [ins_at hi hk, hx] at hq
      exact nob q hq
    · obtain ⟨h1, e⟩ := ins_was hi k hk he
      rw [e] at hq
      by_cases he' : k' = i
      · subst he'
        rw [ins_at hi hk', hx] at hq'
        exact nob q hq'
      · obtain ⟨h2, e2⟩ := ins_was hi k' hk' he'
        rw [e2] at hq'
        exact h.two _ _ h1 h2 h1 h2 (was_ne he he' hne) q hq hq'
theorem Alike.ins {S T : List Lg} (h : Alike S T) {i : Nat} (hi : i ≤ S.length) (x : Lg) : Alike (insL S i x) (insL T i x) := by
  obtain ⟨hl, hh⟩ := h
  have hi' : i ≤ T.length := by omega
  refine ⟨by rw [ins_len hi, ins_len hi', hl], fun k hk hk' => ?_⟩
  by_cases he : k = i
  · subst he
    rw [ins_at hi hk, ins_at hi' hk']
    exact ⟨rfl, rfl, rfl⟩
  · obtain ⟨h1, e1⟩ := ins_was hi k hk he
    obtain ⟨h2, e2⟩ := ins_was hi' k hk' he
    rw [e1, e2]
    exact hh _ h1 h2
theorem in3_ins {S : List Lg} {client : Int} {i : Nat} (h : ∀ i (h : i < S.length), In3 S[i]) (hi : i ≤ S.length) (hc : In64 client) : ∀ k (h : k < (insL S i (newLg client)).length), In3 (insL S i (newLg client))[k] := by
  intro k hk
  by_cases he : k = i
  · subst he
    rw [ins_at hi hk]
    exact ⟨hc, by simp [newLg, In64], fun x hx => by simp [newLg] at hx⟩
  · obtain ⟨h1, e1⟩ := ins_was hi k hk he
    rw [e1]
    exact h _ h1
theorem new_one (client : Int) : ∀ u ∈ lgC (newLg client), u.oneCell' = true := by
  intro u hu
  simp only [lgC, newLg, List.mem_cons, List.not_mem_nil, or_false] at hu
  rcases hu with rfl | rfl | rfl <;> rfl
/-- slices.Insert of one log, in the middle. -/
theorem insert_mid (p : Option Addr) (n c i b1 base : Nat) (cs : List Value) (client : Int) (w : World) (hb : base ≤ w.heap.size) (hown : w.ownsRow base 52 3 (.slice p n c) n cs) (hnb : w.heap[b1]? = some (.cells (lgC (newLg client)).toArray 52)) (hne : (Value.slice p n c).ownBlock ≠ some b1) (h1c : ∀ u ∈ cs, u.oneCell' = true) (hi : i < n) (h4 : n ≤ 1000) :
    Calls Try.prog 36 #[.slice p n c, .int .i64 i, .slice (some ⟨b1, 0, none⟩) 1 1] w fun e w' => ∃ v', e = .returned v' ∧ w'.ownsRow base 52 3 v' (n + 1) (cs.take (i * 3) ++ lgC (newLg client) ++ cs.drop (i * 3)) ∧ w.grownBy w' (Value.slice p n c).ownBlock ∧ (v'.ownBlock = (Value.slice p n c).ownBlock ∨ v'.ownBlock = some w.heap.size) := by
  obtain ⟨g, rfl, hg1, hg2, hnc, _⟩ := row_open hown (by omega)
  have hob : (Value.slice (some ⟨g, 0, none⟩) n c).ownBlock = some g := rfl
  rw [hob] at hne ⊢
  by_cases hroom : n + 1 ≤ c
  · exact insert_shift g n c i b1 base cs _ w hown rfl hnb (fun e => hne (by rw [e])) h1c (new_one client) hi h4 hroom
  · obtain rfl : c = n := by omega
    exact insert_grow g c i b1 base cs _ w hb hown rfl (fun j u hj => by rw [cell_of_row w b1 j _ _ (0, 0) hnb]; simpa using hj) h1c (new_one client) hi h4
end Go.Proofs.Ytcpcnjblojoppaa
