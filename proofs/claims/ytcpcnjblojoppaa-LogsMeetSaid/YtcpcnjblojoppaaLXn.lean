/-
  LAYER 25: copies of wide elements; cells overwritten in a row. Own work.
-/
import Derived.Test.YtcpcnjblojoppaaLXh
import Derived.Laws.IdiomCopy
import Derived.Lib.AppendZerosOnto
import Derived.Shelf.Spec.SlicesInsert
import Derived.Lib.Overlaps
namespace Go.Proofs.Ytcpcnjblojoppaa
open Go.ChangeShapes Go.WideShapes Go.ChangeAt Go.RowKit Go.Maps
set_option maxRecDepth 100000
theorem run_copy_wide {P : Program} (w : World) (dT sT ty elem : TypeId) (i : TypeInfo) (b o dLen dCap : Nat) (a : Addr) (sLen sCap k : Nat) (cs : List Value)
    (hu : P.underlying dT = some (.slice elem)) (hi : P.info? elem = some i) (hk : Nat.min sLen dLen = k) (hn : cs.length = k * i.size)
    (hsrc : ∀ j v, cs[j]? = some v → w.cell? (a.add j) = some v) (hc : ∀ j, j < cs.length → (w.cell? ⟨b, o + j, none⟩).isSome = true) (hf : ∀ j, j < cs.length → w.frozen? ⟨b, o + j, none⟩ = false) (h1 : ∀ v ∈ cs, v.oneCell' = true) :
    (Builtin.copy_ #[dT, sT] ty #[.slice (some ⟨b, o, none⟩) dLen dCap, .slice (some a) sLen sCap]).run P w = .ok (goInt k) (w.setCells b o cs) := by
  have hl := run_loadCells_list (P := P) w a cs hsrc
  have hst := run_storeCells_cells (P := P) b o cs 0 w (by simpa using hc) (by simpa using hf) h1
  simp [Builtin.copy_, run_underlying hu, Builtin.lenOf, Builtin.firstCells, sizeOf, typeInfo, hi, hk, ← hn, hl, hst]
def over : List Value → Nat → List Value → List Value
  | xs, _, [] => xs
  | xs, o, v :: r => over (xs.set o v) (o + 1) r
theorem over_len : ∀ (vs xs : List Value) (o : Nat), (over xs o vs).length = xs.length
  | [], _, _ => rfl
  | v :: r, xs, o => by
    unfold over
    rw [over_len r, List.length_set]
theorem over_get : ∀ (vs xs : List Value) (o k : Nat), o + vs.length ≤ xs.length → (over xs o vs)[k]? = if o ≤ k ∧ k < o + vs.length then vs[k - o]? else xs[k]?
  | [], xs, o, k, _ => by
    unfold over
    rw [if_neg (by simp only [List.length_nil]; omega)]
  | v :: r, xs, o, k, h => by
    simp only [List.length_cons] at h ⊢
    unfold over
    rw [over_get r _ _ _ (by rw [List.length_set]; omega)]
    by_cases h1 : o + 1 ≤ k ∧ k < o + 1 + r.length
    · rw [if_pos h1, if_pos (by omega), show k - o = (k - (o + 1)) + 1 by omega]
      simp
    · rw [if_neg h1]
      by_cases h2 : k = o
      · subst h2
        rw [if_pos (by omega), List.getElem?_set_self (by omega)]
        simp
      · rw [if_neg (by omega), List.getElem?_set_ne (by omega)]
theorem own_over {base e size g n c : Nat} : ∀ (vs : List Value) (o : Nat) (w : World) (xs : List Value), w.ownsRow base e size (.slice (some ⟨g, 0, none⟩) n c) n xs →
    (w.setCells g o vs).ownsRow base e size (.slice (some ⟨g, 0, none⟩) n c) n (over xs o vs) ∧ w.grownBy (w.setCells g o vs) (some g)
  | [], _, w, _, h => ⟨h, rfl, rfl, rfl, Nat.le_refl _, fun _ _ _ => rfl⟩
  | v :: r, o, w, xs, h => by
    obtain ⟨h1, h2⟩ := World.ownsRow.stored h o v
    obtain ⟨h3, h4⟩ := own_over r (o + 1) _ _ h1
    refine ⟨h3, h4.os.trans h2.os, h4.tape.trans h2.tape, h4.output.trans h2.output, Nat.le_trans h2.size h4.size, fun k hk hne => ?_⟩
    exact (h4.block k (Nat.lt_of_lt_of_le hk h2.size) hne).trans (h2.block k hk hne)
/-- What a row of three-celled elements is when one is put in at i. -/
theorem over_ins {xs vs cs : List Value} {i3 : Nat} (hv : vs.length = 3) (hi : i3 ≤ cs.length) (hl : xs.length = cs.length + 3) (hh : ∀ k, k < i3 → xs[k]? = cs[k]?) : over (over xs i3 vs) (i3 + 3) (cs.drop i3) = cs.take i3 ++ vs ++ cs.drop i3 := by
  apply List.ext_getElem?
  intro k
  have hd : (cs.drop i3).length = cs.length - i3 := List.length_drop
  have ht : (cs.take i3).length = i3 := by rw [List.length_take]; omega
  rw [over_get _ _ _ _ (by rw [over_len, hd]; omega), over_get _ _ _ _ (by omega), hd, hv]
  by_cases h1 : k < i3
  · rw [if_neg (by omega), if_neg (by omega), hh k h1, List.append_assoc, List.getElem?_append_left (by omega), List.getElem?_take, if_pos h1]
  · by_cases h2 : k < i3 + 3
    · rw [if_neg (by omega), if_pos (by omega), List.append_assoc, List.getElem?_append_right (by omega), ht, List.getElem?_append_left (by omega)]
    · rw [List.append_assoc, List.getElem?_append_right (by omega), ht, List.getElem?_append_right (by omega), hv]
      by_cases h3 : k < i3 + 3 + (cs.length - i3)
      · rw [if_pos (by omega)]
        first | rfl | (congr 1; omega)
      · rw [if_neg (by omega), if_neg (by omega), List.getElem?_eq_none (by omega), List.getElem?_eq_none (by rw [hd]; omega)]
theorem over_ins2 {xs vs cs : List Value} {i3 : Nat} (hv : vs.length = 3) (hi : i3 ≤ cs.length) (hl : xs.length = cs.length + 3) (hh : ∀ k, k < i3 → xs[k]? = cs[k]?) : over (over xs (i3 + 3) (cs.drop i3)) i3 vs = cs.take i3 ++ vs ++ cs.drop i3 := by
  rw [← over_ins hv hi hl hh]
  apply List.ext_getElem?
  intro k
  have hd : (cs.drop i3).length = cs.length - i3 := List.length_drop
  rw [over_get _ _ _ _ (by rw [over_len]; omega), over_get _ _ _ _ (by rw [hd]; omega), over_get _ _ _ _ (by rw [over_len, hd]; omega), over_get _ _ _ _ (by omega), hd, hv]
  by_cases h1 : i3 ≤ k ∧ k < i3 + 3
  · rw [if_pos h1, if_neg (by omega), if_pos h1]
  · rw [if_neg h1]
    split
    · rfl
    · rfl
end Go.Proofs.Ytcpcnjblojoppaa
