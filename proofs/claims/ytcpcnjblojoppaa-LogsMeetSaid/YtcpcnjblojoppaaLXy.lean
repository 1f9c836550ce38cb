/-
  LAYER 25: Have as a row of one's own; what is alike is as right. Own work.
-/
import Derived.Test.YtcpcnjblojoppaaLXw
namespace Go.Proofs.Ytcpcnjblojoppaa
open Go.ChangeShapes Go.WideShapes Go.ChangeAt Go.RowKit Go.Maps
set_option maxRecDepth 100000
/-- Have, as a row of one's own. -/
theorem have_row {v : Value} {S : List Lg} {ws : World} (h : Logs ws v S) (h4 : S.length ≤ 1000) (hR : Right S) : Calls Try.prog 14 #[v] ws fun e w' => ∃ g c zs, e = .returned (.slice (some ⟨g, 0, none⟩) 8 c) ∧ HaveR S S.length zs ∧ w'.ownsRow ws.heap.size 3 1 (.slice (some ⟨g, 0, none⟩) 8 c) 8 (zs.map (Value.int .i64)) ∧ Below ws.heap.size ws w' := by
  have h' := h
  obtain ⟨p, c, rfl, _⟩ := h
  refine (have_low p _ c S rfl h4 ws hR h').mono ?_
  rintro e w' ⟨g, c', rfl, zs, hz, hown, hB⟩
  exact ⟨g, c', zs, rfl, hz, hown, hB⟩
theorem row_cell {w : World} {base g c k : Nat} {zs : List Int} (h : w.ownsRow base 3 1 (.slice (some ⟨g, 0, none⟩) 8 c) 8 (zs.map (Value.int .i64))) (hk : k < 8) : w.cell? ⟨g, k, none⟩ = some (.int .i64 (zs.getD k 0)) := by
  have h2 := World.ownsRow.cellAt h k (by omega)
  have hl : zs.length = 8 := by have := h.1; simpa using this
  rw [h2, List.getElem?_map, List.getElem?_eq_getElem (by omega), List.getD_eq_getElem?_getD, List.getElem?_eq_getElem (by omega)]
  rfl
theorem Alike.right {S T : List Lg} (h : Alike S T) (hR : Right S) : Right T := by
  obtain ⟨hl, hh⟩ := h
  refine ⟨fun k hk => ?_, fun i j hij hj => ?_⟩
  · obtain ⟨e0, e1, e2⟩ := hh k (by omega) hk
    unfold okLg
    rw [e0, e1, e2]
    exact hR.1 k (by omega)
  · rw [(hh i (by omega) (by omega)).1, (hh j (by omega) hj).1]
    exact hR.2 i j hij (by omega)
theorem Alike.symm {S T : List Lg} (h : Alike S T) : Alike T S := ⟨h.1.symm, fun i hi hi' => by
  obtain ⟨e0, e1, e2⟩ := h.2 i hi' hi
  exact ⟨e0.symm, e1.symm, e2.symm⟩⟩
theorem Right.len {S : List Lg} (hR : Right S) : S.length ≤ 8 := by
  have key : ∀ i (h : i < S.length), (i : Int) ≤ S[i].c := by
    intro i
    induction i with
    | zero => intro h; exact (hR.1 0 h).1
    | succ i ih =>
      intro h
      have h1 := ih (by omega)
      have h2 := hR.2 i (i + 1) (by omega) h
      omega
  rcases Nat.lt_or_ge 8 S.length with h | h
  · have h1 := key 8 h
    have h2 := (hR.1 8 h).2.1
    omega
  · exact h
theorem HadOf.alike {S T : List Lg} {c h : Int} (hh : HadOf S c h) (hA : Alike S T) : HadOf T c h := by
  obtain ⟨hl, hx⟩ := hA
  rcases hh with ⟨g, hg, e, rfl⟩ | ⟨hn, rfl⟩
  · obtain ⟨i, hi, rfl⟩ := List.getElem_of_mem hg
    obtain ⟨e0, e1, e2⟩ := hx i hi (by omega)
    exact .inl ⟨T[i], List.getElem_mem _, e0.trans e, by rw [e1, e2]⟩
  · refine .inr ⟨fun g hg e => ?_, rfl⟩
    obtain ⟨i, hi, rfl⟩ := List.getElem_of_mem hg
    exact hn _ (List.getElem_mem (show i < S.length by omega)) ((hx i (by omega) hi).1.symm.trans e)
end Go.Proofs.Ytcpcnjblojoppaa
