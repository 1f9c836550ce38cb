/-
  STEPS: a node of both arenas. Own work.
-/
import Derived.Test.YtenllpaochcjfaaDoorSPj
namespace Go.Proofs.YtenllpaochcjfaaDoor
open Go.RowKit Go.Maps
set_option maxRecDepth 100000
theorem lit_two (w : World) (A : Obj) (x : Int) (e : TypeId) : RdW ((w.alloc A).alloc (.cells #[.int .i64 x] e)) (.slice (some ⟨w.heap.size + 1, 0, none⟩) 1 1) [x] := by
  have h := (reads_lit (w := w.alloc A) (n := 1) (cs := [.int .i64 x]) [x] rfl rfl e).rdw
  have e : (w.alloc A).heap.size = w.heap.size + 1 := by simp
  rw [e] at h
  exact h
section
variable {w wr w' : World} {aa bb : Nat} {L L' : List Tm} {u v : Value} {xs : List Int}
theorem node_two (T : Two w wr aa bb L L') {i : Nat} {k n : Int} {xs : List Int} (hi : L[i]? = some (k, n, xs)) : Calls Tryd.prog 52 #[.pointer (some ⟨aa, 0, none⟩), .int .i64 i] wr fun e w' => ∃ p c, e = .returned (.tuple #[.agg #[.int .i64 k, .int .i64 n, .slice p xs.length c], .int .i64 0]) ∧ TwoR w w' aa bb L L' (.slice p xs.length c) (.slice p xs.length c) xs := by
  obtain ⟨Fa, Fb, A, B, r1, r2, r3⟩ := T.ex
  refine (node_at A i _ hi).mono ?_
  rintro e w' ⟨p, c, rfl, hown, hB⟩
  have h1 := fun k hk => row_base hown (k := k) hk
  have s := T.below.size
  refine ⟨p, c, rfl, ⟨Fa, Fb, A.below hB, B.below hB, r1, r2, r3, fun k hk _ => ?_, fun k hk => ?_⟩, (irow_of hown).reads.rdw, row_nilcap hown, irow_of hown, T.below.trans (hB.mono s)⟩
  · have := (h1 k hk).1
    exact ⟨fun h => by have := A.lt k h; omega, fun h => by have := B.lt k h; omega⟩
  · have := h1 k hk
    exact ⟨fun h => by have := A.lt k h; omega, fun h => by have := B.lt k h; omega, by omega, this.2⟩
theorem node_two_no (T : Two w wr aa bb L L') (i : Int) (hi : ¬ (0 ≤ i ∧ i < L.length)) : Calls Tryd.prog 52 #[.pointer (some ⟨aa, 0, none⟩), .int .i64 i] wr fun e w' => e = .returned (.tuple #[.agg #[.int .i64 0, .int .i64 0, .slice none 0 0], .int .i64 8]) ∧ Two w w' aa bb L L' := by
  obtain ⟨Fa, Fb, A, r⟩ := T.ex
  refine (node_no A i hi).mono ?_
  rintro e w' ⟨rfl, hB⟩
  exact ⟨rfl, T.step hB⟩
theorem Two.alloc (T : Two w wr aa bb L L') (o : Obj) : Two w (wr.alloc o) aa bb L L' := T.step ((Below.refl _ wr).alloc (Nat.le_refl _) o)
theorem TwoR.alloc (T : TwoR w wr aa bb L L' u v xs) (o : Obj) : TwoR w (wr.alloc o) aa bb L L' u v xs := T.step ((Below.refl _ wr).alloc (Nat.le_refl _) o)
theorem TwoR.two (T : TwoR w wr aa bb L L' u v xs) : Two w wr aa bb L L' := by
  obtain ⟨Fa, Fb, A, B, r1, r2, r3, _⟩ := T.ex
  exact ⟨⟨Fa, Fb, A, B, r1, r2, r3⟩, T.below⟩
theorem Two.wf (T : Two w wr aa bb L L') : Wf L := by
  obtain ⟨Fa, Fb, A, r⟩ := T.ex
  exact A.wf
/-- The page's node. -/
theorem Two.pnode (T : Two w wr aa bb L L') {i : Nat} {k n : Int} {xs : List Int} (hi : L'[i]? = some (k, n, xs)) : ∃ g cp p4 c4, wr.cell? ⟨bb, 0, none⟩ = some (.slice (some ⟨g, 0, none⟩) L'.length cp) ∧ bb < wr.heap.size ∧ g < wr.heap.size ∧
    wr.cell? ⟨g, i * 3, none⟩ = some (.int .i64 k) ∧ wr.cell? ⟨g, i * 3 + 1, none⟩ = some (.int .i64 n) ∧ wr.cell? ⟨g, i * 3 + 2, none⟩ = some (.slice p4 xs.length c4) ∧ RdW wr (.slice p4 xs.length c4) xs ∧ xs.length ≤ 400 ∧ i < L'.length := by
  obtain ⟨Fa, Fb, A, B, _⟩ := T.ex
  obtain ⟨hlt, hge⟩ := List.getElem?_eq_some_iff.1 hi
  obtain ⟨g, cp, p4, c4, h1, h2, h3, _, h4, h5, h6, h7, h8⟩ := B.node i hlt
  rw [hge] at h4 h5 h6 h7 h8
  exact ⟨g, cp, p4, c4, h1, h2, h3, h4, h5, h6, h7.rdw, h8, hlt⟩
theorem has_two (T : Two w wr aa bb L L') {v : Value} (h : RdW wr v xs) (hn : xs.length ≤ 100000) : Calls Tryd.prog 15 #[.pointer (some ⟨bb, 0, none⟩), v] wr fun e w' => e = .returned (.bool (decide (∀ x ∈ xs, 0 ≤ x ∧ x < (L'.length : Int)))) ∧ Two w w' aa bb L L' ∧ Below wr.heap.size wr w' := by
  obtain ⟨np, cp, c0, hbb⟩ := T.head
  refine (phas_ok hbb c0 h hn).mono ?_
  rintro e w' ⟨rfl, hB⟩
  exact ⟨rfl, T.step hB, hB⟩
end
end Go.Proofs.YtenllpaochcjfaaDoor
