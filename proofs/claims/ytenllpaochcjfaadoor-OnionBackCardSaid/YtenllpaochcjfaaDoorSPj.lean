/-
  STEPS: one arena, looked at and made again. Own work.
-/
import Derived.Test.YtenllpaochcjfaaDoorSPi
namespace Go.Proofs.YtenllpaochcjfaaDoor
open Go.RowKit Go.Maps
set_option maxRecDepth 100000
structure One (w wr : World) (aa : Nat) (L : List Tm) : Prop where
  ex : ∃ Fa : Nat → Prop, Ar wr aa L Fa ∧ (∀ k, Fa k → w.heap.size ≤ k)
  below : Below w.heap.size w wr
section
variable {w wr w' : World} {aa bb : Nat} {L L' : List Tm} {u v : Value} {xs : List Int}
theorem Two.one (T : Two w wr aa bb L L') : One w wr aa L := by
  obtain ⟨Fa, Fb, A, B, r, _⟩ := T.ex
  exact ⟨⟨Fa, A, r⟩, T.below⟩
theorem One.step (T : One w wr aa L) (hB : Below wr.heap.size wr w') : One w w' aa L := by
  obtain ⟨Fa, A, r⟩ := T.ex
  exact ⟨⟨Fa, A.below hB, r⟩, T.below.trans (hB.mono T.below.size)⟩
theorem One.alloc (T : One w wr aa L) (o : Obj) : One w (wr.alloc o) aa L := T.step ((Below.refl _ wr).alloc (Nat.le_refl _) o)
theorem One.wf (T : One w wr aa L) : Wf L := by
  obtain ⟨Fa, A, r⟩ := T.ex
  exact A.wf
theorem len_one (T : One w wr aa L) : Calls Tryd.prog 41 #[.pointer (some ⟨aa, 0, none⟩)] wr fun e w' => e = .returned (.int .i64 L.length) ∧ w' = wr := by
  obtain ⟨Fa, A, r⟩ := T.ex
  exact len_ar A
theorem node_one (T : One w wr aa L) {i : Nat} {k n : Int} {xs : List Int} (hi : L[i]? = some (k, n, xs)) : Calls Tryd.prog 52 #[.pointer (some ⟨aa, 0, none⟩), .int .i64 i] wr fun e w' => ∃ p c, e = .returned (.tuple #[.agg #[.int .i64 k, .int .i64 n, .slice p xs.length c], .int .i64 0]) ∧ w'.ownsRow wr.heap.size 3 1 (.slice p xs.length c) xs.length (xs.map (Value.int .i64)) ∧ Below wr.heap.size wr w' ∧ One w w' aa L := by
  obtain ⟨Fa, A, r⟩ := T.ex
  refine (node_at A i _ hi).mono ?_
  rintro e w' ⟨p, c, rfl, hown, hB⟩
  exact ⟨p, c, rfl, hown, hB, T.step hB⟩
theorem make_again (T : One w wr aa L) {i : Nat} {k n : Int} {xs : List Int} (hi : L[i]? = some (k, n, xs)) {v : Value} (hv : Reads wr v xs) : Calls Tryd.prog 26 #[.pointer (some ⟨aa, 0, none⟩), .int .i64 k, .int .i64 n, v] wr fun e w' => e = .returned (.tuple #[.int .i64 i, .int .i64 0]) ∧ One w w' aa L := by
  obtain ⟨Fa, A, r⟩ := T.ex
  obtain ⟨hin, hidx⟩ := idx_at A.wf hi
  obtain ⟨hlt, hge⟩ := List.getElem?_eq_some_iff.1 hi
  have hg := A.wf.good i hlt
  rw [hge] at hg
  have hp := put_in hg.1 (fitsIn_mono hg.2.2 (by omega)) hin
  rw [hidx] at hp
  refine (make_ok A k n hv hg.2.1).mono ?_
  rintro e w' ⟨rfl, F', A', K, hF⟩
  rw [hp] at A' ⊢
  refine ⟨rfl, ⟨F', A', fun k hk => ?_⟩, T.below.trans (K.below T.below.size r)⟩
  rcases hF k hk with h | h
  · exact r k h
  · have := T.below.size
    omega
theorem arg_in (h : Wf L) {i : Nat} {k n : Int} {xs : List Int} (hi : L[i]? = some (k, n, xs)) {q : Nat} (hq : q < xs.length) : 0 ≤ xs.getD q 0 ∧ xs.getD q 0 < i := by
  obtain ⟨hlt, hge⟩ := List.getElem?_eq_some_iff.1 hi
  have hg := (h.good i hlt).2.2
  rw [hge] at hg
  exact fits_getD hg q hq
end
end Go.Proofs.YtenllpaochcjfaaDoor
