/-
  STEPS: Beneath beside both arenas. Own work.
-/
import Derived.Test.YtehkfgjnapjefaaSPp
import Derived.Test.YtehkfgjnapjefaaSPk
namespace Go.Proofs.Ytehkfgjnapjefaa
open Go.RowKit Go.Maps
set_option maxRecDepth 100000
theorem down_len (L : List Tm) : ∀ (n : Nat) (s : List Bool), (down L n s).length ≤ n
  | 0, _ => by simp [down]
  | n + 1, s => by
    rw [down]
    split
    · have := down_len L n (mark s (tmAt L n).2.2)
      simp only [List.length_cons]
      omega
    · have := down_len L n s
      omega
theorem ben_len (L : List Tm) (i : Nat) : (benOf L i).length ≤ i + 1 := by
  unfold benOf
  rw [List.length_reverse]
  exact down_len _ _ _
section
variable {w wr w' : World} {aa bb : Nat} {L L' : List Tm} {u v : Value} {xs : List Int}
theorem Two.ben (T : Two w wr aa bb L L') {i : Nat} (hi : i < L.length) : Calls Try.prog 26 #[.pointer (some ⟨aa, 0, none⟩), .int .i64 i] wr fun e w' => ∃ p c, e = .returned (.tuple #[.slice p (benOf L i).length c, .int .i64 0]) ∧ w'.ownsRow wr.heap.size 3 1 (.slice p (benOf L i).length c) (benOf L i).length ((benOf L i).map (Value.int .i64)) ∧ Below wr.heap.size wr w' := by
  obtain ⟨Fa, Fb, A, r⟩ := T.ex
  exact beneath_in A A.wf.len i hi
theorem Two.withRow (T : Two w wr aa bb L L') {n : Nat} (hB : Below wr.heap.size wr w') {p : Option Addr} {c : Nat} (hown : w'.ownsRow wr.heap.size 3 1 (.slice p n c) n (xs.map (Value.int .i64))) : TwoR w w' aa bb L L' (.slice p n c) (.slice p n c) xs := by
  obtain ⟨Fa, Fb, A, B, r1, r2, r3⟩ := T.ex
  have h1 := fun k hk => row_base hown (k := k) hk
  have s := T.below.size
  refine ⟨⟨Fa, Fb, A.below hB, B.below hB, r1, r2, r3, fun k hk _ => ?_, fun k hk => ?_⟩, (irow_of hown).reads.rdw, row_nilcap hown, irow_of hown, T.below.trans (hB.mono s)⟩
  · have := (h1 k hk).1
    exact ⟨fun h => by have := A.lt k h; omega, fun h => by have := B.lt k h; omega⟩
  · have := h1 k hk
    exact ⟨fun h => by have := A.lt k h; omega, fun h => by have := B.lt k h; omega, by omega, this.2⟩
theorem TwoR.spoiled (T : TwoR w wr aa bb L L' u v xs) (K : Keeps (fun k => v.ownBlock = some k) wr w') : Two w w' aa bb L L' := by
  obtain ⟨Fa, Fb, A, B, r1, r2, r3, r4, r5⟩ := T.ex
  exact ⟨⟨Fa, Fb, A.keeps K (fun k ha hk => (r5 k hk).1 ha), B.keeps K (fun k hb hk => (r5 k hk).2.1 hb), r1, r2, r3⟩, T.below.trans (K.below T.below.size (fun k hk => (r5 k hk).2.2.1))⟩
theorem own_step {base e size n : Nat} {ys : List Value} (h : wr.ownsRow base e size v n ys) (hB : Below wr.heap.size wr w') : w'.ownsRow base e size v n ys := row_keeps (F := fun _ => False) h (Keeps.of_below hB) (fun _ _ h => h)
end
end Go.Proofs.Ytehkfgjnapjefaa
