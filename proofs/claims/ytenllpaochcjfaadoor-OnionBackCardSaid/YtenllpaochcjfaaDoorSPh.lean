/-
  THE PROGRAM's ARENA AND THE PAGE's, side by side. Own work.
-/
import Derived.Test.YtenllpaochcjfaaDoorSPg
import Derived.Test.YtenllpaochcjfaaDoorSPc
namespace Go.Proofs.YtenllpaochcjfaaDoor
open Go.RowKit Go.Maps
set_option maxRecDepth 100000
structure Two (w wr : World) (aa bb : Nat) (L L' : List Tm) : Prop where
  ex : ∃ Fa Fb : Nat → Prop, Ar wr aa L Fa ∧ PAr wr bb L' Fb ∧ (∀ k, Fa k → w.heap.size ≤ k) ∧ (∀ k, Fb k → w.heap.size ≤ k) ∧ (∀ k, Fa k → ¬ Fb k)
  below : Below w.heap.size w wr
/-- .. with numbers beside them (u: args). -/
structure TwoU (w wr : World) (aa bb : Nat) (L L' : List Tm) (u : Value) (xs : List Int) : Prop where
  ex : ∃ Fa Fb : Nat → Prop, Ar wr aa L Fa ∧ PAr wr bb L' Fb ∧ (∀ k, Fa k → w.heap.size ≤ k) ∧ (∀ k, Fb k → w.heap.size ≤ k) ∧ (∀ k, Fa k → ¬ Fb k) ∧ (∀ k, u.ownBlock = some k → xs ≠ [] → ¬ Fa k ∧ ¬ Fb k)
  rd : RdW wr u xs
  nilc : NilCap u
  below : Below w.heap.size w wr
/-- .. and a row of the caller's own that holds the same (v). -/
structure TwoR (w wr : World) (aa bb : Nat) (L L' : List Tm) (u v : Value) (xs : List Int) : Prop where
  ex : ∃ Fa Fb : Nat → Prop, Ar wr aa L Fa ∧ PAr wr bb L' Fb ∧ (∀ k, Fa k → w.heap.size ≤ k) ∧ (∀ k, Fb k → w.heap.size ≤ k) ∧ (∀ k, Fa k → ¬ Fb k) ∧ (∀ k, u.ownBlock = some k → xs ≠ [] → ¬ Fa k ∧ ¬ Fb k) ∧ (∀ k, v.ownBlock = some k → ¬ Fa k ∧ ¬ Fb k ∧ w.heap.size ≤ k ∧ k < wr.heap.size)
  rd : RdW wr u xs
  nilc : NilCap u
  row : IRow wr v xs
  below : Below w.heap.size w wr
section
variable {w wr w' : World} {aa bb : Nat} {L L' : List Tm} {u v : Value} {xs : List Int}
theorem Two.step (T : Two w wr aa bb L L') (hB : Below wr.heap.size wr w') : Two w w' aa bb L L' := by
  obtain ⟨Fa, Fb, A, B, r⟩ := T.ex
  exact ⟨⟨Fa, Fb, A.below hB, B.below hB, r⟩, T.below.trans (hB.mono T.below.size)⟩
theorem TwoU.step (T : TwoU w wr aa bb L L' u xs) (hB : Below wr.heap.size wr w') : TwoU w w' aa bb L L' u xs := by
  obtain ⟨Fa, Fb, A, B, r⟩ := T.ex
  exact ⟨⟨Fa, Fb, A.below hB, B.below hB, r⟩, T.rd.below hB, T.nilc, T.below.trans (hB.mono T.below.size)⟩
theorem TwoR.step (T : TwoR w wr aa bb L L' u v xs) (hB : Below wr.heap.size wr w') : TwoR w w' aa bb L L' u v xs := by
  obtain ⟨Fa, Fb, A, B, r1, r2, r3, r4, r5⟩ := T.ex
  exact ⟨⟨Fa, Fb, A.below hB, B.below hB, r1, r2, r3, r4, fun k hk => ⟨(r5 k hk).1, (r5 k hk).2.1, (r5 k hk).2.2.1, Nat.lt_of_lt_of_le (r5 k hk).2.2.2 hB.size⟩⟩, T.rd.below hB, T.nilc, row_keeps (F := fun _ => False) T.row (Keeps.of_below hB) (fun _ _ h => h), T.below.trans (hB.mono T.below.size)⟩
theorem Two.drew (T : Two w wr aa bb L L') : Two w wr.drew aa bb L L' := T.step (Below.refl _ _).drew
theorem TwoR.drew (T : TwoR w wr aa bb L L' u v xs) : TwoR w wr.drew aa bb L L' u v xs := T.step (Below.refl _ _).drew
theorem rdw_keeps {F : Nat → Prop} (h : RdW w u xs) (hK : Keeps F w w') (hn : ∀ k, u.ownBlock = some k → xs ≠ [] → ¬ F k) : RdW w' u xs := by
  obtain ⟨p, c, rfl, h | ⟨b, o, rfl, hb, hc⟩⟩ := h
  · exact ⟨p, c, rfl, .inl h⟩
  · by_cases hx : xs = []
    · exact ⟨_, c, rfl, .inl hx⟩
    · exact ⟨_, c, rfl, .inr ⟨b, o, rfl, Nat.lt_of_lt_of_le hb hK.size, fun t ht => (hK.cell (p := ⟨b, o + t, none⟩) hb (hn b rfl hx)).trans (hc t ht)⟩⟩
theorem rdw_lt (h : RdW w u xs) : ∀ k, u.ownBlock = some k → xs ≠ [] → k < w.heap.size := by
  intro k hk hx
  obtain ⟨p, c, rfl, h | ⟨b, o, rfl, hb, hc⟩⟩ := h
  · exact absurd h hx
  · have : b = k := by simpa [Value.ownBlock] using hk
    omega
/-- What came in, beside them. -/
theorem Two.raw (T : Two w wr aa bb L L') (h : RdW w u xs) (hn : NilCap u) : TwoU w wr aa bb L L' u xs := by
  obtain ⟨Fa, Fb, A, B, r1, r2, r3⟩ := T.ex
  exact ⟨⟨Fa, Fb, A, B, r1, r2, r3, fun k hk hx => ⟨fun h' => by have := r1 k h'; have := rdw_lt h k hk hx; omega, fun h' => by have := r2 k h'; have := rdw_lt h k hk hx; omega⟩⟩, h.below T.below, hn, T.below⟩
theorem row_nilcap {base e size n c : Nat} {p : Option Addr} {ys : List Value} (h : w.ownsRow base e size (.slice p n c) n ys) : NilCap (.slice p n c) := by
  intro c' e
  cases e
  rcases h.2 with ⟨h, _⟩ | ⟨g, cap, cur, h, _⟩
  · cases h
    rfl
  · cases h
/-- Some, beside them. -/
theorem some_two (T : Two w wr aa bb L L') (h : RdW w u xs) (n : Nat) (h4 : xs.length ≤ 1000) : Calls Tryd.prog 9 #[u, .int .i64 n] wr fun e w' => ∃ p c, e = .returned (.slice p xs.length c) ∧ TwoU w w' aa bb L L' (.slice p xs.length c) (xs.map (someI n)) := by
  refine (some_ok (h.below T.below) n (by omega) h4).mono ?_
  rintro e w' ⟨p, c, rfl, hown, hB⟩
  have T2 := T.step hB
  obtain ⟨Fa, Fb, A, B, r1, r2, r3⟩ := T.ex
  refine ⟨p, c, rfl, ⟨Fa, Fb, A.below hB, B.below hB, r1, r2, r3, fun k hk _ => ?_⟩, (irow_of hown).reads.rdw, row_nilcap hown, T2.below⟩
  have := (row_base hown hk).1
  exact ⟨fun h => by have := A.lt k h; omega, fun h => by have := B.lt k h; omega⟩
theorem twin_two (T : TwoU w wr aa bb L L' u xs) (h4 : xs.length ≤ 1000) : Calls Tryd.prog 11 #[u] wr fun e w' => ∃ p c, e = .returned (.slice p xs.length c) ∧ TwoR w w' aa bb L L' u (.slice p xs.length c) xs := by
  refine (twin_ok T.rd h4 T.nilc).mono ?_
  rintro e w' ⟨p, c, rfl, hown, hB⟩
  have T2 := T.step hB
  obtain ⟨Fa, Fb, A, B, r1, r2, r3, r4⟩ := T.ex
  refine ⟨p, c, rfl, ⟨Fa, Fb, A.below hB, B.below hB, r1, r2, r3, r4, fun k hk => ?_⟩, T2.rd, T2.nilc, irow_of hown, T2.below⟩
  have h1 := row_base hown hk
  have := T.below.size
  exact ⟨fun h => by have := A.lt k h; omega, fun h => by have := B.lt k h; omega, by omega, h1.2⟩
theorem make_two (T : TwoR w wr aa bb L L' u v xs) (k n : Int) (hn : n < 9223372036854775808) :
    Calls Tryd.prog 26 #[.pointer (some ⟨aa, 0, none⟩), .int .i64 k, .int .i64 n, v] wr fun e w' => e = .returned (.tuple #[.int .i64 (put L (k, n, xs)).1, .int .i64 (put L (k, n, xs)).2.1]) ∧ TwoR w w' aa bb (put L (k, n, xs)).2.2 L' u v xs := by
  obtain ⟨Fa, Fb, A, B, r1, r2, r3, r4, r5⟩ := T.ex
  refine (make_ok A k n T.row.reads hn).mono ?_
  rintro e w' ⟨rfl, F', A', K, hF⟩
  have s := T.below.size
  refine ⟨rfl, ⟨F', Fb, A', B.keeps K (fun k hb ha => r3 k ha hb), fun k hk => ?_, r2, fun k hk hb => ?_, fun k hk hx => ⟨fun h => ?_, (r4 k hk hx).2⟩, fun k hk => ⟨fun h => ?_, (r5 k hk).2.1, (r5 k hk).2.2.1, Nat.lt_of_lt_of_le (r5 k hk).2.2.2 K.size⟩⟩, rdw_keeps T.rd K (fun k hk hx => (r4 k hk hx).1), T.nilc, row_keeps T.row K (fun k hk => (r5 k hk).1), T.below.trans (K.below s r1)⟩
  · rcases hF k hk with h | h
    · exact r1 k h
    · omega
  · rcases hF k hk with h | h
    · exact r3 k h hb
    · have := B.lt k hb; omega
  · rcases hF k h with h | h
    · exact (r4 k hk hx).1 h
    · have := rdw_lt T.rd k hk hx
      omega
  · rcases hF k h with h | h
    · exact (r5 k hk).1 h
    · have := (r5 k hk).2.2.2
      omega
theorem put_two (T : TwoR w wr aa bb L L' u v xs) (k n : Int) (hn : n < 9223372036854775808) :
    Calls Tryd.prog 37 #[.pointer (some ⟨bb, 0, none⟩), .int .i64 k, .int .i64 n, u] wr fun e w' => e = .returned (.tuple #[.int .i64 (put L' (k, n, xs)).1, .int .i64 (put L' (k, n, xs)).2.1]) ∧ TwoR w w' aa bb L (put L' (k, n, xs)).2.2 u v xs := by
  obtain ⟨Fa, Fb, A, B, r1, r2, r3, r4, r5⟩ := T.ex
  refine (pput_ok B k n T.rd T.nilc hn).mono ?_
  rintro e w' ⟨rfl, F', B', K, hF⟩
  have s := T.below.size
  refine ⟨rfl, ⟨Fa, F', A.keeps K r3, B', r1, fun k hk => ?_, fun k ha hb => ?_, fun k hk hx => ⟨(r4 k hk hx).1, fun h => ?_⟩, fun k hk => ⟨(r5 k hk).1, fun h => ?_, (r5 k hk).2.2.1, Nat.lt_of_lt_of_le (r5 k hk).2.2.2 K.size⟩⟩, rdw_keeps T.rd K (fun k hk hx => (r4 k hk hx).2), T.nilc, row_keeps T.row K (fun k hk => (r5 k hk).2.1), T.below.trans (K.below s r2)⟩
  · rcases hF k hk with h | h
    · exact r2 k h
    · omega
  · rcases hF k hb with h | h
    · exact r3 k ha h
    · have := A.lt k ha; omega
  · rcases hF k h with h | h
    · exact (r4 k hk hx).2 h
    · have := rdw_lt T.rd k hk hx
      omega
  · rcases hF k h with h | h
    · exact (r5 k hk).2.1 h
    · have := (r5 k hk).2.2.2
      omega
theorem spoil_two (T : TwoR w wr aa bb L L' u v xs) (h4 : xs.length ≤ 1000) : Calls Tryd.prog 40 #[v] wr fun e w' => (∃ r, e = .returned r) ∧ Two w w' aa bb L L' := by
  obtain ⟨Fa, Fb, A, B, r1, r2, r3, r4, r5⟩ := T.ex
  refine (spoil_ok T.row h4).mono ?_
  rintro e w' ⟨he, K⟩
  exact ⟨he, ⟨Fa, Fb, A.keeps K (fun k ha hk => (r5 k hk).1 ha), B.keeps K (fun k hb hk => (r5 k hk).2.1 hb), r1, r2, r3⟩, T.below.trans (K.below T.below.size (fun k hk => (r5 k hk).2.2.1))⟩
theorem ints_two (T : TwoR w wr aa bb L L' u v xs) (h4 : xs.length ≤ 1000) : Calls Tryd.prog 14 #[v, u] wr fun e w' => e = .returned (.bool true) ∧ TwoR w w' aa bb L L' u v xs := by
  refine (ints_ok (by omega) T.row.reads.rdw T.rd).mono ?_
  rintro e w' ⟨rfl, hB⟩
  exact ⟨by simp, T.step hB⟩
theorem len_two (T : Two w wr aa bb L L') : Calls Tryd.prog 41 #[.pointer (some ⟨aa, 0, none⟩)] wr fun e w' => e = .returned (.int .i64 L.length) ∧ w' = wr := by
  obtain ⟨Fa, Fb, A, _⟩ := T.ex
  exact len_ar A
theorem Two.head (T : Two w wr aa bb L L') : ∃ np cp, wr.cell? ⟨bb, 0, none⟩ = some (.slice np L'.length cp) ∧ bb < wr.heap.size := by
  obtain ⟨Fa, Fb, A, B, _⟩ := T.ex
  exact B.head
theorem par_new {o : Obj} (ho : o = .cells #[.slice none 0 0] 34) : PAr (wr.alloc o) wr.heap.size [] (fun k => k = wr.heap.size) := by
  subst ho
  refine ⟨⟨none, 0, [], ?_, ?_, World.ownsRow_nil _ _ _ _, ⟨rfl, (fun i h => by cases h), (fun i h => by cases h)⟩, fun k h => by simp [Value.ownBlock] at h⟩, wf_nil, rfl, fun k hk => by subst hk; simp⟩
  · exact World.news_of_block (heap_alloc_new wr _) 0 _ rfl
  · simp only [World.frozen?, heap_alloc_new]
    rfl
theorem two_new {Fa : Nat → Prop} {o : Obj} (ho : o = .cells #[.slice none 0 0] 34) (A : Ar wr aa [] Fa) (h : ∀ k, Fa k → w.heap.size ≤ k) (hB : Below w.heap.size w wr) : Two w (wr.alloc o) aa wr.heap.size [] [] := by
  have B := par_new (wr := wr) ho
  exact ⟨⟨Fa, _, ar_alloc A o, B, h, fun k hk => by subst hk; exact hB.size, fun k ha hk => by have := A.lt k ha; omega⟩, hB.alloc hB.size o⟩
end
end Go.Proofs.YtenllpaochcjfaaDoor
