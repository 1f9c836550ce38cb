/-
  TERMS: one arena, the page's, both, with blocks of one's own that stay as they are (G). Own work.
-/
import Derived.Test.YtenllpaochcjfaaDoorSPk
namespace Go.Proofs.YtenllpaochcjfaaDoor
open Go.RowKit Go.Maps
set_option maxRecDepth 100000
/-! put, where it goes -/
def plc (L : List Tm) (t : Tm) : Nat := if t ∈ L then L.idxOf t else L.length
def ext (L : List Tm) (t : Tm) : List Tm := if t ∈ L then L else L ++ [t]
theorem put_good {L : List Tm} {t : Tm} (h : shape t = 0) (hf : fitsIn L.length t) (hr : L.length < 1048576) : put L t = (((plc L t : Nat) : Int), 0, ext L t) := by
  unfold plc ext
  by_cases hin : t ∈ L
  · rw [if_pos hin, if_pos hin, put_in h hf hin]
  · rw [if_neg hin, if_neg hin, put_new h hf hin (by omega)]
theorem plc_at (L : List Tm) (t : Tm) : (ext L t)[plc L t]? = some t := by
  unfold plc ext
  by_cases hin : t ∈ L
  · rw [if_pos hin, if_pos hin]
    have hi := List.idxOf_lt_length_iff.2 hin
    rw [List.getElem?_eq_getElem hi, List.getElem_idxOf]
  · rw [if_neg hin, if_neg hin, List.getElem?_append_right (Nat.le_refl _)]
    simp
theorem ext_le (L : List Tm) (t : Tm) : L.length ≤ (ext L t).length := by
  unfold ext
  split <;> simp
theorem ext_le1 (L : List Tm) (t : Tm) : (ext L t).length ≤ L.length + 1 := by
  unfold ext
  split <;> simp
theorem plc_lt (L : List Tm) (t : Tm) : plc L t < (ext L t).length := (List.getElem?_eq_some_iff.1 (plc_at L t)).1
theorem ext_at {L : List Tm} {i : Nat} {u : Tm} (h : L[i]? = some u) (t : Tm) : (ext L t)[i]? = some u := by
  unfold ext
  split
  · exact h
  · rw [List.getElem?_append_left (List.getElem?_eq_some_iff.1 h).1]
    exact h
/-! the program's arena -/
structure On (w wr : World) (aa : Nat) (L : List Tm) (G : Nat → Prop) : Prop where
  ex : ∃ Fa : Nat → Prop, Ar wr aa L Fa ∧ (∀ k, Fa k → w.heap.size ≤ k) ∧ (∀ k, G k → ¬ Fa k)
  lt : ∀ k, G k → k < wr.heap.size
  below : Below w.heap.size w wr
structure Pn (w wr : World) (bb : Nat) (L : List Tm) (G : Nat → Prop) : Prop where
  ex : ∃ Fb : Nat → Prop, PAr wr bb L Fb ∧ (∀ k, Fb k → w.heap.size ≤ k) ∧ (∀ k, G k → ¬ Fb k)
  lt : ∀ k, G k → k < wr.heap.size
  below : Below w.heap.size w wr
/-- What a call leaves: the blocks of G as they are. -/
abbrev Stay (G : Nat → Prop) (wr w' : World) : Prop := Keeps (fun k => ¬ G k) wr w'
theorem Stay.trans {G : Nat → Prop} {a b c : World} (h : Stay G a b) (h' : Stay G b c) : Stay G a c := Keeps.trans h h' (fun _ _ h => h)
theorem stay_below {G : Nat → Prop} {a b : World} (h : Below a.heap.size a b) : Stay G a b := (Keeps.of_below (F := fun _ => False) h).mono (fun _ _ h => h.elim)
theorem Stay.mono {G G' : Nat → Prop} {a b : World} (h : Stay G a b) (hG : ∀ k, G' k → G k) : Stay G' a b := Keeps.mono h (fun k _ hn hg => hn (hG k hg))
section
variable {w wr w' : World} {aa bb : Nat} {L L' L1 : List Tm} {G G' : Nat → Prop}
theorem On.wf (T : On w wr aa L G) : Wf L := by
  obtain ⟨Fa, A, r⟩ := T.ex
  exact A.wf
theorem Pn.wf (T : Pn w wr bb L G) : Wf L := by
  obtain ⟨Fa, A, r⟩ := T.ex
  exact A.wf
theorem On.step (T : On w wr aa L G) (hB : Below wr.heap.size wr w') : On w w' aa L G := by
  obtain ⟨Fa, A, r1, r2⟩ := T.ex
  exact ⟨⟨Fa, A.below hB, r1, r2⟩, fun k hk => Nat.lt_of_lt_of_le (T.lt k hk) hB.size, T.below.trans (hB.mono T.below.size)⟩
theorem Pn.step (T : Pn w wr bb L G) (hB : Below wr.heap.size wr w') : Pn w w' bb L G := by
  obtain ⟨Fa, A, r1, r2⟩ := T.ex
  exact ⟨⟨Fa, A.below hB, r1, r2⟩, fun k hk => Nat.lt_of_lt_of_le (T.lt k hk) hB.size, T.below.trans (hB.mono T.below.size)⟩
theorem On.alloc (T : On w wr aa L G) (o : Obj) : On w (wr.alloc o) aa L G := T.step ((Below.refl _ wr).alloc (Nat.le_refl _) o)
theorem Pn.alloc (T : Pn w wr bb L G) (o : Obj) : Pn w (wr.alloc o) bb L G := T.step ((Below.refl _ wr).alloc (Nat.le_refl _) o)
theorem On.mono (T : On w wr aa L G) (hG : ∀ k, G' k → G k) : On w wr aa L G' := by
  obtain ⟨Fa, A, r1, r2⟩ := T.ex
  exact ⟨⟨Fa, A, r1, fun k hk => r2 k (hG k hk)⟩, fun k hk => T.lt k (hG k hk), T.below⟩
/-- What is new joins what is one's own. -/
theorem On.add (T : On w wr aa L G) (hB : Below wr.heap.size wr w') {P : Nat → Prop} (hP : ∀ k, P k → wr.heap.size ≤ k ∧ k < w'.heap.size) : On w w' aa L (fun k => G k ∨ P k) := by
  obtain ⟨Fa, A, r1, r2⟩ := T.ex
  refine ⟨⟨Fa, A.below hB, r1, fun k hk => ?_⟩, fun k hk => ?_, T.below.trans (hB.mono T.below.size)⟩
  · rcases hk with h | h
    · exact r2 k h
    · exact fun hf => by have := A.lt k hf; have := (hP k h).1; omega
  · rcases hk with h | h
    · exact Nat.lt_of_lt_of_le (T.lt k h) hB.size
    · exact (hP k h).2
/-- What is one's own is written. -/
theorem On.own (T : On w wr aa L G) {H : Nat → Prop} (hK : Keeps H wr w') (hH : ∀ k, H k → (G k ∧ w.heap.size ≤ k) ∨ wr.heap.size ≤ k) : On w w' aa L G := by
  obtain ⟨Fa, A, r1, r2⟩ := T.ex
  refine ⟨⟨Fa, A.keeps hK (fun k ha hk => ?_), r1, r2⟩, fun k hk => Nat.lt_of_lt_of_le (T.lt k hk) hK.size, T.below.trans (hK.below T.below.size (fun k hk => ?_))⟩
  · rcases hH k hk with h | h
    · exact r2 k h.1 ha
    · have := A.lt k ha; omega
  · rcases hH k hk with h | h
    · exact h.2
    · have := T.below.size; omega
theorem make_on (T : On w wr aa L G) {v : Value} {xs : List Int} (k n : Int) (hv : Reads wr v xs) (hn : n < 9223372036854775808) {a s : Int} (hp : put L (k, n, xs) = (a, s, L1)) :
    Calls Tryd.prog 26 #[.pointer (some ⟨aa, 0, none⟩), .int .i64 k, .int .i64 n, v] wr fun e w' => e = .returned (.tuple #[.int .i64 a, .int .i64 s]) ∧ On w w' aa L1 G ∧ Stay G wr w' := by
  obtain ⟨Fa, A, r1, r2⟩ := T.ex
  refine (make_ok A k n hv hn).mono ?_
  rintro e w' ⟨rfl, F', A', K, hF⟩
  rw [hp] at A' ⊢
  refine ⟨rfl, ⟨⟨F', A', fun k hk => ?_, fun k hk h => ?_⟩, fun k hk => Nat.lt_of_lt_of_le (T.lt k hk) K.size, T.below.trans (K.below T.below.size r1)⟩, K.mono (fun k _ hk hg => r2 k hg hk)⟩
  · rcases hF k hk with h | h
    · exact r1 k h
    · have := T.below.size; omega
  · rcases hF k h with h | h
    · exact r2 k hk h
    · have := T.lt k hk; omega
theorem len_on (T : On w wr aa L G) : Calls Tryd.prog 41 #[.pointer (some ⟨aa, 0, none⟩)] wr fun e w' => e = .returned (.int .i64 L.length) ∧ w' = wr := by
  obtain ⟨Fa, A, r⟩ := T.ex
  exact len_ar A
theorem node_on (T : On w wr aa L G) {i : Nat} {k n : Int} {xs : List Int} (hi : L[i]? = some (k, n, xs)) : Calls Tryd.prog 52 #[.pointer (some ⟨aa, 0, none⟩), .int .i64 i] wr fun e w' => ∃ p c, e = .returned (.tuple #[.agg #[.int .i64 k, .int .i64 n, .slice p xs.length c], .int .i64 0]) ∧ w'.ownsRow wr.heap.size 3 1 (.slice p xs.length c) xs.length (xs.map (Value.int .i64)) ∧ Below wr.heap.size wr w' := by
  obtain ⟨Fa, A, r⟩ := T.ex
  exact node_at A i _ hi
theorem put_pn (T : Pn w wr bb L G) {v : Value} {xs : List Int} (k n : Int) (hv : RdW wr v xs) (hnil : NilCap v) (hn : n < 9223372036854775808) {a s : Int} (hp : put L (k, n, xs) = (a, s, L1)) :
    Calls Tryd.prog 37 #[.pointer (some ⟨bb, 0, none⟩), .int .i64 k, .int .i64 n, v] wr fun e w' => e = .returned (.tuple #[.int .i64 a, .int .i64 s]) ∧ Pn w w' bb L1 G ∧ Stay G wr w' := by
  obtain ⟨Fa, A, r1, r2⟩ := T.ex
  refine (pput_ok A k n hv hnil hn).mono ?_
  rintro e w' ⟨rfl, F', A', K, hF⟩
  rw [hp] at A' ⊢
  refine ⟨rfl, ⟨⟨F', A', fun k hk => ?_, fun k hk h => ?_⟩, fun k hk => Nat.lt_of_lt_of_le (T.lt k hk) K.size, T.below.trans (K.below T.below.size r1)⟩, K.mono (fun k _ hk hg => r2 k hg hk)⟩
  · rcases hF k hk with h | h
    · exact r1 k h
    · have := T.below.size; omega
  · rcases hF k h with h | h
    · exact r2 k hk h
    · have := T.lt k hk; omega
theorem has_pn (T : Pn w wr bb L G) {v : Value} {xs : List Int} (h : RdW wr v xs) (hn : xs.length ≤ 100000) : Calls Tryd.prog 15 #[.pointer (some ⟨bb, 0, none⟩), v] wr fun e w' => e = .returned (.bool (decide (∀ x ∈ xs, 0 ≤ x ∧ x < (L.length : Int)))) ∧ Below wr.heap.size wr w' := by
  obtain ⟨Fb, B, r⟩ := T.ex
  obtain ⟨np, cp, c0, hbb⟩ := B.head
  exact phas_ok hbb c0 h hn
end
/-! both -/
structure Tw (w wr : World) (aa bb : Nat) (L L' : List Tm) (G : Nat → Prop) : Prop where
  ex : ∃ Fa Fb : Nat → Prop, Ar wr aa L Fa ∧ PAr wr bb L' Fb ∧ (∀ k, Fa k → w.heap.size ≤ k) ∧ (∀ k, Fb k → w.heap.size ≤ k) ∧ (∀ k, Fa k → ¬ Fb k) ∧ (∀ k, G k → ¬ Fa k ∧ ¬ Fb k)
  lt : ∀ k, G k → k < wr.heap.size
  below : Below w.heap.size w wr
section
variable {w wr w' : World} {aa bb : Nat} {L L' L1 : List Tm} {G G' : Nat → Prop}
theorem Two.tw (T : Two w wr aa bb L L') : Tw w wr aa bb L L' (fun _ => False) := by
  obtain ⟨Fa, Fb, A, B, r1, r2, r3⟩ := T.ex
  exact ⟨⟨Fa, Fb, A, B, r1, r2, r3, fun _ h => h.elim⟩, fun _ h => h.elim, T.below⟩
theorem Tw.step (T : Tw w wr aa bb L L' G) (hB : Below wr.heap.size wr w') : Tw w w' aa bb L L' G := by
  obtain ⟨Fa, Fb, A, B, r⟩ := T.ex
  exact ⟨⟨Fa, Fb, A.below hB, B.below hB, r⟩, fun k hk => Nat.lt_of_lt_of_le (T.lt k hk) hB.size, T.below.trans (hB.mono T.below.size)⟩
theorem Tw.mono (T : Tw w wr aa bb L L' G) (hG : ∀ k, G' k → G k) : Tw w wr aa bb L L' G' := by
  obtain ⟨Fa, Fb, A, B, r1, r2, r3, r4⟩ := T.ex
  exact ⟨⟨Fa, Fb, A, B, r1, r2, r3, fun k hk => r4 k (hG k hk)⟩, fun k hk => T.lt k (hG k hk), T.below⟩
theorem Tw.add (T : Tw w wr aa bb L L' G) (hB : Below wr.heap.size wr w') {P : Nat → Prop} (hP : ∀ k, P k → wr.heap.size ≤ k ∧ k < w'.heap.size) : Tw w w' aa bb L L' (fun k => G k ∨ P k) := by
  obtain ⟨Fa, Fb, A, B, r1, r2, r3, r4⟩ := T.ex
  refine ⟨⟨Fa, Fb, A.below hB, B.below hB, r1, r2, r3, fun k hk => ?_⟩, fun k hk => ?_, T.below.trans (hB.mono T.below.size)⟩
  · rcases hk with h | h
    · exact r4 k h
    · exact ⟨fun hf => by have := A.lt k hf; have := (hP k h).1; omega, fun hf => by have := B.lt k hf; have := (hP k h).1; omega⟩
  · rcases hk with h | h
    · exact Nat.lt_of_lt_of_le (T.lt k h) hB.size
    · exact (hP k h).2
theorem Tw.own (T : Tw w wr aa bb L L' G) {H : Nat → Prop} (hK : Keeps H wr w') (hH : ∀ k, H k → (G k ∧ w.heap.size ≤ k) ∨ wr.heap.size ≤ k) : Tw w w' aa bb L L' G := by
  obtain ⟨Fa, Fb, A, B, r1, r2, r3, r4⟩ := T.ex
  refine ⟨⟨Fa, Fb, A.keeps hK (fun k ha hk => ?_), B.keeps hK (fun k hb hk => ?_), r1, r2, r3, r4⟩, fun k hk => Nat.lt_of_lt_of_le (T.lt k hk) hK.size, T.below.trans (hK.below T.below.size (fun k hk => ?_))⟩
  · rcases hH k hk with h | h
    · exact (r4 k h.1).1 ha
    · have := A.lt k ha; omega
  · rcases hH k hk with h | h
    · exact (r4 k h.1).2 hb
    · have := B.lt k hb; omega
  · rcases hH k hk with h | h
    · exact h.2
    · have := T.below.size; omega
/-- A call on the program's arena, beside the page's. -/
theorem Tw.onA (T : Tw w wr aa bb L L' G) {i : Nat} {avs : Array Value} {Q : Ending → World → Prop} (h : ∀ G', (∀ k, G k → G' k) → On w wr aa L G' → Calls Tryd.prog i avs wr fun e w' => Q e w' ∧ On w w' aa L1 G' ∧ Stay G' wr w') : Calls Tryd.prog i avs wr fun e w' => Q e w' ∧ Tw w w' aa bb L1 L' G ∧ Stay G wr w' := by
  obtain ⟨Fa, Fb, A, B, r1, r2, r3, r4⟩ := T.ex
  have O : On w wr aa L (fun k => G k ∨ Fb k) := ⟨⟨Fa, A, r1, fun k hk => by rcases hk with hk | hk; exact (r4 k hk).1; exact fun ha => r3 k ha hk⟩, fun k hk => by rcases hk with hk | hk; exact T.lt k hk; exact B.lt k hk, T.below⟩
  refine (h _ (fun k hk => .inl hk) O).mono ?_
  rintro e w' ⟨hq, O', K⟩
  obtain ⟨Fa', A', s1, s2⟩ := O'.ex
  have hKb : Stay Fb wr w' := Stay.mono K (fun k hk => .inr hk)
  exact ⟨hq, ⟨⟨Fa', Fb, A', B.keeps hKb (fun k hb hn => hn hb), s1, r2, fun k ha hb => s2 k (.inr hb) ha, fun k hk => ⟨s2 k (.inl hk), (r4 k hk).2⟩⟩, fun k hk => O'.lt k (.inl hk), O'.below⟩, Stay.mono K (fun k hk => .inl hk)⟩
/-- A call on the page's arena, beside the program's. -/
theorem Tw.onB (T : Tw w wr aa bb L L' G) {i : Nat} {avs : Array Value} {Q : Ending → World → Prop} (h : ∀ G', (∀ k, G k → G' k) → Pn w wr bb L' G' → Calls Tryd.prog i avs wr fun e w' => Q e w' ∧ Pn w w' bb L1 G' ∧ Stay G' wr w') : Calls Tryd.prog i avs wr fun e w' => Q e w' ∧ Tw w w' aa bb L L1 G ∧ Stay G wr w' := by
  obtain ⟨Fa, Fb, A, B, r1, r2, r3, r4⟩ := T.ex
  have O : Pn w wr bb L' (fun k => G k ∨ Fa k) := ⟨⟨Fb, B, r2, fun k hk => by rcases hk with hk | hk; exact (r4 k hk).2; exact r3 k hk⟩, fun k hk => by rcases hk with hk | hk; exact T.lt k hk; exact A.lt k hk, T.below⟩
  refine (h _ (fun k hk => .inl hk) O).mono ?_
  rintro e w' ⟨hq, O', K⟩
  obtain ⟨Fb', B', s1, s2⟩ := O'.ex
  have hKa : Stay Fa wr w' := Stay.mono K (fun k hk => .inr hk)
  exact ⟨hq, ⟨⟨Fa, Fb', A.keeps hKa (fun k ha hn => hn ha), B', r1, s1, fun k ha => s2 k (.inr ha), fun k hk => ⟨(r4 k hk).1, s2 k (.inl hk)⟩⟩, fun k hk => O'.lt k (.inl hk), O'.below⟩, Stay.mono K (fun k hk => .inl hk)⟩
theorem Tw.wf (T : Tw w wr aa bb L L' G) : Wf L := by
  obtain ⟨Fa, Fb, A, _⟩ := T.ex
  exact A.wf
theorem Tw.wf' (T : Tw w wr aa bb L L' G) : Wf L' := by
  obtain ⟨Fa, Fb, A, B, _⟩ := T.ex
  exact B.wf
theorem Tw.pn (T : Tw w wr aa bb L L' G) : Pn w wr bb L' G := by
  obtain ⟨Fa, Fb, A, B, r1, r2, r3, r4⟩ := T.ex
  exact ⟨⟨Fb, B, r2, fun k hk => (r4 k hk).2⟩, T.lt, T.below⟩
theorem Tw.on (T : Tw w wr aa bb L L' G) : On w wr aa L G := by
  obtain ⟨Fa, Fb, A, B, r1, r2, r3, r4⟩ := T.ex
  exact ⟨⟨Fa, A, r1, fun k hk => (r4 k hk).1⟩, T.lt, T.below⟩
end
end Go.Proofs.YtenllpaochcjfaaDoor
