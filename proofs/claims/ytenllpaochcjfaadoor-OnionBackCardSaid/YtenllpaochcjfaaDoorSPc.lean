/-
  STEPS: three arenas side by side. Own work.
-/
import Derived.Test.YtenllpaochcjfaaDoorSPb
namespace Go.Proofs.YtenllpaochcjfaaDoor
open Go.RowKit Go.Maps
set_option maxRecDepth 100000
structure Three (w wr : World) (aa ab ac : Nat) (La Lb Lc : List Tm) : Prop where
  ex : ∃ Fa Fb Fc : Nat → Prop, Ar wr aa La Fa ∧ Ar wr ab Lb Fb ∧ Ar wr ac Lc Fc ∧ (∀ k, Fa k → w.heap.size ≤ k) ∧ (∀ k, Fb k → w.heap.size ≤ k) ∧ (∀ k, Fc k → w.heap.size ≤ k) ∧ (∀ k, Fa k → ¬ Fb k) ∧ (∀ k, Fa k → ¬ Fc k) ∧ (∀ k, Fb k → ¬ Fc k)
  below : Below w.heap.size w wr
theorem Three.step {w wr w' : World} {aa ab ac : Nat} {La Lb Lc : List Tm} (T : Three w wr aa ab ac La Lb Lc) (hB : Below wr.heap.size wr w') : Three w w' aa ab ac La Lb Lc := by
  obtain ⟨Fa, Fb, Fc, A, B, C, r⟩ := T.ex
  exact ⟨⟨Fa, Fb, Fc, A.below hB, B.below hB, C.below hB, r⟩, T.below.trans (hB.mono T.below.size)⟩
theorem Three.drew {w wr : World} {aa ab ac : Nat} {La Lb Lc : List Tm} (T : Three w wr aa ab ac La Lb Lc) : Three w wr.drew aa ab ac La Lb Lc := T.step (Below.refl _ _).drew
theorem Three.swap {w wr : World} {aa ab ac : Nat} {La Lb Lc : List Tm} (T : Three w wr aa ab ac La Lb Lc) : Three w wr ab aa ac Lb La Lc := by
  obtain ⟨Fa, Fb, Fc, A, B, C, ha, hb, hc, h1, h2, h3⟩ := T.ex
  exact ⟨⟨Fb, Fa, Fc, B, A, C, hb, ha, hc, fun k hb ha => h1 k ha hb, h3, h2⟩, T.below⟩
theorem Three.turn {w wr : World} {aa ab ac : Nat} {La Lb Lc : List Tm} (T : Three w wr aa ab ac La Lb Lc) : Three w wr ac ab aa Lc Lb La := by
  obtain ⟨Fa, Fb, Fc, A, B, C, ha, hb, hc, h1, h2, h3⟩ := T.ex
  exact ⟨⟨Fc, Fb, Fa, C, B, A, hc, hb, ha, fun k hc hb => h3 k hb hc, fun k hc ha => h2 k ha hc, fun k hb ha => h1 k ha hb⟩, T.below⟩
theorem three_new {w w1 w2 w3 : World} {aa ab ac : Nat} {Fa Fb Fc : Nat → Prop} (A1 : Ar w1 aa [] Fa) (h1 : ∀ k, Fa k → w.heap.size ≤ k) (B1 : Below w.heap.size w w1) (A2 : Ar w2 ab [] Fb) (h2 : ∀ k, Fb k → w1.heap.size ≤ k) (B2 : Below w1.heap.size w1 w2) (A3 : Ar w3 ac [] Fc) (h3 : ∀ k, Fc k → w2.heap.size ≤ k) (B3 : Below w2.heap.size w2 w3) : Three w w3 aa ab ac [] [] [] := by
  have s1 := B1.size
  have s2 := B2.size
  refine ⟨⟨Fa, Fb, Fc, (A1.below B2).below B3, A2.below B3, A3, h1, fun k hk => ?_, fun k hk => ?_, fun k ha hb => ?_, fun k ha hc => ?_, fun k hb hc => ?_⟩, (B1.trans (B2.mono s1)).trans (B3.mono (by omega))⟩
  · have := h2 k hk; omega
  · have := h3 k hk; omega
  · have := A1.lt k ha; have := h2 k hb; omega
  · have := A1.lt k ha; have := h3 k hc; omega
  · have := A2.lt k hb; have := h3 k hc; omega
/-- Make on the first. -/
theorem make_a {w wr : World} {aa ab ac : Nat} {La Lb Lc : List Tm} (T : Three w wr aa ab ac La Lb Lc) (k n : Int) {v : Value} {xs : List Int} (hv : Reads wr v xs) (hn : n < 9223372036854775808) :
    Calls Tryd.prog 26 #[.pointer (some ⟨aa, 0, none⟩), .int .i64 k, .int .i64 n, v] wr fun e w' => e = .returned (.tuple #[.int .i64 (put La (k, n, xs)).1, .int .i64 (put La (k, n, xs)).2.1]) ∧ Three w w' aa ab ac (put La (k, n, xs)).2.2 Lb Lc := by
  obtain ⟨Fa, Fb, Fc, A, B, C, ha, hb, hc, h1, h2, h3⟩ := T.ex
  refine (make_ok A k n hv hn).mono ?_
  rintro e w' ⟨rfl, F', A', K, hF⟩
  have s := T.below.size
  refine ⟨rfl, ⟨F', Fb, Fc, A', B.keeps K (fun k hb ha => h1 k ha hb), C.keeps K (fun k hc ha => h2 k ha hc), fun k hk => ?_, hb, hc, fun k hk hb => ?_, fun k hk hc => ?_, h3⟩, T.below.trans (K.below s ha)⟩
  · rcases hF k hk with h | h
    · exact ha k h
    · omega
  · rcases hF k hk with h | h
    · exact h1 k h hb
    · have := B.lt k hb; omega
  · rcases hF k hk with h | h
    · exact h2 k h hc
    · have := C.lt k hc; omega
theorem make_b {w wr : World} {aa ab ac : Nat} {La Lb Lc : List Tm} (T : Three w wr aa ab ac La Lb Lc) (k n : Int) {v : Value} {xs : List Int} (hv : Reads wr v xs) (hn : n < 9223372036854775808) :
    Calls Tryd.prog 26 #[.pointer (some ⟨ab, 0, none⟩), .int .i64 k, .int .i64 n, v] wr fun e w' => e = .returned (.tuple #[.int .i64 (put Lb (k, n, xs)).1, .int .i64 (put Lb (k, n, xs)).2.1]) ∧ Three w w' aa ab ac La (put Lb (k, n, xs)).2.2 Lc :=
  (make_a T.swap k n hv hn).mono fun _ _ h => ⟨h.1, h.2.swap⟩
theorem make_c {w wr : World} {aa ab ac : Nat} {La Lb Lc : List Tm} (T : Three w wr aa ab ac La Lb Lc) (k n : Int) {v : Value} {xs : List Int} (hv : Reads wr v xs) (hn : n < 9223372036854775808) :
    Calls Tryd.prog 26 #[.pointer (some ⟨ac, 0, none⟩), .int .i64 k, .int .i64 n, v] wr fun e w' => e = .returned (.tuple #[.int .i64 (put Lc (k, n, xs)).1, .int .i64 (put Lc (k, n, xs)).2.1]) ∧ Three w w' aa ab ac La Lb (put Lc (k, n, xs)).2.2 :=
  (make_a T.turn k n hv hn).mono fun _ _ h => ⟨h.1, h.2.turn⟩
theorem len_a {w wr : World} {aa ab ac : Nat} {La Lb Lc : List Tm} (T : Three w wr aa ab ac La Lb Lc) : Calls Tryd.prog 41 #[.pointer (some ⟨aa, 0, none⟩)] wr fun e w' => e = .returned (.int .i64 La.length) ∧ w' = wr := by
  obtain ⟨Fa, Fb, Fc, A, _⟩ := T.ex
  exact len_ar A
theorem cells3 {w w' : World} {b o : Nat} {s : St} {q : Option Addr} {l c4 : Nat} (hst : StAt w b o s) (hb : b < w.heap.size) (hv : s.v = .slice q l c4) (hB : Below w.heap.size w w') : w'.cell? ⟨b, o, none⟩ = some (.int .i64 s.k) ∧ w'.cell? ⟨b, o + 1, none⟩ = some (.int .i64 s.n) ∧ w'.cell? ⟨b, o + 2, none⟩ = some (.slice q l c4) := by
  have h := hst.below hb hB
  exact ⟨h.k, h.n, hv ▸ h.v⟩
theorem steps_at {w : World} {p1 : Option Addr} {n1 c1 : Nat} {S : List St} (h : Steps w (.slice p1 n1 c1) S) {j : Nat} (hj : j < n1) : ∃ b o k m q c4 xs raw, p1 = some ⟨b, o, none⟩ ∧ b < w.heap.size ∧ S[j]? = some ⟨k, m, .slice q xs.length c4, xs, raw⟩ ∧ StAt w b (o + j * 4) ⟨k, m, .slice q xs.length c4, xs, raw⟩ := by
  obtain ⟨p, c, he, hs⟩ := h
  cases he
  rcases hs with rfl | ⟨b, o, rfl, hb, hc⟩
  · simp at hj
  · have hst := hc j hj
    obtain ⟨q, c4, hv⟩ := hst.args.form
    have e := List.getElem?_eq_getElem hj
    generalize S[j] = s at e hst hv
    obtain ⟨k, m, v, xs, raw⟩ := s
    simp only at hv
    subst hv
    exact ⟨b, o, k, m, q, c4, xs, raw, rfl, hb, e, hst⟩
/-- Some on what a step holds. -/
theorem some_at {w wr : World} {aa ab ac : Nat} {La Lb Lc : List Tm} (T : Three w wr aa ab ac La Lb Lc) {v : Value} {xs : List Int} (h : RdW w v xs) (n : Nat) (h4 : xs.length ≤ 1000) : Calls Tryd.prog 9 #[v, .int .i64 n] wr fun e w' => ∃ p c, e = .returned (.slice p xs.length c) ∧ Reads w' (.slice p xs.length c) (xs.map (someI n)) ∧ Three w w' aa ab ac La Lb Lc := by
  refine (some_ok (h.below T.below) n (by omega) h4).mono ?_
  rintro e w' ⟨p, c, rfl, hown, hB⟩
  exact ⟨p, c, rfl, (irow_of hown).reads, T.step hB⟩
end Go.Proofs.YtenllpaochcjfaaDoor
