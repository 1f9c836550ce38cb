/-
  LOGS THAT CAME IN: a slice of structs (a client, a base, a slice of bodies), opened. Own work.
-/
import Derived.Test.YtcpcnjblojoppaaLWa
namespace Go.Proofs.Ytcpcnjblojoppaa
open Go.ChangeShapes Go.WideShapes Go.ChangeAt Go.RowKit Go.Maps
set_option maxRecDepth 100000
structure Lg where
  c : Int
  b : Int
  v : Value
  xs : List Int
structure LgAt (w : World) (bk o : Nat) (g : Lg) : Prop where
  c : w.cell? ⟨bk, o, none⟩ = some (.int .i64 g.c)
  b : w.cell? ⟨bk, o + 1, none⟩ = some (.int .i64 g.b)
  v : w.cell? ⟨bk, o + 2, none⟩ = some g.v
  args : RdW w g.v g.xs
  inc : In64 g.c
  inb : In64 g.b
  inx : ∀ x ∈ g.xs, In64 x
  nilc : NilCap g.v
def Logs (w : World) (v : Value) (S : List Lg) : Prop :=
  ∃ p c, v = .slice p S.length c ∧ (S = [] ∨ ∃ b o, p = some ⟨b, o, none⟩ ∧ b < w.heap.size ∧ ∀ i (h : i < S.length), LgAt w b (o + i * 3) S[i])
theorem LgAt.below {w w' : World} {b o : Nat} {s : Lg} (h : LgAt w b o s) (hb : b < w.heap.size) (hB : Below w.heap.size w w') : LgAt w' b o s :=
  ⟨(hB.cell (p := ⟨b, o, none⟩) hb).trans h.c, (hB.cell (p := ⟨b, o + 1, none⟩) hb).trans h.b, (hB.cell (p := ⟨b, o + 2, none⟩) hb).trans h.v, h.args.below hB, h.inc, h.inb, h.inx, h.nilc⟩
theorem Logs.below {w w' : World} {v : Value} {S : List Lg} (h : Logs w v S) (hB : Below w.heap.size w w') : Logs w' v S := by
  obtain ⟨p, c, rfl, h | ⟨b, o, rfl, hb, hc⟩⟩ := h
  · exact ⟨p, c, rfl, .inl h⟩
  · exact ⟨_, c, rfl, .inr ⟨b, o, rfl, Nat.lt_of_lt_of_le hb hB.size, fun i hi => (hc i hi).below hb hB⟩⟩
section
variable {H : Type} {enc : TypeId × Value → H} {w : World} {base : Nat} {sp : Nat → Bool} {held : Bool}
theorem open_log {fuel : Nat} {cs : List Value} {x : DataW H × List MemPlace} (h : DataW.trod enc Try.prog w base sp held fuel 52 cs = some x) : ∃ k n v xs, cs = [.int .i64 k, .int .i64 n, v] ∧ RdW w v xs ∧ In64 k ∧ In64 n ∧ (∀ z ∈ xs, In64 z) ∧ NilCap v := by
  have hu := Try.underlying52
  obtain ⟨ys, m, _, _, hl, hlen, hf⟩ := DataW.trod_struct hu h
  have hl3 : cs.length = 3 := by rw [hl]; kernel_rfl
  match cs, hl3 with
  | [c0, c1, c2], _ =>
    match ys, hlen with
    | [y0, y1, y2], _ =>
      have h0 := hf 0 { name := "Client", type := 3, offset := 0, embedded := false, tag := "", pkgPath := "", byteOffset := 0 } rfl
      have h1 := hf 1 { name := "Base", type := 3, offset := 1, embedded := false, tag := "", pkgPath := "", byteOffset := 8 } rfl
      have h2 := hf 2 { name := "Bodies", type := 25, offset := 2, embedded := false, tag := "", pkgPath := "", byteOffset := 16 } rfl
      have e3 : Try.prog.cellsOf 3 = 1 := by kernel_rfl
      have e31 : Try.prog.cellsOf 25 = 1 := by kernel_rfl
      dsimp only at h0 h1 h2
      rw [e3] at h0 h1
      rw [e31] at h2
      simp only [List.drop, List.take] at h0 h1 h2
      obtain ⟨k, hk, _, wk⟩ := DataW.trod_int Try.underlying3 h0
      obtain ⟨n, hn, _, wn⟩ := DataW.trod_int Try.underlying3 h1
      obtain ⟨xs, hx, wx, wn2⟩ := open_args h2
      cases hk
      cases hn
      exact ⟨k, n, c2, xs, rfl, hx, i64_bounds wk, i64_bounds wn, wx, wn2⟩
/-- LOGS, OPENED. -/
theorem open_logs {r : Reach} {b0 : Nat} {v : Value} {d : DataW H} {ps : List MemPlace} (hval : Value.okWide Try.prog w r b0 22 v) (h : DataW.Trod enc Try.prog w base sp held 22 v d ps) : ∃ S, Logs w v S := by
  obtain ⟨fuel, hf⟩ := h
  obtain ⟨a0, len0, cap0, rfl⟩ := okWide_slice Try.underlying22 hval
  rcases DataW.trod_slice Try.underlying22 hf with ⟨hcs, _⟩ | ⟨a, len, cap, elems, rest, n, _, hcs, _, _, _, _, hlen, hel, _⟩
  · simp [Value.cells] at hcs
    obtain ⟨rfl, rfl, rfl⟩ := hcs
    exact ⟨[], none, 0, rfl, .inl rfl⟩
  · simp [Value.cells] at hcs
    obtain ⟨rfl, rfl, rfl⟩ := hcs
    by_cases h0 : len0 = 0
    · subst h0
      exact ⟨[], _, cap0, rfl, .inl rfl⟩
    · have e3 : Try.prog.cellsOf 52 = 3 := by kernel_rfl
      rw [e3] at hel
      have each : ∀ i, i < len0 → ∃ s : Lg, (w.cell? ((a.add (i * 3)).add 0) = some (.int .i64 s.c) ∧ w.cell? ((a.add (i * 3)).add 1) = some (.int .i64 s.b) ∧ w.cell? ((a.add (i * 3)).add 2) = some s.v) ∧ RdW w s.v s.xs ∧ In64 s.c ∧ In64 s.b ∧ (∀ z ∈ s.xs, In64 z) ∧ NilCap s.v := by
        intro i hi
        have h1 := hel i hi
        rw [List.getElem?_eq_getElem (by omega)] at h1
        obtain ⟨cs, hcs, ht⟩ := Option.bind_eq_some_iff.1 h1
        obtain ⟨_, _, hc⟩ := World.cells?_some hcs
        obtain ⟨k, m, v, xs, rfl, hx, h3, h4, h5, h6⟩ := open_log ht
        exact ⟨⟨k, m, v, xs⟩, ⟨hc 0 (by omega), hc 1 (by omega), hc 2 (by omega)⟩, hx, h3, h4, h5, h6⟩
      obtain ⟨b, off, spot⟩ := a
      have hspot : spot = none := by
        obtain ⟨s, hs, _⟩ := each 0 (by omega)
        simpa [Addr.add] using World.cell?_spot hs.1
      subst hspot
      obtain ⟨S, hS, hP⟩ := choose_list len0 each
      have hb : b < w.heap.size := by
        obtain ⟨s, hs, _⟩ := each 0 (by omega)
        have := World.block_lt_of_cell? w _ hs.1
        simpa [Addr.add] using this
      refine ⟨S, _, cap0, by rw [hS], .inr ⟨b, off, rfl, hb, fun i hi => ?_⟩⟩
      obtain ⟨⟨h1, h2, h3⟩, h5, h6, h7, h8, h9⟩ := hP i hi
      simp only [add_plain, Nat.add_zero] at h1 h2 h3
      exact ⟨h1, h2, h3, h5, h6, h7, h8, h9⟩
end
/-! right logs -/
def okLg (g : Lg) : Prop := 0 ≤ g.c ∧ g.c < 8 ∧ 0 ≤ g.b ∧ g.b ≤ 1073741824 ∧ g.xs.length ≤ 32 ∧ ∀ x ∈ g.xs, 0 ≤ x ∧ x ≤ 1048576
def Right (S : List Lg) : Prop := (∀ i (h : i < S.length), okLg S[i]) ∧ ∀ i j (h : i < j) (hj : j < S.length), (S[i]'(by omega)).c < S[j].c
end Go.Proofs.Ytcpcnjblojoppaa
