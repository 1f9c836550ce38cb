/-
  STEPS THAT CAME IN: a slice of structs (a kind, a number, a slice of numbers, a flag), opened. Own work.
-/
import Derived.Test.YtenllpaochcjfaaDoorTL
namespace Go.Proofs.YtenllpaochcjfaaDoor
open Go.ChangeShapes Go.WideShapes Go.ChangeAt Go.RowKit
set_option maxRecDepth 100000
structure St where
  k : Int
  n : Int
  v : Value
  xs : List Int
  raw : Bool
def In64 (n : Int) : Prop := -9223372036854775808 ≤ n ∧ n < 9223372036854775808
/-- Numbers in memory, at whatever place. -/
def RdW (w : World) (v : Value) (xs : List Int) : Prop :=
  ∃ p c, v = .slice p xs.length c ∧ (xs = [] ∨ ∃ b o, p = some ⟨b, o, none⟩ ∧ b < w.heap.size ∧ ∀ t, t < xs.length → w.cell? ⟨b, o + t, none⟩ = some (.int .i64 (xs.getD t 0)))
/-- A slice that is nil has no room. -/
def NilCap (v : Value) : Prop := ∀ c, v = .slice none 0 c → c = 0
structure StAt (w : World) (b o : Nat) (s : St) : Prop where
  k : w.cell? ⟨b, o, none⟩ = some (.int .i64 s.k)
  n : w.cell? ⟨b, o + 1, none⟩ = some (.int .i64 s.n)
  v : w.cell? ⟨b, o + 2, none⟩ = some s.v
  raw : w.cell? ⟨b, o + 3, none⟩ = some (.bool s.raw)
  args : RdW w s.v s.xs
  ink : In64 s.k
  inn : In64 s.n
  inx : ∀ x ∈ s.xs, In64 x
  nilc : NilCap s.v
def Steps (w : World) (v : Value) (S : List St) : Prop :=
  ∃ p c, v = .slice p S.length c ∧ (S = [] ∨ ∃ b o, p = some ⟨b, o, none⟩ ∧ b < w.heap.size ∧ ∀ i (h : i < S.length), StAt w b (o + i * 4) S[i])
theorem Reads.rdw {w : World} {v : Value} {xs : List Int} (h : Reads w v xs) : RdW w v xs := by
  rcases h with ⟨rfl, rfl⟩ | ⟨b, o, c, rfl, hb, hc⟩
  · exact ⟨none, 0, rfl, .inl rfl⟩
  · exact ⟨_, c, rfl, .inr ⟨b, o, rfl, hb, hc⟩⟩
theorem RdW.keeps {F : Nat → Prop} {w w' : World} {v : Value} {xs : List Int} (h : RdW w v xs) (hK : Keeps F w w') (hn : ∀ k, v.ownBlock = some k → ¬ F k) : RdW w' v xs := by
  obtain ⟨p, c, rfl, h | ⟨b, o, rfl, hb, hc⟩⟩ := h
  · exact ⟨p, c, rfl, .inl h⟩
  · exact ⟨_, c, rfl, .inr ⟨b, o, rfl, Nat.lt_of_lt_of_le hb hK.size, fun t ht => (hK.cell (p := ⟨b, o + t, none⟩) hb (hn b rfl)).trans (hc t ht)⟩⟩
theorem RdW.below {w w' : World} {v : Value} {xs : List Int} (h : RdW w v xs) (hB : Below w.heap.size w w') : RdW w' v xs := h.keeps (Keeps.of_below (F := fun _ => False) hB) (fun _ _ h => h)
theorem StAt.below {w w' : World} {b o : Nat} {s : St} (h : StAt w b o s) (hb : b < w.heap.size) (hB : Below w.heap.size w w') : StAt w' b o s :=
  ⟨(hB.cell (p := ⟨b, o, none⟩) hb).trans h.k, (hB.cell (p := ⟨b, o + 1, none⟩) hb).trans h.n, (hB.cell (p := ⟨b, o + 2, none⟩) hb).trans h.v, (hB.cell (p := ⟨b, o + 3, none⟩) hb).trans h.raw, h.args.below hB, h.ink, h.inn, h.inx, h.nilc⟩
theorem Steps.below {w w' : World} {v : Value} {S : List St} (h : Steps w v S) (hB : Below w.heap.size w w') : Steps w' v S := by
  obtain ⟨p, c, rfl, h | ⟨b, o, rfl, hb, hc⟩⟩ := h
  · exact ⟨p, c, rfl, .inl h⟩
  · exact ⟨_, c, rfl, .inr ⟨b, o, rfl, Nat.lt_of_lt_of_le hb hB.size, fun i hi => (hc i hi).below hb hB⟩⟩
section
variable {H : Type} {enc : TypeId × Value → H} {w : World} {base : Nat} {sp : Nat → Bool} {held : Bool}
theorem getD_take {zs : List Int} {l t : Nat} (h : t < (zs.take l).length) : (zs.take l).getD t 0 = zs.getD t 0 := by
  rw [List.getD_eq_getElem?_getD, List.getD_eq_getElem?_getD, List.getElem?_take, if_pos (by rw [List.length_take] at h; omega)]
theorem open_args {fuel : Nat} {v : Value} {x : DataW H × List MemPlace} (h : DataW.trod enc Tryd.prog w base sp held fuel 23 [v] = some x) : ∃ xs, RdW w v xs ∧ (∀ z ∈ xs, In64 z) ∧ NilCap v := by
  rcases open_ints Tryd.underlying23 Tryd.underlying3 (by kernel_rfl) h with ⟨hcs, _⟩ | ⟨a, len, cap, zs, hcs, _, hl, hm, hz, _, hcell, hwz⟩
  · cases hcs
    exact ⟨[], ⟨none, 0, rfl, .inl rfl⟩, (fun _ h => by cases h), fun c h => by cases h; rfl⟩
  · cases hcs
    have hlz : len ≤ zs.length := by rw [hz]; split <;> omega
    by_cases h0 : len = 0
    · subst h0
      exact ⟨[], ⟨_, cap, rfl, .inl rfl⟩, (fun _ h => by cases h), fun c h => by cases h⟩
    · obtain ⟨b, off, spot⟩ := a
      have hc0 := hcell 0 (by omega)
      have hspot : spot = none := by simpa [Addr.add] using World.cell?_spot hc0
      subst hspot
      have hlen : (zs.take len).length = len := by simp; omega
      have hb : b < w.heap.size := by
        have := World.block_lt_of_cell? w _ hc0
        simpa [Addr.add] using this
      refine ⟨zs.take len, ⟨some ⟨b, off, none⟩, cap, by rw [hlen], .inr ⟨b, off, rfl, hb, fun t ht => ?_⟩⟩, fun z hz => i64_bounds (hwz z (List.mem_of_mem_take hz)), fun c h => by cases h⟩
      have h1 := hcell t (by omega)
      rw [add_plain] at h1
      rw [h1, getD_take ht]
theorem open_step {fuel : Nat} {cs : List Value} {x : DataW H × List MemPlace} (h : DataW.trod enc Tryd.prog w base sp held fuel 75 cs = some x) : ∃ k n v xs raw, cs = [.int .i64 k, .int .i64 n, v, .bool raw] ∧ RdW w v xs ∧ In64 k ∧ In64 n ∧ (∀ z ∈ xs, In64 z) ∧ NilCap v := by
  have hu := Tryd.underlying75
  obtain ⟨ys, m, _, _, hl, hlen, hf⟩ := DataW.trod_struct hu h
  have hl4 : cs.length = 4 := by rw [hl]; kernel_rfl
  match cs, hl4 with
  | [c0, c1, c2, c3], _ =>
    match ys, hlen with
    | [y0, y1, y2, y3], _ =>
      have h0 := hf 0 { name := "Kind", type := 3, offset := 0, embedded := false, tag := "", pkgPath := "", byteOffset := 0 } rfl
      have h1 := hf 1 { name := "N", type := 3, offset := 1, embedded := false, tag := "", pkgPath := "", byteOffset := 8 } rfl
      have h2 := hf 2 { name := "Args", type := 23, offset := 2, embedded := false, tag := "", pkgPath := "", byteOffset := 16 } rfl
      have h3 := hf 3 { name := "Raw", type := 4, offset := 3, embedded := false, tag := "", pkgPath := "", byteOffset := 40 } rfl
      have e3 : Tryd.prog.cellsOf 3 = 1 := by kernel_rfl
      have e31 : Tryd.prog.cellsOf 23 = 1 := by kernel_rfl
      have e4 : Tryd.prog.cellsOf 4 = 1 := by kernel_rfl
      dsimp only at h0 h1 h2 h3
      rw [e3] at h0 h1
      rw [e31] at h2
      rw [e4] at h3
      simp only [List.drop, List.take] at h0 h1 h2 h3
      obtain ⟨k, hk, _, wk⟩ := DataW.trod_int Tryd.underlying3 h0
      obtain ⟨n, hn, _, wn⟩ := DataW.trod_int Tryd.underlying3 h1
      obtain ⟨xs, hx, wx, wn2⟩ := open_args h2
      obtain ⟨raw, hr, _⟩ := DataW.trod_bool Tryd.underlying4 h3
      cases hk
      cases hn
      cases hr
      exact ⟨k, n, c2, xs, raw, rfl, hx, i64_bounds wk, i64_bounds wn, wx, wn2⟩
theorem choose_list {α : Type} {P : Nat → α → Prop} : ∀ n : Nat, (∀ i, i < n → ∃ a, P i a) → ∃ S : List α, S.length = n ∧ ∀ i (h : i < S.length), P i S[i]
  | 0, _ => ⟨[], rfl, fun i h => by cases h⟩
  | n + 1, h => by
    obtain ⟨S, hS, hP⟩ := choose_list n (fun i hi => h i (by omega))
    obtain ⟨a, ha⟩ := h n (by omega)
    refine ⟨S ++ [a], by simp [hS], fun i hi => ?_⟩
    rcases Nat.lt_or_ge i S.length with hlt | hge
    · rw [List.getElem_append_left hlt]
      exact hP i hlt
    · simp only [List.length_append, List.length_cons, List.length_nil] at hi
      obtain rfl : i = S.length := by omega
      rw [List.getElem_append_right (Nat.le_refl _)]
      simp only [Nat.sub_self, List.getElem_cons_zero]
      rw [hS]
      exact ha
/-- STEPS, OPENED. -/
theorem open_steps {r : Reach} {b0 : Nat} {v : Value} {d : DataW H} {ps : List MemPlace} (hval : Value.okWide Tryd.prog w r b0 22 v) (h : DataW.Trod enc Tryd.prog w base sp held 22 v d ps) : ∃ S, Steps w v S := by
  obtain ⟨fuel, hf⟩ := h
  obtain ⟨a0, len0, cap0, rfl⟩ := okWide_slice Tryd.underlying22 hval
  rcases DataW.trod_slice Tryd.underlying22 hf with ⟨hcs, _⟩ | ⟨a, len, cap, elems, rest, n, _, hcs, _, _, _, _, hlen, hel, _⟩
  · simp [Value.cells] at hcs
    obtain ⟨rfl, rfl, rfl⟩ := hcs
    exact ⟨[], none, 0, rfl, .inl rfl⟩
  · simp [Value.cells] at hcs
    obtain ⟨rfl, rfl, rfl⟩ := hcs
    by_cases h0 : len0 = 0
    · subst h0
      exact ⟨[], _, cap0, rfl, .inl rfl⟩
    · have e4 : Tryd.prog.cellsOf 75 = 4 := by kernel_rfl
      rw [e4] at hel
      have each : ∀ i, i < len0 → ∃ s : St, (w.cell? ((a.add (i * 4)).add 0) = some (.int .i64 s.k) ∧ w.cell? ((a.add (i * 4)).add 1) = some (.int .i64 s.n) ∧ w.cell? ((a.add (i * 4)).add 2) = some s.v ∧ w.cell? ((a.add (i * 4)).add 3) = some (.bool s.raw)) ∧ RdW w s.v s.xs ∧ In64 s.k ∧ In64 s.n ∧ (∀ z ∈ s.xs, In64 z) ∧ NilCap s.v := by
        intro i hi
        have h1 := hel i hi
        rw [List.getElem?_eq_getElem (by omega)] at h1
        obtain ⟨cs, hcs, ht⟩ := Option.bind_eq_some_iff.1 h1
        obtain ⟨_, _, hc⟩ := World.cells?_some hcs
        obtain ⟨k, m, v, xs, raw, rfl, hx, h3, h4, h5, h6⟩ := open_step ht
        exact ⟨⟨k, m, v, xs, raw⟩, ⟨hc 0 (by omega), hc 1 (by omega), hc 2 (by omega), hc 3 (by omega)⟩, hx, h3, h4, h5, h6⟩
      obtain ⟨b, off, spot⟩ := a
      have hspot : spot = none := by
        obtain ⟨s, hs, _⟩ := each 0 (by omega)
        simpa [Addr.add] using World.cell?_spot hs.1
      subst hspot
      obtain ⟨S, hS, hP⟩ := choose_list len0 each
      have hb : b < w.heap.size := by
        obtain ⟨s, hs, _⟩ := each 0 (by omega)
        have := World.block_lt_of_cell? w _ hs.1
        simpa [Addr.add] using this
      refine ⟨S, _, cap0, by rw [hS], .inr ⟨b, off, rfl, hb, fun i hi => ?_⟩⟩
      obtain ⟨⟨h1, h2, h3, h4⟩, h5, h6, h7, h8, h9⟩ := hP i hi
      simp only [add_plain, Nat.add_zero] at h1 h2 h3 h4
      exact ⟨h1, h2, h3, h4, h5, h6, h7, h8, h9⟩
theorem kept_arg {P : Program} {t : TypeId} (hl : laidOutB P = true) (hr : P.readableRec t = true) (hrow : t < P.types.size) {W W' : World} {v : Value} {d : DataW H} {ps : List MemPlace} (h : DataW.Trod enc P W 0 (fun _ => true) true t v d ps) (hb : Below W.heap.size W W') (hlt : ∀ x ∈ ps, x.block < W.heap.size) {sp : Nat → Bool} (hs : ∀ p ∈ ps, sp p.block = true) :
    DataW.Trod enc P W' 0 sp true t v d ps := WideElems.Trod_stays hl hr hrow h (fun x hx => hb.same (hlt x hx)) hs
theorem laidOut : laidOutB Tryd.prog = true := by kernel_rfl
/-- Numbers that came in, opened. -/
theorem open_nums {r : Reach} {b0 : Nat} {v : Value} {d : DataW H} {ps : List MemPlace} (hval : Value.okWide Tryd.prog w r b0 23 v) (h : DataW.Trod enc Tryd.prog w base sp held 23 v d ps) : ∃ xs, RdW w v xs ∧ (∀ z ∈ xs, In64 z) ∧ NilCap v := by
  obtain ⟨fuel, hf⟩ := h
  obtain ⟨a0, len0, cap0, rfl⟩ := okWide_slice Tryd.underlying23 hval
  exact open_args hf
end
end Go.Proofs.YtenllpaochcjfaaDoor
