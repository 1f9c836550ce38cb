/-
  DISK: acts and rows of bytes that came in; heavy; Bytes. Own work.
-/
import Derived.Test.YtgcndphocpedjaaDKk
namespace Go.Proofs.Ytgcndphocpedjaa
open Go.ChangeShapes Go.WideShapes Go.ChangeAt Go.RowKit Go.Maps Go.Deep
set_option maxRecDepth 100000
attribute [local go_sem ↓] Go.wp_at_zero Go.wp_at_succ
theorem rdv_nil (w : World) : RdV w (.slice none 0 0) [] := ⟨none, 0, rfl, .inl rfl⟩
theorem rdv_cell {w : World} {b o n c t : Nat} {cs : List Value} (h : RdV w (.slice (some ⟨b, o, none⟩) n c) cs) (ht : t < cs.length) : w.cell? ⟨b, o + t, none⟩ = cs[t]? := by
  obtain ⟨b', o', e, _, hc⟩ := rdv_nth h ht
  cases e
  exact hc
structure Ac where
  d : Int
  i : Int
  bv : Value
  bs : List Int
  raw : Bool
  kv : Value
  ks : List Bool
  t : Int
structure AcAt (w : World) (b o : Nat) (a : Ac) : Prop where
  c0 : w.cell? ⟨b, o, none⟩ = some (.int .i64 a.d)
  c1 : w.cell? ⟨b, o + 1, none⟩ = some (.int .i64 a.i)
  c2 : w.cell? ⟨b, o + 2, none⟩ = some a.bv
  c3 : w.cell? ⟨b, o + 3, none⟩ = some (.bool a.raw)
  c4 : w.cell? ⟨b, o + 4, none⟩ = some a.kv
  c5 : w.cell? ⟨b, o + 5, none⟩ = some (.int .i64 a.t)
  rb : RdV w a.bv (a.bs.map (Value.int .u8))
  rk : RdV w a.kv (a.ks.map Value.bool)
  ii : In64 a.i
def Acts (w : World) (v : Value) (S : List Ac) : Prop :=
  ∃ p c, v = .slice p S.length c ∧ (S = [] ∨ ∃ b o, p = some ⟨b, o, none⟩ ∧ b < w.heap.size ∧ ∀ i (h : i < S.length), AcAt w b (o + i * 6) S[i])
theorem AcAt.below {w w' : World} {b o : Nat} {s : Ac} (h : AcAt w b o s) (hb : b < w.heap.size) (hB : Below w.heap.size w w') : AcAt w' b o s :=
  ⟨(hB.cell (p := ⟨b, o, none⟩) hb).trans h.c0, (hB.cell (p := ⟨b, o + 1, none⟩) hb).trans h.c1, (hB.cell (p := ⟨b, o + 2, none⟩) hb).trans h.c2, (hB.cell (p := ⟨b, o + 3, none⟩) hb).trans h.c3, (hB.cell (p := ⟨b, o + 4, none⟩) hb).trans h.c4, (hB.cell (p := ⟨b, o + 5, none⟩) hb).trans h.c5, h.rb.below hB, h.rk.below hB, h.ii⟩
theorem Acts.below {w w' : World} {v : Value} {S : List Ac} (h : Acts w v S) (hB : Below w.heap.size w w') : Acts w' v S := by
  obtain ⟨p, c, rfl, h | ⟨b, o, rfl, hb, hc⟩⟩ := h
  · exact ⟨p, c, rfl, .inl h⟩
  · exact ⟨_, c, rfl, .inr ⟨b, o, rfl, Nat.lt_of_lt_of_le hb hB.size, fun i hi => (hc i hi).below hb hB⟩⟩
theorem acts_nth {w : World} {p : Option Addr} {n c t : Nat} {S : List Ac} (h : Acts w (.slice p n c) S) (ht : t < S.length) : ∃ b o, p = some ⟨b, o, none⟩ ∧ b < w.heap.size ∧ AcAt w b (o + t * 6) S[t] := by
  obtain ⟨p', c', e, rfl | ⟨b, o, rfl, hb, hc⟩⟩ := h
  · exact absurd ht (Nat.not_lt_zero _)
  · cases e
    exact ⟨b, o, rfl, hb, hc t ht⟩
section
variable {H : Type} {enc : TypeId × Value → H} {w : World} {base : Nat} {held : Bool}
theorem open_bytesV {fuel : Nat} {v : Value} {x : DataW H × List MemPlace} (h : DataW.trod enc Try.prog w base (fun _ => true) held fuel 32 [v] = some x) : ∃ bs : List Int, RdV w v (bs.map (Value.int .u8)) := by
  rcases open_ints Try.underlying32 Try.underlying5 (by kernel_rfl) h with ⟨hcs, _⟩ | ⟨a, len, cap, zs, hcs, _, hl, hm, hz, _, hcell, hwz⟩
  · cases hcs
    exact ⟨[], none, 0, rfl, .inl rfl⟩
  · cases hcs
    have hlz : len ≤ zs.length := by rw [hz]; split <;> omega
    by_cases h0 : len = 0
    · subst h0
      exact ⟨[], _, cap, rfl, .inl rfl⟩
    · obtain ⟨b, off, spot⟩ := a
      have hc0 := hcell 0 (by omega)
      have hspot : spot = none := by simpa [Addr.add] using World.cell?_spot hc0
      subst hspot
      have hlen : (zs.take len).length = len := by simp; omega
      have hb : b < w.heap.size := by
        have := World.block_lt_of_cell? w _ hc0
        simpa [Addr.add] using this
      refine ⟨zs.take len, some ⟨b, off, none⟩, cap, by simp; omega, .inr ⟨b, off, rfl, hb, fun t ht => ?_⟩⟩
      have ht' : t < len := by simp at ht; omega
      have h1 := hcell t (by omega)
      rw [addr_mid] at h1
      rw [h1, List.getElem?_map, List.getElem?_take, if_pos ht', List.getD_eq_getElem?_getD, List.getElem?_eq_getElem (by omega)]
      rfl
theorem open_boolsV {fuel : Nat} {v : Value} {x : DataW H × List MemPlace} (h : DataW.trod enc Try.prog w base (fun _ => true) held fuel 33 [v] = some x) : ∃ ks : List Bool, RdV w v (ks.map Value.bool) := by
  rcases open_bools Try.underlying33 Try.underlying4 (by kernel_rfl) h with ⟨hcs, _⟩ | ⟨a, len, cap, B, hcs, _, hl, hm, _, hcell⟩
  · cases hcs
    exact ⟨[], none, 0, rfl, .inl rfl⟩
  · cases hcs
    by_cases h0 : len = 0
    · subst h0
      exact ⟨[], _, cap, rfl, .inl rfl⟩
    · obtain ⟨b, off, spot⟩ := a
      have hc0 := hcell 0 (by omega)
      have hspot : spot = none := by simpa [Addr.add] using World.cell?_spot hc0
      subst hspot
      have hb : b < w.heap.size := by
        have := World.block_lt_of_cell? w _ hc0
        simpa [Addr.add] using this
      refine ⟨(List.range len).map B, some ⟨b, off, none⟩, cap, by simp, .inr ⟨b, off, rfl, hb, fun t ht => ?_⟩⟩
      have ht' : t < len := by simpa using ht
      have h1 := hcell t (by omega)
      rw [addr_mid] at h1
      rw [h1, List.getElem?_map, List.getElem?_map, List.getElem?_range ht']
      rfl
theorem open_act {fuel : Nat} {cs : List Value} {x : DataW H × List MemPlace} (h : DataW.trod enc Try.prog w base (fun _ => true) held fuel 35 cs = some x) : ∃ a : Ac, cs = [.int .i64 a.d, .int .i64 a.i, a.bv, .bool a.raw, a.kv, .int .i64 a.t] ∧ RdV w a.bv (a.bs.map (Value.int .u8)) ∧ RdV w a.kv (a.ks.map Value.bool) ∧ In64 a.i := by
  have hu := Try.underlying35
  obtain ⟨ys, m, _, _, hl, hlen, hf⟩ := DataW.trod_struct hu h
  have hl6 : cs.length = 6 := by rw [hl]; kernel_rfl
  match cs, hl6 with
  | [c0, c1, c2, c3, c4, c5], _ =>
    match ys, hlen with
    | [y0, y1, y2, y3, y4, y5], _ =>
      have h0 := hf 0 { name := "Do", type := 3, offset := 0, embedded := false, tag := "", pkgPath := "", byteOffset := 0 } rfl
      have h1 := hf 1 { name := "I", type := 3, offset := 1, embedded := false, tag := "", pkgPath := "", byteOffset := 8 } rfl
      have h2 := hf 2 { name := "B", type := 32, offset := 2, embedded := false, tag := "", pkgPath := "", byteOffset := 16 } rfl
      have h3 := hf 3 { name := "Raw", type := 4, offset := 3, embedded := false, tag := "", pkgPath := "", byteOffset := 40 } rfl
      have h4 := hf 4 { name := "Keep", type := 33, offset := 4, embedded := false, tag := "", pkgPath := "", byteOffset := 48 } rfl
      have h5 := hf 5 { name := "Torn", type := 3, offset := 5, embedded := false, tag := "", pkgPath := "", byteOffset := 72 } rfl
      have e3 : Try.prog.cellsOf 3 = 1 := by kernel_rfl
      have e4 : Try.prog.cellsOf 32 = 1 := by kernel_rfl
      have e5 : Try.prog.cellsOf 4 = 1 := by kernel_rfl
      have e6 : Try.prog.cellsOf 33 = 1 := by kernel_rfl
      dsimp only at h0 h1 h2 h3 h4 h5
      rw [e3] at h0 h1 h5
      rw [e4] at h2
      rw [e5] at h3
      rw [e6] at h4
      simp only [List.drop, List.take] at h0 h1 h2 h3 h4 h5
      obtain ⟨k, hk, _, wk⟩ := DataW.trod_int Try.underlying3 h0
      obtain ⟨n, hn, _, wn⟩ := DataW.trod_int Try.underlying3 h1
      obtain ⟨t, ht, _, wt⟩ := DataW.trod_int Try.underlying3 h5
      obtain ⟨r, hr, _⟩ := DataW.trod_bool Try.underlying4 h3
      obtain ⟨bs, hbs⟩ := open_bytesV h2
      obtain ⟨ks, hks⟩ := open_boolsV h4
      cases hk
      cases hn
      cases ht
      cases hr
      exact ⟨⟨k, n, c2, bs, r, c4, ks, t⟩, rfl, hbs, hks, i64_bounds wn⟩
/-- ACTS, OPENED. -/
theorem open_acts {r : Reach} {b0 : Nat} {v : Value} {d : DataW H} {ps : List MemPlace} (hval : Value.okWide Try.prog w r b0 22 v) (h : DataW.Trod enc Try.prog w base (fun _ => true) held 22 v d ps) : ∃ S, Acts w v S := by
  obtain ⟨fuel, hf⟩ := h
  obtain ⟨a0, len0, cap0, rfl⟩ := okWide_slice Try.underlying22 hval
  rcases DataW.trod_slice Try.underlying22 hf with ⟨hcs, _⟩ | ⟨a, len, cap, elems, rest, n, _, hcs, _, _, _, _, hlen, hel, _⟩
  · simp [Value.cells] at hcs
    obtain ⟨rfl, rfl, rfl⟩ := hcs
    exact ⟨[], none, 0, rfl, .inl rfl⟩
  · simp [Value.cells] at hcs
    obtain ⟨rfl, rfl, rfl⟩ := hcs
    by_cases h0 : len0 = 0
    · subst h0
      exact ⟨[], _, cap0, rfl, .inl rfl⟩
    · have e6 : Try.prog.cellsOf 35 = 6 := by kernel_rfl
      rw [e6] at hel
      have each : ∀ i, i < len0 → ∃ s : Ac, (w.cell? ((a.add (i * 6)).add 0) = some (.int .i64 s.d) ∧ w.cell? ((a.add (i * 6)).add 1) = some (.int .i64 s.i) ∧ w.cell? ((a.add (i * 6)).add 2) = some s.bv ∧ w.cell? ((a.add (i * 6)).add 3) = some (.bool s.raw) ∧ w.cell? ((a.add (i * 6)).add 4) = some s.kv ∧ w.cell? ((a.add (i * 6)).add 5) = some (.int .i64 s.t)) ∧ RdV w s.bv (s.bs.map (Value.int .u8)) ∧ RdV w s.kv (s.ks.map Value.bool) ∧ In64 s.i := by
        intro i hi
        have h1 := hel i hi
        rw [List.getElem?_eq_getElem (by omega)] at h1
        obtain ⟨cs, hcs, ht⟩ := Option.bind_eq_some_iff.1 h1
        obtain ⟨_, _, hc⟩ := World.cells?_some hcs
        obtain ⟨s, rfl, h3, h4, h5⟩ := open_act ht
        exact ⟨s, ⟨hc 0 (by omega), hc 1 (by omega), hc 2 (by omega), hc 3 (by omega), hc 4 (by omega), hc 5 (by omega)⟩, h3, h4, h5⟩
      obtain ⟨b, off, spot⟩ := a
      have hspot : spot = none := by
        obtain ⟨s, hs, _⟩ := each 0 (by omega)
        simpa [Addr.add] using World.cell?_spot hs.1
      subst hspot
      obtain ⟨S, hS, hP⟩ := choose_list len0 each
      have hb : b < w.heap.size := by
        obtain ⟨s, hs, _⟩ := each 0 (by omega)
        have := World.block_lt_of_cell? w _ hs.1
        simpa [Addr.add] using this
      refine ⟨S, _, cap0, by rw [hS], .inr ⟨b, off, rfl, hb, fun i hi => ?_⟩⟩
      obtain ⟨⟨h1, h2, h3, h4, h5, h6⟩, h7, h8, h9⟩ := hP i hi
      simp only [add_plain, Nat.add_zero] at h1 h2 h3 h4 h5 h6
      exact ⟨h1, h2, h3, h4, h5, h6, h7, h8, h9⟩
/-- Rows of bytes. -/
structure Rb where
  v : Value
  bs : List Int
def Rbs (w : World) (v : Value) (S : List Rb) : Prop :=
  ∃ p c, v = .slice p S.length c ∧ (S = [] ∨ ∃ b o, p = some ⟨b, o, none⟩ ∧ b < w.heap.size ∧ ∀ i (h : i < S.length), w.cell? ⟨b, o + i, none⟩ = some S[i].v ∧ RdV w S[i].v (S[i].bs.map (Value.int .u8)))
theorem open_brows {r : Reach} {b0 : Nat} {v : Value} {d : DataW H} {ps : List MemPlace} (hval : Value.okWide Try.prog w r b0 38 v) (h : DataW.Trod enc Try.prog w base (fun _ => true) held 38 v d ps) : ∃ S, Rbs w v S := by
  obtain ⟨fuel, hf⟩ := h
  obtain ⟨a0, len0, cap0, rfl⟩ := okWide_slice Try.underlying38 hval
  rcases DataW.trod_slice Try.underlying38 hf with ⟨hcs, _⟩ | ⟨a, len, cap, elems, rest, n, _, hcs, _, _, _, _, hlen, hel, _⟩
  · simp [Value.cells] at hcs
    obtain ⟨rfl, rfl, rfl⟩ := hcs
    exact ⟨[], none, 0, rfl, .inl rfl⟩
  · simp [Value.cells] at hcs
    obtain ⟨rfl, rfl, rfl⟩ := hcs
    by_cases h0 : len0 = 0
    · subst h0
      exact ⟨[], _, cap0, rfl, .inl rfl⟩
    · have e1 : Try.prog.cellsOf 32 = 1 := by kernel_rfl
      rw [e1] at hel
      have each : ∀ i, i < len0 → ∃ s : Rb, w.cell? ((a.add (i * 1)).add 0) = some s.v ∧ RdV w s.v (s.bs.map (Value.int .u8)) := by
        intro i hi
        have h1 := hel i hi
        rw [List.getElem?_eq_getElem (by omega)] at h1
        obtain ⟨cs, hcs, ht⟩ := Option.bind_eq_some_iff.1 h1
        obtain ⟨hcl, _, hc⟩ := World.cells?_some hcs
        match cs, hcl with
        | [c0], _ =>
          obtain ⟨bs, hbs⟩ := open_bytesV ht
          exact ⟨⟨c0, bs⟩, hc 0 (by omega), hbs⟩
      obtain ⟨b, off, spot⟩ := a
      have hspot : spot = none := by
        obtain ⟨s, hs, _⟩ := each 0 (by omega)
        simpa [Addr.add] using World.cell?_spot hs
      subst hspot
      obtain ⟨S, hS, hP⟩ := choose_list len0 each
      have hb : b < w.heap.size := by
        obtain ⟨s, hs, _⟩ := each 0 (by omega)
        have := World.block_lt_of_cell? w _ hs
        simpa [Addr.add] using this
      refine ⟨S, _, cap0, by rw [hS], .inr ⟨b, off, rfl, hb, fun i hi => ?_⟩⟩
      obtain ⟨h1, h2⟩ := hP i hi
      simp only [add_plain, Nat.add_zero, Nat.mul_one] at h1
      exact ⟨h1, h2⟩
end
end Go.Proofs.Ytgcndphocpedjaa
