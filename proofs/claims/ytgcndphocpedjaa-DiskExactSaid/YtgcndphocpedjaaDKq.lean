/-
  THE PAGE's DISK: what it holds, in memory; on lists. Own work.
-/
import Derived.Test.YtgcndphocpedjaaDKo
namespace Go.Proofs.Ytgcndphocpedjaa
open Go.ChangeShapes Go.WideShapes Go.ChangeAt Go.RowKit Go.Maps Go.Deep
set_option maxRecDepth 100000
attribute [local go_sem ↓] Go.wp_at_zero Go.wp_at_succ
/-- The last write to a place. -/
def lst : List Wri → Nat → Sec → Sec
  | [], _, y => y
  | x :: l, i, y => lst l i (if x.1 = i then (x.2, false) else y)
theorem lst_app (x : Wri) : ∀ (l : List Wri) (i : Nat) (y : Sec), lst (l ++ [x]) i y = if x.1 = i then (x.2, false) else lst l i y
  | [], i, y => rfl
  | z :: l, i, y => by rw [List.cons_append, lst, lst, lst_app x l]
theorem lst_none {l : List Wri} {i : Nat} (h : ∀ x ∈ l, x.1 ≠ i) (y : Sec) : lst l i y = y := by
  induction l generalizing y with
  | nil => rfl
  | cons x l ih =>
    rw [lst, if_neg (h x (by simp))]
    exact ih (fun z hz => h z (by simp [hz])) y
def NowInv (d : Dk) : Prop := ∀ (i : Nat) (y : Sec), d.safe[i]? = some y → d.now[i]? = some (lst d.wr i y)
def synP (l : List Wri) (s : List Sec) : Nat → List Sec
  | 0 => s
  | j + 1 => match l[j]? with | some x => (synP l s j).set x.1 (x.2, false) | none => synP l s j
theorem synP_len {l : List Wri} {s : List Sec} : ∀ j, (synP l s j).length = s.length
  | 0 => rfl
  | j + 1 => by
    rw [synP]
    cases hl : l[j]? with
    | none => exact synP_len j
    | some x => simp only [List.length_set]; exact synP_len j
theorem synP_get {l : List Wri} {s : List Sec} {p : Nat} {y : Sec} (hy : s[p]? = some y) : ∀ j, j ≤ l.length → (synP l s j)[p]? = some (lst (l.take j) p y)
  | 0, _ => by simpa [synP, lst] using hy
  | j + 1, hj => by
    have ih := synP_get (l := l) hy j (by omega)
    have hx : l[j]? = some (l[j]'(by omega)) := List.getElem?_eq_getElem (show j < l.length by omega)
    have hp : p < s.length := (List.getElem?_eq_some_iff.1 hy).1
    rw [synP, hx, List.take_add_one, hx]
    simp only [Option.toList_some]
    rw [lst_app]
    by_cases e : (l[j]'(by omega)).1 = p
    · rw [if_pos e, e, List.getElem?_set_self (by rw [synP_len]; exact hp)]
    · rw [if_neg e, List.getElem?_set_ne e]
      exact ih
theorem syn_some {l : List Wri} {nw s : List Sec} {p : Nat} (hp : p < s.length) {y : Sec} (hy : nw[p]? = some y) : ∀ j, j ≤ l.length → (∃ x ∈ l.take j, x.1 = p) → (syn l nw s j)[p]? = some y
  | 0, _, ⟨x, hx, _⟩ => by simp at hx
  | j + 1, hj, ⟨x, hx, hxp⟩ => by
    have hz : l[j]? = some (l[j]'(by omega)) := List.getElem?_eq_getElem (by omega)
    rw [List.take_add_one, hz] at hx
    rw [syn, hz]
    simp only
    by_cases e : (l[j]'(by omega)).1 = p
    · rw [e, hy]
      simp only
      rw [List.getElem?_set_self (by rw [syn_len]; exact hp)]
    · have hx' : x ∈ l.take j := by
        rcases List.mem_append.1 hx with h | h
        · exact h
        · simp at h
          rw [h] at hxp
          exact absurd hxp e
      have ih := syn_some (l := l) hp hy j (by omega) ⟨x, hx', hxp⟩
      split
      · rw [List.getElem?_set_ne e]
        exact ih
      · exact ih
theorem syn_eq {d : Dk} (h : NowInv d) : syn d.wr d.now d.safe d.wr.length = synP d.wr d.safe d.wr.length := by
  apply List.ext_getElem?
  intro p
  cases hp : d.safe[p]? with
  | none =>
    have hl : d.safe.length ≤ p := List.getElem?_eq_none_iff.1 hp
    rw [List.getElem?_eq_none (by rw [syn_len]; exact hl), List.getElem?_eq_none (by rw [synP_len]; exact hl)]
  | some y =>
    rw [synP_get hp _ (Nat.le_refl _), List.take_length]
    by_cases ho : ∃ x ∈ d.wr, x.1 = p
    · exact syn_some (List.getElem?_eq_some_iff.1 hp).1 (h p y hp) _ (Nat.le_refl _) (by rw [List.take_length]; exact ho)
    · have hn : ∀ x ∈ d.wr, x.1 ≠ p := fun x hx e => ho ⟨x, hx, e⟩
      rw [syn_far (fun x hx => (hn x hx).symm), lst_none hn, hp]
theorem NowInv.synced {d : Dk} (h : NowInv d) (hl : d.now.length = d.safe.length) (m : Nat) : NowInv { d with safe := synP d.wr d.safe d.wr.length, wr := [], left := m } := fun i y hy => by
  show d.now[i]? = some y
  have hi : i < d.safe.length := by
    have := (List.getElem?_eq_some_iff.1 hy).1
    simpa [synP_len] using this
  obtain ⟨z, hz⟩ : ∃ z, d.safe[i]? = some z := ⟨_, List.getElem?_eq_getElem hi⟩
  have e := synP_get hz _ (Nat.le_refl d.wr.length)
  rw [List.take_length] at e
  rw [h i z hz, ← e]
  exact hy
theorem NowInv.crashed (d : Dk) (ks : List Bool) (t : Int) : NowInv (d.crash ks t) := fun i y hy => hy
theorem NowInv.wrote {d : Dk} (h : NowInv d) (hl : d.now.length = d.safe.length) (i : Nat) (bs : List Int) (m : Nat) : NowInv { d with wr := d.wr ++ [(i, bs)], left := m, now := d.now.set i (bs, false) } := fun p y hy => by
  simp only at hy ⊢
  rw [lst_app]
  have hp := (List.getElem?_eq_some_iff.1 hy).1
  by_cases e : i = p
  · subst e
    rw [if_pos rfl, List.getElem?_set_self (by omega)]
  · rw [if_neg e, List.getElem?_set_ne e]
    exact h p y hy
theorem NowInv.fresh (n : Nat) : NowInv (Dk.fresh n) := fun i y hy => hy
/-! in memory -/
def wpv (x : Nat × Value) : List Value := [.int .i64 (x.1 : Int), x.2]
structure PA where
  us : Value
  ut : Value
  uw : Value
  uk : Value
  sl : List Value
  wl : List (Nat × Value)
  pk : List Bool
  pt : Int
def PA.rows (A : PA) (pb : Nat) (d : Dk) : List RowD := [⟨60, 7, .slice (some ⟨pb, 0, none⟩) 1 1, 1, [A.us, A.ut, A.uw, .bool d.off, .int .i64 (d.left : Int), A.uk, .int .i64 A.pt]⟩, ⟨32, 1, A.us, A.sl.length, A.sl⟩, boolRow A.ut (d.safe.map (·.2)), ⟨72, 2, A.uw, A.wl.length, A.wl.flatMap wpv⟩, boolRow A.uk A.pk]
structure Pg (w0 w : World) (pb n : Nat) (d : Dk) (A : PA) (Q Mb : List RowD) : Prop where
  fam : Fam w0 w (A.rows pb d ++ Q)
  ok : d.Ok n
  ls : A.sl.length = d.safe.length
  s : ∀ (i : Nat) (y : Sec), d.safe[i]? = some y → ∃ v, A.sl[i]? = some v ∧ byteRow v y.1 ∈ Mb
  lw : A.wl.length = d.wr.length
  w : ∀ (k : Nat) (x : Wri), d.wr[k]? = some x → ∃ v, A.wl[k]? = some (x.1, v) ∧ byteRow v x.2 ∈ Mb
  sub : ∀ r ∈ Mb, r ∈ Q
section
variable {w0 w w' : World} {pb n : Nat} {d : Dk} {A : PA} {Q Mb : List RowD}
theorem Pg.step (T : Pg w0 w pb n d A Q Mb) (hB : Below w.heap.size w w') : Pg w0 w' pb n d A Q Mb := ⟨T.fam.step hB, T.ok, T.ls, T.s, T.lw, T.w, T.sub⟩
theorem Pg.h (T : Pg w0 w pb n d A Q Mb) : w.ownsRow w0.heap.size 60 7 (.slice (some ⟨pb, 0, none⟩) 1 1) 1 [A.us, A.ut, A.uw, .bool d.off, .int .i64 (d.left : Int), A.uk, .int .i64 A.pt] := T.fam.row 0 _ rfl
theorem Pg.c (T : Pg w0 w pb n d A Q Mb) (j : Nat) (hj : j < 7) : w.cell? ⟨pb, j, none⟩ = [A.us, A.ut, A.uw, .bool d.off, .int .i64 (d.left : Int), A.uk, .int .i64 A.pt][j]? := World.ownsRow.cellAt T.h j (by omega)
theorem Pg.c0 (T : Pg w0 w pb n d A Q Mb) : w.cell? ⟨pb, 0, none⟩ = some A.us := T.c 0 (by omega)
theorem Pg.c1 (T : Pg w0 w pb n d A Q Mb) : w.cell? ⟨pb, 1, none⟩ = some A.ut := T.c 1 (by omega)
theorem Pg.c2 (T : Pg w0 w pb n d A Q Mb) : w.cell? ⟨pb, 2, none⟩ = some A.uw := T.c 2 (by omega)
theorem Pg.c3 (T : Pg w0 w pb n d A Q Mb) : w.cell? ⟨pb, 3, none⟩ = some (.bool d.off) := T.c 3 (by omega)
theorem Pg.c4 (T : Pg w0 w pb n d A Q Mb) : w.cell? ⟨pb, 4, none⟩ = some (.int .i64 (d.left : Int)) := T.c 4 (by omega)
theorem Pg.c5 (T : Pg w0 w pb n d A Q Mb) : w.cell? ⟨pb, 5, none⟩ = some A.uk := T.c 5 (by omega)
theorem Pg.c6 (T : Pg w0 w pb n d A Q Mb) : w.cell? ⟨pb, 6, none⟩ = some (.int .i64 A.pt) := T.c 6 (by omega)
theorem Pg.z (T : Pg w0 w pb n d A Q Mb) (j : Nat) : w.frozen? ⟨pb, j, none⟩ = false := World.ownsRow.frozenAt T.h j
theorem Pg.rs (T : Pg w0 w pb n d A Q Mb) : ∃ g c, A.us = .slice (some ⟨g, 0, none⟩) n c ∧ w.ownsRow w0.heap.size 32 1 (.slice (some ⟨g, 0, none⟩) n c) n A.sl := by
  have h : w.ownsRow w0.heap.size 32 1 A.us A.sl.length A.sl := T.fam.row 1 _ rfl
  rw [T.ls, T.ok.ls] at h
  obtain ⟨p, c, e⟩ := row_slice h
  rw [e] at h
  obtain ⟨g, rfl, _⟩ := row_open h T.ok.pos
  exact ⟨g, c, e, h⟩
theorem Pg.rt (T : Pg w0 w pb n d A Q Mb) : ∃ g c, A.ut = .slice (some ⟨g, 0, none⟩) n c ∧ w.ownsRow w0.heap.size 4 1 (.slice (some ⟨g, 0, none⟩) n c) n ((d.safe.map (·.2)).map Value.bool) := by
  have h : w.ownsRow w0.heap.size 4 1 A.ut (d.safe.map (·.2)).length ((d.safe.map (·.2)).map Value.bool) := T.fam.row 2 _ rfl
  rw [List.length_map, T.ok.ls] at h
  obtain ⟨p, c, e⟩ := row_slice h
  rw [e] at h
  obtain ⟨g, rfl, _⟩ := row_open h T.ok.pos
  exact ⟨g, c, e, h⟩
theorem Pg.rw (T : Pg w0 w pb n d A Q Mb) : w.ownsRow w0.heap.size 72 2 A.uw d.wr.length (A.wl.flatMap wpv) := by
  have h : w.ownsRow w0.heap.size 72 2 A.uw A.wl.length (A.wl.flatMap wpv) := T.fam.row 3 _ rfl
  rw [T.lw] at h
  exact h
theorem Pg.rk (T : Pg w0 w pb n d A Q Mb) : w.ownsRow w0.heap.size 4 1 A.uk A.pk.length (A.pk.map Value.bool) := T.fam.row 4 _ rfl
theorem Pg.row (T : Pg w0 w pb n d A Q Mb) {r : RowD} (h : r ∈ Q) : w.ownsRow w0.heap.size r.e r.size r.v r.n r.xs := by
  obtain ⟨k, hk, rfl⟩ := List.getElem_of_mem h
  refine T.fam.row (5 + k) _ ?_
  rw [List.getElem?_append_right (by show 5 ≤ 5 + k; omega), show 5 + k - (A.rows pb d).length = k by show 5 + k - 5 = k; omega, List.getElem?_eq_getElem hk]
theorem wpv_len {l : List (Nat × Value)} : ∀ x ∈ l, (wpv x).length = 2 := fun _ _ => rfl
/-- A write's number and bytes. -/
theorem Pg.wcell (T : Pg w0 w pb n d A Q Mb) {k : Nat} {x : Wri} (hx : d.wr[k]? = some x) : ∃ g c v, A.uw = .slice (some ⟨g, 0, none⟩) d.wr.length c ∧ w.cell? ⟨g, k * 2, none⟩ = some (.int .i64 (x.1 : Int)) ∧ w.cell? ⟨g, k * 2 + 1, none⟩ = some v ∧ A.wl[k]? = some (x.1, v) ∧ byteRow v x.2 ∈ Mb := by
  obtain ⟨v, hv, hq⟩ := T.w k x hx
  have h := T.rw
  obtain ⟨p, c, e⟩ := row_slice h
  rw [e] at h
  obtain ⟨g, rfl, _⟩ := row_open h (by have := (List.getElem?_eq_some_iff.1 hx).1; omega)
  rw [← T.lw] at h
  refine ⟨g, c, v, e, ?_, ?_, hv, hq⟩
  · have := wide_cell wpv_len h k 0 _ hv (by omega)
    simpa [wpv] using this
  · have := wide_cell wpv_len h k 1 _ hv (by omega)
    simpa [wpv] using this
end
end Go.Proofs.Ytgcndphocpedjaa
