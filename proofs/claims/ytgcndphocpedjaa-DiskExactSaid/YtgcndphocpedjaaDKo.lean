/-
  DISKSAFE: what stays, on lists; each act, whatever the disk does. Own work.
-/
import Derived.Test.YtgcndphocpedjaaDKn
namespace Go.Proofs.Ytgcndphocpedjaa
open Go.ChangeShapes Go.WideShapes Go.ChangeAt Go.RowKit Go.Maps Go.Deep
set_option maxRecDepth 100000
attribute [local go_sem ↓] Go.wp_at_zero Go.wp_at_succ
def Small (m : Nat) : Prop := m < 9223372036854775808
theorem crs_far {ks : List Bool} {t : Int} {l : List Wri} {s : List Sec} {p : Nat} (h : ∀ x ∈ l, p ≠ x.1) : ∀ j, (crs ks t l s j)[p]? = s[p]?
  | 0 => rfl
  | j + 1 => by
    rw [crs]
    cases hl : l[j]? with
    | none => exact crs_far h j
    | some x =>
      have hx := h x (List.mem_of_getElem? hl)
      show (stepC ks t j x (crs ks t l s j))[p]? = _
      rw [stepC]
      split
      · split
        · rw [List.getElem?_set_ne (Ne.symm hx)]
          exact crs_far h j
        · exact crs_far h j
      · split
        · rw [List.getElem?_set_ne (Ne.symm hx)]
          exact crs_far h j
        · exact crs_far h j
theorem syn_far {l : List Wri} {nw s : List Sec} {p : Nat} (h : ∀ x ∈ l, p ≠ x.1) : ∀ j, (syn l nw s j)[p]? = s[p]?
  | 0 => rfl
  | j + 1 => by
    rw [syn]
    cases hl : l[j]? with
    | none => exact syn_far h j
    | some x =>
      have hx := h x (List.mem_of_getElem? hl)
      simp only
      split
      · rw [List.getElem?_set_ne (Ne.symm hx)]
        exact syn_far h j
      · exact syn_far h j
theorem syn_len {l : List Wri} {nw s : List Sec} : ∀ j, (syn l nw s j).length = s.length
  | 0 => rfl
  | j + 1 => by
    rw [syn]
    cases hl : l[j]? with
    | none => exact syn_len j
    | some x =>
      simp only
      split
      · rw [List.length_set]
        exact syn_len j
      · exact syn_len j
theorem syn_hit {l : List Wri} {nw s : List Sec} (h : ∀ k, k < l.length → ∃ b, l[k]? = some (k, b)) (hs : l.length ≤ s.length) : ∀ j, j ≤ l.length → ∀ p y, p < j → nw[p]? = some y → (syn l nw s j)[p]? = some y
  | 0, _, p, _, hp, _ => absurd hp (Nat.not_lt_zero _)
  | j + 1, hj, p, y, hp, hy => by
    obtain ⟨b, hb⟩ := h j (by omega)
    rw [syn, hb]
    simp only
    by_cases e : p = j
    · subst e
      rw [hy]
      simp only
      rw [List.getElem?_set_self (by rw [syn_len]; omega)]
    · have ih := syn_hit h hs j (by omega) p y (by omega) hy
      split
      · rw [List.getElem?_set_ne (Ne.symm e)]
        exact ih
      · exact ih
/-- What was made safe. -/
structure Sf (W : List (List Int)) (d : Dk) : Prop where
  now : ∀ (p : Nat) (b : List Int), W[p]? = some b → d.now[p]? = some (b, false)
  safe : ∀ (p : Nat) (b : List Int), W[p]? = some b → d.safe[p]? = some (b, false)
  wr : ∀ x ∈ d.wr, W.length ≤ x.1
theorem Sf.far {W : List (List Int)} {d : Dk} (h : Sf W d) {p : Nat} {b : List Int} (hp : W[p]? = some b) : ∀ x ∈ d.wr, p ≠ x.1 := fun x hx => by
  have := h.wr x hx
  have := (List.getElem?_eq_some_iff.1 hp).1
  omega
theorem Sf.crash {W : List (List Int)} {d : Dk} (h : Sf W d) (ks : List Bool) (t : Int) : Sf W (d.crash ks t) :=
  ⟨fun p b hp => (crs_far (h.far hp) _).trans (h.safe p b hp), fun p b hp => (crs_far (h.far hp) _).trans (h.safe p b hp), fun x hx => by cases hx⟩
theorem Sf.sync {W : List (List Int)} {d : Dk} (h : Sf W d) (m : Nat) : Sf W { d with safe := syn d.wr d.now d.safe d.wr.length, wr := [], left := m } :=
  ⟨h.now, fun p b hp => (syn_far (h.far hp) _).trans (h.safe p b hp), fun x hx => by cases hx⟩
theorem Sf.wrote {W : List (List Int)} {d : Dk} (h : Sf W d) {i : Nat} (hi : W.length ≤ i) (bs : List Int) : Sf W { d with wr := d.wr ++ [(i, bs)] } :=
  ⟨h.now, h.safe, fun x hx => by
    rcases List.mem_append.1 hx with hx | hx
    · exact h.wr x hx
    · rw [List.mem_singleton.1 hx]; exact hi⟩
theorem Sf.put {W : List (List Int)} {d : Dk} (h : Sf W d) {i : Nat} (hi : W.length ≤ i) (bs : List Int) (m : Nat) : Sf W { d with wr := d.wr ++ [(i, bs)], left := m, now := d.now.set i (bs, false) } :=
  ⟨fun p b hp => by
    have := (List.getElem?_eq_some_iff.1 hp).1
    simp only
    rw [List.getElem?_set_ne (by omega)]
    exact h.now p b hp, h.safe, (h.wrote hi bs).wr⟩
def Stt (w0 w : World) (db : Nat) (W : List (List Int)) (R : List RowD) (m : Nat) : Prop := ∃ d vs vn vw vk, Dsk w0 w db 20 d vs vn vw vk R ∧ Sf W d ∧ Small d.left ∧ d.wr.length ≤ m
theorem Stt.below {w0 w : World} {db m : Nat} {W : List (List Int)} {R : List RowD} (h : Stt w0 w db W R m) : Below w0.heap.size w0 w := by
  obtain ⟨d, vs, vn, vw, vk, T, _⟩ := h
  exact T.fam.below
theorem Stt.step {w0 w w' : World} {db m : Nat} {W : List (List Int)} {R : List RowD} (h : Stt w0 w db W R m) (hB : Below w.heap.size w w') : Stt w0 w' db W R m := by
  obtain ⟨d, vs, vn, vw, vk, T, h1, h2, h3⟩ := h
  exact ⟨d, vs, vn, vw, vk, T.step hB, h1, h2, h3⟩
theorem Stt.more {w0 w : World} {db m m' : Nat} {W : List (List Int)} {R : List RowD} (h : Stt w0 w db W R m) (hm : m ≤ m') : Stt w0 w db W R m' := by
  obtain ⟨d, vs, vn, vw, vk, T, h1, h2, h3⟩ := h
  exact ⟨d, vs, vn, vw, vk, T, h1, h2, by omega⟩
theorem Dsk.dbl {w0 w : World} {db n : Nat} {d : Dk} {vs vn vw vk : Value} {R : List RowD} (T : Dsk w0 w db n d vs vn vw vk R) : w0.heap.size ≤ db := (row_base T.h rfl).1
section
variable {w0 w : World} {db m : Nat} {W : List (List Int)} {R : List RowD}
theorem sync_any (h : Stt w0 w db W R m) : Calls Try.prog 15 #[.pointer (some ⟨db, 0, none⟩)] w fun e w' => ∃ z, e = .returned (.int .i64 z) ∧ Stt w0 w' db W R m := by
  obtain ⟨d, vs, vn, vw, vk, T, h1, h2, h3⟩ := h
  by_cases ho : d.off = true
  · refine (sync_off T ho).mono ?_
    rintro e w' ⟨rfl, rfl⟩
    exact ⟨_, rfl, d, vs, vn, vw, vk, T, h1, h2, h3⟩
  · have ho : d.off = false := by simpa using ho
    by_cases hl : d.left = 1
    · refine (sync_trip T ho hl).mono ?_
      rintro e w' ⟨rfl, vw', vk', T'⟩
      exact ⟨_, rfl, _, _, _, _, _, T', h1.crash _ _, by show (0 : Nat) < _; omega, Nat.zero_le _⟩
    · refine (sync_ok T ho hl h2).mono ?_
      rintro e w' ⟨rfl, T'⟩
      exact ⟨_, rfl, _, _, _, _, _, T', h1.sync _, by unfold Small at h2 ⊢; simp only; omega, Nat.zero_le _⟩
theorem crash_any (h : Stt w0 w db W R m) (t : Int) {v : Value} {ks : List Bool} (hv : RdV w0 v (ks.map Value.bool)) : Calls Try.prog 16 #[.pointer (some ⟨db, 0, none⟩), v, .int .i64 t] w fun e w' => e = .returned (.tuple #[]) ∧ Stt w0 w' db W R m := by
  obtain ⟨d, vs, vn, vw, vk, T, h1, h2, h3⟩ := h
  by_cases ho : d.off = true
  · refine (crash_off T ho t v).mono ?_
    rintro e w' ⟨rfl, rfl⟩
    exact ⟨rfl, d, vs, vn, vw, vk, T, h1, h2, h3⟩
  · have ho : d.off = false := by simpa using ho
    refine (crash_on T ho t (hv.below T.fam.below) (fun h0 k hk he => by
      have a1 := hv.lt h0 hk
      have a2 : vs.ownBlock = some k → w0.heap.size ≤ k := fun h => (row_base (T.fam.row 1 _ rfl) h).1
      have := a2 he
      omega)).mono ?_
    rintro e w' ⟨rfl, T'⟩
    exact ⟨rfl, _, _, _, _, _, T', h1.crash _ _, by show (0 : Nat) < _; omega, Nat.zero_le _⟩
theorem start_any (h : Stt w0 w db W R m) : Calls Try.prog 17 #[.pointer (some ⟨db, 0, none⟩)] w fun e w' => e = .returned (.tuple #[]) ∧ Stt w0 w' db W R m := by
  obtain ⟨d, vs, vn, vw, vk, T, h1, h2, h3⟩ := h
  refine (start_ok T).mono ?_
  rintro e w' ⟨rfl, T'⟩
  exact ⟨rfl, _, _, _, _, _, T', ⟨h1.now, h1.safe, h1.wr⟩, h2, h3⟩
theorem trip_any (h : Stt w0 w db W R m) (i t : Int) (hi : In64 i) {v : Value} {ks : List Bool} (hv : RdV w0 v (ks.map Value.bool)) (h4 : ks.length ≤ 1000) : Calls Try.prog 18 #[.pointer (some ⟨db, 0, none⟩), .int .i64 i, v, .int .i64 t] w fun e w' => e = .returned (.tuple #[]) ∧ Stt w0 w' db W R m := by
  obtain ⟨d, vs, vn, vw, vk, T, h1, h2, h3⟩ := h
  refine (trip_ok T i t (hv.below T.fam.below) (fun h0 k hk he => by have := hv.lt h0 hk; have := T.dbl; omega) h4).mono ?_
  rintro e w' ⟨rfl, vk', T'⟩
  exact ⟨rfl, _, _, _, _, _, T', ⟨h1.now, h1.safe, h1.wr⟩, by unfold Small In64 at *; simp only; omega, h3⟩
theorem read_any (h : Stt w0 w db W R m) (i : Int) : Calls Try.prog 19 #[.pointer (some ⟨db, 0, none⟩), .int .i64 i] w fun e w' => ∃ u z, e = .returned (.tuple #[u, .int .i64 z]) ∧ Stt w0 w' db W R m := by
  obtain ⟨d, vs, vn, vw, vk, T, h1, h2, h3⟩ := h
  by_cases ho : d.off = true
  · refine (read_off T i ho).mono ?_
    rintro e w' ⟨rfl, rfl⟩
    exact ⟨_, _, rfl, d, vs, vn, vw, vk, T, h1, h2, h3⟩
  · have ho : d.off = false := by simpa using ho
    by_cases hi : 0 ≤ i ∧ i < ((20 : Nat) : Int)
    · obtain ⟨k, rfl⟩ : ∃ k : Nat, i = k := ⟨i.toNat, by omega⟩
      obtain ⟨s, hs⟩ : ∃ s, d.now[k]? = some s := ⟨_, List.getElem?_eq_getElem (by rw [T.ok.ln]; omega)⟩
      cases hb : s.2 with
      | true =>
        refine (read_torn T k s hs ho hb).mono ?_
        rintro e w' ⟨rfl, rfl⟩
        exact ⟨_, _, rfl, d, vs, vn, vw, vk, T, h1, h2, h3⟩
      | false =>
        refine (read_ok T k s hs ho hb).mono ?_
        rintro e w' ⟨v, rfl, T', _⟩
        exact ⟨_, _, rfl, d, vs, vn, vw, vk, T'.init, h1, h2, h3⟩
    · refine (read_out T i ho hi).mono ?_
      rintro e w' ⟨rfl, rfl⟩
      exact ⟨_, _, rfl, d, vs, vn, vw, vk, T, h1, h2, h3⟩
theorem write_any (h : Stt w0 w db W R m) (i : Nat) (hi : i < 20) (hW : W.length ≤ i) {v : Value} {bs : List Int} (hb : RdV w v (bs.map (Value.int .u8))) (h64 : bs.length = 64) (hm : m ≤ 100000) : Calls Try.prog 14 #[.pointer (some ⟨db, 0, none⟩), .int .i64 (i : Int), v] w fun e w' => ∃ z, e = .returned (.int .i64 z) ∧ Stt w0 w' db W R (m + 1) := by
  obtain ⟨d, vs, vn, vw, vk, T, h1, h2, h3⟩ := h
  by_cases ho : d.off = true
  · refine (write_off T ho i v).mono ?_
    rintro e w' ⟨rfl, rfl⟩
    exact ⟨_, rfl, d, vs, vn, vw, vk, T, h1, h2, by omega⟩
  · have ho : d.off = false := by simpa using ho
    by_cases hl : d.left = 1
    · refine (write_trip T ho hl i hi hb h64 (by omega)).mono ?_
      rintro e w' ⟨rfl, vw', vk', T'⟩
      exact ⟨_, rfl, _, _, _, _, _, T', (h1.wrote hW bs).crash _ _, by show (0 : Nat) < _; omega, Nat.zero_le _⟩
    · refine (write_ok T ho hl h2 i hi hb h64 (by omega)).mono ?_
      rintro e w' ⟨rfl, vw', vk', T'⟩
      exact ⟨_, rfl, _, _, _, _, _, T', h1.put hW bs _, by unfold Small at h2 ⊢; simp only; omega, by simp; omega⟩
end
end Go.Proofs.Ytgcndphocpedjaa
