/-
  THE PAGE's DISK: what a store leaves; Read, Crash. Own work.
-/
import Derived.Test.YtgcndphocpedjaaDKq
namespace Go.Proofs.Ytgcndphocpedjaa
open Go.ChangeShapes Go.WideShapes Go.ChangeAt Go.RowKit Go.Maps Go.Deep
set_option maxRecDepth 100000
attribute [local go_sem ↓] Go.wp_at_zero Go.wp_at_succ
theorem lst_two (b : List Wri) (i : Nat) : ∀ (a : List Wri) (y : Sec), lst (a ++ b) i y = lst b i (lst a i y)
  | [], y => rfl
  | x :: a, y => by rw [List.cons_append, lst, lst, lst_two b i a]
theorem lst_hit {l : List Wri} {k i : Nat} {x : Wri} (hx : l[k]? = some x) (hi : x.1 = i) (hno : ∀ m z, k < m → l[m]? = some z → z.1 ≠ i) (y : Sec) : lst l i y = (x.2, false) := by
  have hk := (List.getElem?_eq_some_iff.1 hx).1
  have e : l = l.take k ++ (x :: l.drop (k + 1)) := by
    conv => lhs; rw [← List.take_append_drop k l]
    congr 1
    rw [List.drop_eq_getElem_cons hk]
    congr 1
    rw [List.getElem?_eq_getElem hk] at hx
    exact Option.some.inj hx
  rw [e, lst_two, lst, if_pos hi, lst_none]
  intro z hz
  obtain ⟨m, hm, rfl⟩ := List.getElem_of_mem hz
  rw [List.length_drop] at hm
  exact hno (k + 1 + m) _ (by omega) (by rw [List.getElem_drop]; exact List.getElem?_eq_getElem (by omega))
section
variable {w0 w w' : World} {pb n : Nat} {d : Dk} {A : PA} {Q Mb : List RowD}
theorem Pg.setT (T : Pg w0 w pb n d A Q Mb) {g c : Nat} (hut : A.ut = .slice (some ⟨g, 0, none⟩) n c) (i : Nat) (y : Sec) (hy : d.safe[i]? = some y) (b : Bool) : Pg w0 (w.setCell ⟨g, i, none⟩ (.bool b)) pb n { d with safe := d.safe.set i (y.1, b) } A Q Mb := by
  have h : w.ownsRow w0.heap.size 4 1 A.ut (d.safe.map (·.2)).length ((d.safe.map (·.2)).map Value.bool) := T.fam.row 2 _ rfl
  rw [List.length_map, T.ok.ls] at h
  have h2 := h
  rw [hut] at h2
  obtain ⟨hr, hg⟩ := World.ownsRow.stored h2 i (.bool b)
  have e : ((d.safe.map (·.2)).map Value.bool).set i (.bool b) = ((d.safe.set i (y.1, b)).map (·.2)).map Value.bool := by rw [List.map_set, List.map_set]
  rw [e] at hr
  have h64 := T.ok.s64 y (List.mem_of_getElem? hy)
  refine ⟨T.fam.put 2 rfl (r' := boolRow A.ut ((d.safe.set i (y.1, b)).map (·.2))) (by show w.grownBy _ A.ut.ownBlock; rw [hut]; exact hg) (by
    show World.ownsRow _ _ _ 1 A.ut ((d.safe.set i (y.1, b)).map (·.2)).length _
    rw [List.length_map, List.length_set, T.ok.ls, hut]; exact hr) (fun k hk => .inl hk), ⟨T.ok.pos, T.ok.le, by simp [T.ok.ls], T.ok.ln, set_len T.ok.s64 i _ h64, T.ok.n64, T.ok.w64⟩, by simp [T.ls], fun j z hz => ?_, T.lw, T.w, T.sub⟩
  simp only at hz
  by_cases e : i = j
  · subst e
    rw [List.getElem?_set_self (List.getElem?_eq_some_iff.1 hy).1] at hz
    cases hz
    exact T.s i y hy
  · rw [List.getElem?_set_ne e] at hz
    exact T.s j z hz
/-- Bytes put in a sector's place, not yet whether it is torn. -/
theorem Pg.setS (T : Pg w0 w pb n d A Q Mb) {g c : Nat} (hus : A.us = .slice (some ⟨g, 0, none⟩) n c) (i : Nat) (y : Sec) (hy : d.safe[i]? = some y) (v : Value) (bs : List Int) (h64 : bs.length = 64) (hq : byteRow v bs ∈ Mb) : Pg w0 (w.setCell ⟨g, i, none⟩ v) pb n { d with safe := d.safe.set i (bs, y.2) } { A with sl := A.sl.set i v } Q Mb := by
  have h : w.ownsRow w0.heap.size 32 1 A.us A.sl.length A.sl := T.fam.row 1 _ rfl
  rw [T.ls, T.ok.ls] at h
  have h2 := h
  rw [hus] at h2
  obtain ⟨hr, hg⟩ := World.ownsRow.stored h2 i v
  have e : (d.safe.set i (bs, y.2)).map (·.2) = d.safe.map (·.2) := by
    rw [List.map_set]
    apply List.ext_getElem?
    intro k
    by_cases e : i = k
    · subst e
      rw [List.getElem?_set_self (by rw [List.length_map]; exact (List.getElem?_eq_some_iff.1 hy).1), List.getElem?_map, hy]
      rfl
    · rw [List.getElem?_set_ne e]
  have F := T.fam.put 1 rfl (r' := ⟨32, 1, A.us, (A.sl.set i v).length, A.sl.set i v⟩) (by show w.grownBy _ A.us.ownBlock; rw [hus]; exact hg) (by
    show World.ownsRow _ _ _ 1 A.us (A.sl.set i v).length _
    rw [List.length_set, T.ls, T.ok.ls, hus]; exact hr) (fun k hk => .inl hk)
  refine ⟨?_, ⟨T.ok.pos, T.ok.le, by simp [T.ok.ls], T.ok.ln, set_len T.ok.s64 i _ h64, T.ok.n64, T.ok.w64⟩, by simp [T.ls], fun j z hz => ?_, T.lw, T.w, T.sub⟩
  · have e2 : PA.rows { A with sl := A.sl.set i v } pb { d with safe := d.safe.set i (bs, y.2) } = (A.rows pb d).set 1 ⟨32, 1, A.us, (A.sl.set i v).length, A.sl.set i v⟩ := by
      simp only [PA.rows, e]
      rfl
    rw [e2]
    exact F
  · simp only at hz ⊢
    by_cases e : i = j
    · subst e
      rw [List.getElem?_set_self (List.getElem?_eq_some_iff.1 hy).1] at hz
      cases hz
      exact ⟨v, by rw [List.getElem?_set_self (by rw [T.ls]; exact (List.getElem?_eq_some_iff.1 hy).1)], hq⟩
    · rw [List.getElem?_set_ne e] at hz ⊢
      exact T.s j z hz
/-- The header's cells written, from the third on. -/
theorem Pg.crashed (T : Pg w0 w pb n d A Q Mb) : Pg w0 ((((w.setCell ⟨pb, 2, none⟩ (.slice none 0 0)).setCell ⟨pb, 3, none⟩ (.bool true)).setCell ⟨pb, 4, none⟩ (.int .i64 0)).setCell ⟨pb, 5, none⟩ (.slice none 0 0)) pb n { d with wr := [], off := true, left := 0 } { A with uw := .slice none 0 0, uk := .slice none 0 0, wl := [], pk := [] } Q Mb := by
  have g0 : w.grownBy w A.uw.ownBlock := ⟨rfl, rfl, rfl, Nat.le_refl _, fun _ _ _ => rfl⟩
  have g1 : w.grownBy w A.uk.ownBlock := ⟨rfl, rfl, rfl, Nat.le_refl _, fun _ _ _ => rfl⟩
  have F1 := T.fam.put 3 rfl (r' := ⟨72, 2, .slice none 0 0, 0, []⟩) g0 (World.ownsRow_nil _ _ _ _) (fun k hk => by simp [Value.ownBlock] at hk)
  have F2 := F1.put 4 rfl (r' := boolRow (.slice none 0 0) []) g1 (World.ownsRow_nil _ _ _ _) (fun k hk => by simp [boolRow, Value.ownBlock] at hk)
  obtain ⟨r1, h1⟩ := World.ownsRow.stored T.h 2 (.slice none 0 0)
  obtain ⟨r2, h2⟩ := World.ownsRow.stored r1 3 (.bool true)
  obtain ⟨r3, h3⟩ := World.ownsRow.stored r2 4 (.int .i64 0)
  obtain ⟨r4, h4⟩ := World.ownsRow.stored r3 5 (.slice none 0 0)
  have F3 := F2.put 0 rfl (r' := ⟨60, 7, .slice (some ⟨pb, 0, none⟩) 1 1, 1, _⟩) h1 r1 (fun k hk => .inl hk)
  have F4 := F3.put 0 rfl (r' := ⟨60, 7, .slice (some ⟨pb, 0, none⟩) 1 1, 1, _⟩) h2 r2 (fun k hk => .inl hk)
  have F5 := F4.put 0 rfl (r' := ⟨60, 7, .slice (some ⟨pb, 0, none⟩) 1 1, 1, _⟩) h3 r3 (fun k hk => .inl hk)
  have F6 := F5.put 0 rfl (r' := ⟨60, 7, .slice (some ⟨pb, 0, none⟩) 1 1, 1, _⟩) h4 r4 (fun k hk => .inl hk)
  exact ⟨F6, ⟨T.ok.pos, T.ok.le, T.ok.ls, T.ok.ln, T.ok.s64, T.ok.n64, fun x hx => by cases hx⟩, T.ls, T.s, rfl, fun k x hx => by simp at hx, T.sub⟩
theorem Pg.down (T : Pg w0 w pb n d A Q Mb) (b : Bool) : Pg w0 (w.setCell ⟨pb, 3, none⟩ (.bool b)) pb n { d with off := b } A Q Mb := by
  obtain ⟨r1, h1⟩ := World.ownsRow.stored T.h 3 (.bool b)
  exact ⟨T.fam.put 0 rfl (r' := ⟨60, 7, .slice (some ⟨pb, 0, none⟩) 1 1, 1, _⟩) h1 r1 (fun k hk => .inl hk), ⟨T.ok.pos, T.ok.le, T.ok.ls, T.ok.ln, T.ok.s64, T.ok.n64, T.ok.w64⟩, T.ls, T.s, T.lw, T.w, T.sub⟩
theorem Pg.armed (T : Pg w0 w pb n d A Q Mb) (m : Nat) : Pg w0 (w.setCell ⟨pb, 4, none⟩ (.int .i64 (m : Int))) pb n { d with left := m } A Q Mb := by
  obtain ⟨r1, h1⟩ := World.ownsRow.stored T.h 4 (.int .i64 (m : Int))
  exact ⟨T.fam.put 0 rfl (r' := ⟨60, 7, .slice (some ⟨pb, 0, none⟩) 1 1, 1, _⟩) h1 r1 (fun k hk => .inl hk), ⟨T.ok.pos, T.ok.le, T.ok.ls, T.ok.ln, T.ok.s64, T.ok.n64, T.ok.w64⟩, T.ls, T.s, T.lw, T.w, T.sub⟩
theorem Pg.noW (T : Pg w0 w pb n d A Q Mb) : Pg w0 (w.setCell ⟨pb, 2, none⟩ (.slice none 0 0)) pb n { d with wr := [] } { A with uw := .slice none 0 0, wl := [] } Q Mb := by
  have g0 : w.grownBy w A.uw.ownBlock := ⟨rfl, rfl, rfl, Nat.le_refl _, fun _ _ _ => rfl⟩
  have F1 := T.fam.put 3 rfl (r' := ⟨72, 2, .slice none 0 0, 0, []⟩) g0 (World.ownsRow_nil _ _ _ _) (fun k hk => by simp [Value.ownBlock] at hk)
  obtain ⟨r1, h1⟩ := World.ownsRow.stored T.h 2 (.slice none 0 0)
  have F3 := F1.put 0 rfl (r' := ⟨60, 7, .slice (some ⟨pb, 0, none⟩) 1 1, 1, _⟩) h1 r1 (fun k hk => .inl hk)
  exact ⟨F3, ⟨T.ok.pos, T.ok.le, T.ok.ls, T.ok.ln, T.ok.s64, T.ok.n64, fun x hx => by cases hx⟩, T.ls, T.s, rfl, fun k x hx => by simp at hx, T.sub⟩
theorem pread_off (T : Pg w0 w pb n d A Q Mb) (i : Int) (hoff : d.off = true) : Calls Try.prog 27 #[.pointer (some ⟨pb, 0, none⟩), .int .i64 i] w fun e w' => e = .returned (.tuple #[.slice none 0 0, .int .i64 9]) ∧ w' = w := by
  have c3 := T.c3
  rw [hoff] at c3
  go_enter Try.func27, Try.ntmps27
  go_wp2
  refine bodyPost_ret (v := .tuple #[.slice none 0 0, .int .i64 9]) (by simp [results, Try.results27, go_sem]) rfl ?_
  exact ⟨rfl, rfl⟩
theorem pread_out (T : Pg w0 w pb n d A Q Mb) (i : Int) (hoff : d.off = false) (hi : ¬ (0 ≤ i ∧ i < n)) : Calls Try.prog 27 #[.pointer (some ⟨pb, 0, none⟩), .int .i64 i] w fun e w' => e = .returned (.tuple #[.slice none 0 0, .int .i64 1]) ∧ w' = w := by
  have c3 := T.c3
  rw [hoff] at c3
  have c0 := T.c0
  obtain ⟨gs, cs, e1, _⟩ := T.rs
  rw [e1] at c0
  by_cases h0 : i < 0
  · go_enter Try.func27, Try.ntmps27
    go_wp2
    refine bodyPost_ret (v := .tuple #[.slice none 0 0, .int .i64 1]) (by simp [results, Try.results27, go_sem]) rfl ?_
    exact ⟨rfl, rfl⟩
  · have h1 : (n : Int) ≤ i := by omega
    go_enter Try.func27, Try.ntmps27
    go_wp2
    refine bodyPost_ret (v := .tuple #[.slice none 0 0, .int .i64 1]) (by simp [results, Try.results27, go_sem]) rfl ?_
    exact ⟨rfl, rfl⟩
structure RdPost (w : World) (y : Sec) (Mb : List RowD) (e : Ending) (w' : World) : Prop where
  same : w' = w
  no : y.2 = false → ∃ v, e = .returned (.tuple #[v, .int .i64 0]) ∧ byteRow v y.1 ∈ Mb
  yes : y.2 = true → e = .returned (.tuple #[.slice none 0 0, .int .i64 10])
set_option maxHeartbeats 4000000 in
theorem pread_in (T : Pg w0 w pb n d A Q Mb) (i : Nat) (hoff : d.off = false) (hi : i < n) (hlen : d.wr.length ≤ 100000) (y : Sec) (hy : d.safe[i]? = some y) : Calls Try.prog 27 #[.pointer (some ⟨pb, 0, none⟩), .int .i64 (i : Int)] w (RdPost w (lst d.wr i y) Mb) := by
  have c3 := T.c3
  rw [hoff] at c3
  have c0 := T.c0
  have c1 := T.c1
  have c2 := T.c2
  obtain ⟨gs, cs, e1, rs⟩ := T.rs
  rw [e1] at c0
  obtain ⟨gt, ct, e2, rt⟩ := T.rt
  rw [e2] at c1
  obtain ⟨pw, cw, e3⟩ := row_slice T.rw
  rw [e3] at c2
  obtain ⟨v, hv, hq⟩ := T.s i y hy
  have x1 : w.cell? ⟨gs, i, none⟩ = some v := by rw [World.ownsRow.cellAt rs i (by omega), hv]
  have x2 : w.cell? ⟨gt, i, none⟩ = some (.bool y.2) := by rw [World.ownsRow.cellAt rt i (by omega), List.getElem?_map, List.getElem?_map, hy]; rfl
  have hiI : (i : Int) < n := by omega
  have HQ := (show Hid _ from hq)
  clear hq rs rt e1 e2 hv
  go_enter Try.func27, Try.ntmps27
  go_wp2
  go_loopw [6] (fun k wq => wq = w ∧ ∃ m : Nat, k = .int .i64 ((m : Int) - 1) ∧ m ≤ d.wr.length ∧ Hid (∀ q z, m ≤ q → d.wr[q]? = some z → z.1 ≠ i)) (fun k _ => (intOf k + 1).toNat)
  case atStart => exact ⟨rfl, d.wr.length, rfl, by omega, fun q z hq hz => by rw [List.getElem?_eq_none hq] at hz; cases hz⟩
  case round =>
    obtain ⟨rfl, m, rfl, hm, HN⟩ := hrel
    by_cases h0 : 0 < m
    · obtain ⟨k, rfl⟩ : ∃ k, m = k + 1 := ⟨m - 1, by omega⟩
      have hri : ((k + 1 : Nat) : Int) - 1 = (k : Int) := by omega
      rw [hri]
      clear hri
      obtain ⟨x, hx⟩ : ∃ x, d.wr[k]? = some x := ⟨_, List.getElem?_eq_getElem (by omega)⟩
      obtain ⟨g, c, u, e4, y1, y2, _, hqu⟩ := T.wcell hx
      rw [e3] at e4
      cases e4
      have hkI : (k : Int) < d.wr.length := by omega
      by_cases hxi : x.1 = i
      · have hl := lst_hit hx hxi (fun q z hq hz => HN.out q z (by omega) hz) y
        have HL := (show Hid _ from hl)
        have HU := (show Hid _ from hqu)
        clear hl hqu hx
        have hxI : (x.1 : Int) = i := by omega
        rw [hxI] at y1
        go_wp2
        refine bodyPost_ret (v := .tuple #[u, .int .i64 0]) (by simp [results, Try.results27, go_sem]) rfl ?_
        exact ⟨rfl, fun _ => ⟨u, rfl, by rw [HL.out]; exact HU.out⟩, fun h => by rw [HL.out] at h; cases h⟩
      · have hmore : Hid (∀ q z, k ≤ q → d.wr[q]? = some z → z.1 ≠ i) := fun q z hq hz => by
          by_cases e : q = k
          · subst e
            rw [hx] at hz
            cases hz
            exact hxi
          · exact HN.out q z (by omega) hz
        have hxI : ¬ (x.1 : Int) = i := by omega
        have hk0 : (0 : Int) ≤ k := by omega
        clear hqu hx
        go_wp2
        refine ⟨⟨trivial, k, by simp, by omega, hmore⟩, by simp [intOf]⟩
    · obtain rfl : m = 0 := by omega
      have hl : lst d.wr i y = y := lst_none (fun z hz => by
        obtain ⟨q, hq, rfl⟩ := List.getElem_of_mem hz
        exact HN.out q _ (Nat.zero_le _) (List.getElem?_eq_getElem hq)) y
      have HL := (show Hid _ from hl)
      have hri : ((0 : Nat) : Int) - 1 = -1 := rfl
      rw [hri]
      clear hl hri
      obtain ⟨ybs, yb⟩ := y
      cases yb with
      | false =>
        go_wp2
        refine bodyPost_ret (v := .tuple #[v, .int .i64 0]) (by simp [results, Try.results27, go_sem]) rfl ?_
        exact ⟨rfl, fun _ => ⟨v, rfl, by rw [HL.out]; exact HQ.out⟩, fun h => by rw [HL.out] at h; cases h⟩
      | true =>
        go_wp2
        refine bodyPost_ret (v := .tuple #[.slice none 0 0, .int .i64 10]) (by simp [results, Try.results27, go_sem]) rfl ?_
        exact ⟨rfl, fun h => (by rw [HL.out] at h; cases h), fun _ => rfl⟩
end
end Go.Proofs.Ytgcndphocpedjaa
