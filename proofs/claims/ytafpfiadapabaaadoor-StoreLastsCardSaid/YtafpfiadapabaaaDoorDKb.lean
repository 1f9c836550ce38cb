/-
  DISK: what it holds, in memory; New, has, Off, Start, Sectors. Own work.
-/
import Derived.Test.YtafpfiadapabaaaDoorDKa
namespace Go.Proofs.YtafpfiadapabaaaDoor
open Go.ChangeShapes Go.WideShapes Go.ChangeAt Go.RowKit Go.Maps
set_option maxRecDepth 100000
attribute [local go_sem ↓] Go.wp_at_zero Go.wp_at_succ
abbrev Sec := List Int × Bool
def sv (s : Sec) : List Value := s.1.map (Value.int .u8) ++ [.bool s.2]
abbrev Wri := Nat × List Int
def wv (x : Wri) : List Value := .int .i64 (x.1 : Int) :: x.2.map (Value.int .u8)
structure Dk where
  safe : List Sec
  now : List Sec
  wr : List Wri
  off : Bool
  left : Nat
  keep : List Bool
  torn : Int
structure Dk.Ok (n : Nat) (d : Dk) : Prop where
  pos : 0 < n
  le : n ≤ 512
  ls : d.safe.length = n
  ln : d.now.length = n
  s64 : ∀ s ∈ d.safe, s.1.length = 64
  n64 : ∀ s ∈ d.now, s.1.length = 64
  w64 : ∀ x ∈ d.wr, x.1 < n ∧ x.2.length = 64
def Dk.hdr (d : Dk) (db : Nat) (vs vn vw vk : Value) : RowD := ⟨56, 7, .slice (some ⟨db, 0, none⟩) 1 1, 1, [vs, vn, vw, .bool d.off, .int .i64 (d.left : Int), vk, .int .i64 d.torn], none⟩
def secRow (v : Value) (l : List Sec) : RowD := ⟨71, 65, v, l.length, l.flatMap sv, none⟩
def wriRow (v : Value) (l : List Wri) : RowD := ⟨69, 65, v, l.length, l.flatMap wv, none⟩
def boolRow (v : Value) (l : List Bool) : RowD := ⟨4, 1, v, l.length, l.map Value.bool, none⟩
def byteRow (v : Value) (l : List Int) : RowD := ⟨5, 1, v, l.length, l.map (Value.int .u8), none⟩
def Dk.rows (d : Dk) (db : Nat) (vs vn vw vk : Value) : List RowD := [d.hdr db vs vn vw vk, secRow vs d.safe, secRow vn d.now, wriRow vw d.wr, boolRow vk d.keep]
structure Dsk (w0 w : World) (db n : Nat) (d : Dk) (vs vn vw vk : Value) (R : List RowD) : Prop where
  fam : Fam w0 w (d.rows db vs vn vw vk ++ R)
  ok : d.Ok n
def Dsx (w0 w : World) (db n : Nat) (d : Dk) (R : List RowD) : Prop := ∃ vs vn vw vk, Dsk w0 w db n d vs vn vw vk R
theorem sv_len {l : List Sec} (h : ∀ s ∈ l, s.1.length = 64) : ∀ s ∈ l, (sv s).length = 65 := fun s hs => by simp [sv, h s hs]
theorem wv_len {n : Nat} {l : List Wri} (h : ∀ x ∈ l, x.1 < n ∧ x.2.length = 64) : ∀ s ∈ l, (wv s).length = 65 := fun s hs => by simp [wv, (h s hs).2]
section
variable {w0 w w' : World} {db n : Nat} {d : Dk} {vs vn vw vk : Value} {R : List RowD}
theorem Dsk.step (T : Dsk w0 w db n d vs vn vw vk R) (hB : Below w.heap.size w w') : Dsk w0 w' db n d vs vn vw vk R := ⟨T.fam.step hB, T.ok⟩
theorem Dsk.h (T : Dsk w0 w db n d vs vn vw vk R) : w.ownsRow w0.heap.size 56 7 (.slice (some ⟨db, 0, none⟩) 1 1) 1 [vs, vn, vw, .bool d.off, .int .i64 (d.left : Int), vk, .int .i64 d.torn] := T.fam.row 0 _ rfl
theorem Dsk.c (T : Dsk w0 w db n d vs vn vw vk R) (j : Nat) (hj : j < 7) : w.cell? ⟨db, j, none⟩ = [vs, vn, vw, .bool d.off, .int .i64 (d.left : Int), vk, .int .i64 d.torn][j]? := World.ownsRow.cellAt T.h j (by omega)
theorem Dsk.c0 (T : Dsk w0 w db n d vs vn vw vk R) : w.cell? ⟨db, 0, none⟩ = some vs := T.c 0 (by omega)
theorem Dsk.c1 (T : Dsk w0 w db n d vs vn vw vk R) : w.cell? ⟨db, 1, none⟩ = some vn := T.c 1 (by omega)
theorem Dsk.c2 (T : Dsk w0 w db n d vs vn vw vk R) : w.cell? ⟨db, 2, none⟩ = some vw := T.c 2 (by omega)
theorem Dsk.c3 (T : Dsk w0 w db n d vs vn vw vk R) : w.cell? ⟨db, 3, none⟩ = some (.bool d.off) := T.c 3 (by omega)
theorem Dsk.c4 (T : Dsk w0 w db n d vs vn vw vk R) : w.cell? ⟨db, 4, none⟩ = some (.int .i64 (d.left : Int)) := T.c 4 (by omega)
theorem Dsk.c5 (T : Dsk w0 w db n d vs vn vw vk R) : w.cell? ⟨db, 5, none⟩ = some vk := T.c 5 (by omega)
theorem Dsk.c6 (T : Dsk w0 w db n d vs vn vw vk R) : w.cell? ⟨db, 6, none⟩ = some (.int .i64 d.torn) := T.c 6 (by omega)
theorem Dsk.z (T : Dsk w0 w db n d vs vn vw vk R) (j : Nat) : w.frozen? ⟨db, j, none⟩ = false := World.ownsRow.frozenAt T.h j
theorem Dsk.rs (T : Dsk w0 w db n d vs vn vw vk R) : ∃ g c, vs = .slice (some ⟨g, 0, none⟩) n c ∧ w.ownsRow w0.heap.size 71 65 (.slice (some ⟨g, 0, none⟩) d.safe.length c) d.safe.length (d.safe.flatMap sv) := by
  have h : w.ownsRow w0.heap.size 71 65 vs d.safe.length (d.safe.flatMap sv) := T.fam.row 1 _ rfl
  obtain ⟨p, c, rfl⟩ := row_slice h
  obtain ⟨g, rfl, _⟩ := row_open h (by rw [T.ok.ls]; exact T.ok.pos)
  exact ⟨g, c, by rw [T.ok.ls], h⟩
theorem Dsk.rn (T : Dsk w0 w db n d vs vn vw vk R) : ∃ g c, vn = .slice (some ⟨g, 0, none⟩) n c ∧ w.ownsRow w0.heap.size 71 65 (.slice (some ⟨g, 0, none⟩) d.now.length c) d.now.length (d.now.flatMap sv) := by
  have h : w.ownsRow w0.heap.size 71 65 vn d.now.length (d.now.flatMap sv) := T.fam.row 2 _ rfl
  obtain ⟨p, c, rfl⟩ := row_slice h
  obtain ⟨g, rfl, _⟩ := row_open h (by rw [T.ok.ln]; exact T.ok.pos)
  exact ⟨g, c, by rw [T.ok.ln], h⟩
theorem Dsk.rw (T : Dsk w0 w db n d vs vn vw vk R) : w.ownsRow w0.heap.size 69 65 vw d.wr.length (d.wr.flatMap wv) := T.fam.row 3 _ rfl
theorem Dsk.rk (T : Dsk w0 w db n d vs vn vw vk R) : w.ownsRow w0.heap.size 4 1 vk d.keep.length (d.keep.map Value.bool) := T.fam.row 4 _ rfl
theorem Dsk.setOff (T : Dsk w0 w db n d vs vn vw vk R) (b : Bool) : Dsk w0 (w.setCell ⟨db, 3, none⟩ (.bool b)) db n { d with off := b } vs vn vw vk R := by
  obtain ⟨hr, hg⟩ := World.ownsRow.stored T.h 3 (.bool b)
  exact ⟨T.fam.put 0 rfl (r' := Dk.hdr { d with off := b } db vs vn vw vk) hg hr (fun k hk => .inl hk), ⟨T.ok.pos, T.ok.le, T.ok.ls, T.ok.ln, T.ok.s64, T.ok.n64, T.ok.w64⟩⟩
theorem Dsk.setLeft (T : Dsk w0 w db n d vs vn vw vk R) (m : Nat) : Dsk w0 (w.setCell ⟨db, 4, none⟩ (.int .i64 (m : Int))) db n { d with left := m } vs vn vw vk R := by
  obtain ⟨hr, hg⟩ := World.ownsRow.stored T.h 4 (.int .i64 (m : Int))
  exact ⟨T.fam.put 0 rfl (r' := Dk.hdr { d with left := m } db vs vn vw vk) hg hr (fun k hk => .inl hk), ⟨T.ok.pos, T.ok.le, T.ok.ls, T.ok.ln, T.ok.s64, T.ok.n64, T.ok.w64⟩⟩
theorem Dsk.setTorn (T : Dsk w0 w db n d vs vn vw vk R) (m : Int) : Dsk w0 (w.setCell ⟨db, 6, none⟩ (.int .i64 m)) db n { d with torn := m } vs vn vw vk R := by
  obtain ⟨hr, hg⟩ := World.ownsRow.stored T.h 6 (.int .i64 m)
  exact ⟨T.fam.put 0 rfl (r' := Dk.hdr { d with torn := m } db vs vn vw vk) hg hr (fun k hk => .inl hk), ⟨T.ok.pos, T.ok.le, T.ok.ls, T.ok.ln, T.ok.s64, T.ok.n64, T.ok.w64⟩⟩
/-- Another row of writes: grown, or none. -/
theorem Dsk.setW (T : Dsk w0 w db n d vs vn vw vk R) {v' : Value} {l : List Wri} (hg : w.grownBy w' vw.ownBlock) (hr : w'.ownsRow w0.heap.size 69 65 v' l.length (l.flatMap wv)) (hat : ∀ k, v'.ownBlock = some k → vw.ownBlock = some k ∨ w.heap.size ≤ k) (hl : ∀ x ∈ l, x.1 < n ∧ x.2.length = 64) : Dsk w0 (w'.setCell ⟨db, 2, none⟩ v') db n { d with wr := l } vs vn v' vk R := by
  have F1 := T.fam.put 3 rfl (r' := wriRow v' l) hg hr hat
  have h1 : w'.ownsRow w0.heap.size 56 7 (.slice (some ⟨db, 0, none⟩) 1 1) 1 [vs, vn, vw, .bool d.off, .int .i64 (d.left : Int), vk, .int .i64 d.torn] := F1.row 0 _ rfl
  obtain ⟨hr2, hg2⟩ := World.ownsRow.stored h1 2 v'
  exact ⟨F1.put 0 rfl (r' := Dk.hdr d db vs vn v' vk) hg2 hr2 (fun k hk => .inl hk), ⟨T.ok.pos, T.ok.le, T.ok.ls, T.ok.ln, T.ok.s64, T.ok.n64, hl⟩⟩
/-- Another row of what is to be kept, made meanwhile, or none. -/
theorem Dsk.setK (T : Dsk w0 w db n d vs vn vw vk R) {v' : Value} {l : List Bool} (hB : Below w.heap.size w w') (hr : w'.ownsRow w0.heap.size 4 1 v' l.length (l.map Value.bool)) (hat : ∀ k, v'.ownBlock = some k → w.heap.size ≤ k) : Dsk w0 (w'.setCell ⟨db, 5, none⟩ v') db n { d with keep := l } vs vn vw v' R := by
  have F1 := T.fam.put 4 rfl (r' := boolRow v' l) (w' := w') ⟨hB.os, hB.tape, hB.output, hB.size, fun k hk _ => hB.block k hk⟩ hr (fun k hk => .inr (hat k hk))
  have h1 : w'.ownsRow w0.heap.size 56 7 (.slice (some ⟨db, 0, none⟩) 1 1) 1 [vs, vn, vw, .bool d.off, .int .i64 (d.left : Int), vk, .int .i64 d.torn] := F1.row 0 _ rfl
  obtain ⟨hr2, hg2⟩ := World.ownsRow.stored h1 5 v'
  exact ⟨F1.put 0 rfl (r' := Dk.hdr d db vs vn vw v') hg2 hr2 (fun k hk => .inl hk), ⟨T.ok.pos, T.ok.le, T.ok.ls, T.ok.ln, T.ok.s64, T.ok.n64, T.ok.w64⟩⟩
/-- What is armed, and of what writes it keeps. -/
theorem Dsk.setTrip (T : Dsk w0 w db n d vs vn vw vk R) {v' : Value} {l : List Bool} (hB : Below w.heap.size w w') (hr : w'.ownsRow w0.heap.size 4 1 v' l.length (l.map Value.bool)) (hat : ∀ k, v'.ownBlock = some k → w.heap.size ≤ k) (m : Nat) (t : Int) : Dsk w0 (((w'.setCell ⟨db, 4, none⟩ (.int .i64 (m : Int))).setCell ⟨db, 5, none⟩ v').setCell ⟨db, 6, none⟩ (.int .i64 t)) db n { d with left := m, keep := l, torn := t } vs vn vw v' R := by
  have F1 := T.fam.put 4 rfl (r' := boolRow v' l) (w' := w') ⟨hB.os, hB.tape, hB.output, hB.size, fun k hk _ => hB.block k hk⟩ hr (fun k hk => .inr (hat k hk))
  have h1 : w'.ownsRow w0.heap.size 56 7 (.slice (some ⟨db, 0, none⟩) 1 1) 1 [vs, vn, vw, .bool d.off, .int .i64 (d.left : Int), vk, .int .i64 d.torn] := F1.row 0 _ rfl
  obtain ⟨hr2, hg2⟩ := World.ownsRow.stored h1 4 (.int .i64 (m : Int))
  have F2 := F1.put 0 rfl (r' := Dk.hdr { d with left := m } db vs vn vw vk) hg2 hr2 (fun k hk => .inl hk)
  obtain ⟨hr3, hg3⟩ := World.ownsRow.stored hr2 5 v'
  have F3 := F2.put 0 rfl (r' := Dk.hdr { d with left := m } db vs vn vw v') hg3 hr3 (fun k hk => .inl hk)
  obtain ⟨hr4, hg4⟩ := World.ownsRow.stored hr3 6 (.int .i64 t)
  have F4 := F3.put 0 rfl (r' := Dk.hdr { d with left := m, torn := t } db vs vn vw v') hg4 hr4 (fun k hk => .inl hk)
  exact ⟨F4, ⟨T.ok.pos, T.ok.le, T.ok.ls, T.ok.ln, T.ok.s64, T.ok.n64, T.ok.w64⟩⟩
/-- No writes any more. -/
theorem Dsk.clearW (T : Dsk w0 w db n d vs vn vw vk R) : Dsk w0 (w.setCell ⟨db, 2, none⟩ (.slice none 0 0)) db n { d with wr := [] } vs vn (.slice none 0 0) vk R :=
  T.setW (v' := .slice none 0 0) (l := []) ⟨rfl, rfl, rfl, Nat.le_refl _, fun _ _ _ => rfl⟩ (World.ownsRow_nil _ _ _ _) (fun k hk => by simp [Value.ownBlock] at hk) (fun x hx => by cases hx)
set_option maxHeartbeats 4000000 in
theorem has_ok (T : Dsk w0 w db n d vs vn vw vk R) (i : Int) : Calls Tryd.prog 39 #[.pointer (some ⟨db, 0, none⟩), .int .i64 i] w fun e w' => e = .returned (.bool (decide (0 ≤ i ∧ i < n))) ∧ w' = w := by
  have c1 := T.c1
  obtain ⟨g, c, rfl, _⟩ := T.rn
  by_cases h0 : 0 ≤ i
  · go_enter Tryd.func39, Tryd.ntmps39
    go_wp2
    go_ret
    simp [h0]
  · go_enter Tryd.func39, Tryd.ntmps39
    go_wp2
    go_ret
    simp
    omega
set_option maxHeartbeats 4000000 in
theorem off_ok (T : Dsk w0 w db n d vs vn vw vk R) : Calls Tryd.prog 18 #[.pointer (some ⟨db, 0, none⟩)] w fun e w' => e = .returned (.bool d.off) ∧ w' = w := by
  have c3 := T.c3
  go_enter Tryd.func18, Tryd.ntmps18
  go_wp2
  go_ret
  simp
set_option maxHeartbeats 4000000 in
theorem sectors_ok (T : Dsk w0 w db n d vs vn vw vk R) : Calls Tryd.prog 22 #[.pointer (some ⟨db, 0, none⟩)] w fun e w' => e = .returned (.int .i64 (n : Int)) ∧ w' = w := by
  have c1 := T.c1
  obtain ⟨g, c, rfl, _⟩ := T.rn
  go_enter Tryd.func22, Tryd.ntmps22
  go_wp2
  go_ret
  simp
set_option maxHeartbeats 4000000 in
theorem start_ok (T : Dsk w0 w db n d vs vn vw vk R) : Calls Tryd.prog 19 #[.pointer (some ⟨db, 0, none⟩)] w fun e w' => e = .returned (.tuple #[]) ∧ Dsk w0 w' db n { d with off := false } vs vn vw vk R := by
  have c3 := T.c3
  have z3 := T.z 3
  go_enter Tryd.func19, Tryd.ntmps19
  go_wp2
  go_end0
  exact ⟨rfl, T.setOff false⟩
end
end Go.Proofs.YtafpfiadapabaaaDoor
