/-
  STORE: Open, State. Own work.
-/
import Derived.Test.YtafpfiadapabaaaDoorSTh
namespace Go.Proofs.YtafpfiadapabaaaDoor
open Go.ChangeShapes Go.WideShapes Go.ChangeAt Go.RowKit Go.Maps Go.Deep
set_option maxRecDepth 100000
attribute [local go_sem ↓] Go.wp_at_zero Go.wp_at_succ
def stRow (sb db : Nat) (v : Value) : RowD := ⟨64, 2, .slice (some ⟨sb, 0, none⟩) 1 1, 1, [.pointer (some ⟨db, 0, none⟩), v], none⟩
section
variable {w0 w w' : World} {db n : Nat} {d : Dk} {vs vn vw vk : Value} {R : List RowD}
set_option maxHeartbeats 4000000 in
theorem open_off (T : Dsk w0 w db n d vs vn vw vk R) (hoff : d.off = true) : Calls Tryd.prog 10 #[.pointer (some ⟨db, 0, none⟩)] w fun e w' => e = .returned (.tuple #[.pointer none, .int .i64 9]) ∧ w' = w := by
  go_enter Tryd.func10, Tryd.ntmps10
  go_wp2_with (go_at_call 18; refine (off_ok T).mono ?_; rintro ev w1 ⟨rfl, rfl⟩; rw [hoff])
  refine bodyPost_ret (v := .tuple #[.pointer none, .int .i64 9]) (by simp [results, Tryd.results10, go_sem]) rfl ?_
  exact ⟨rfl, rfl⟩
set_option maxHeartbeats 4000000 in
theorem open_small (T : Dsk w0 w db n d vs vn vw vk R) (hoff : d.off = false) (hn : n < 300) : Calls Tryd.prog 10 #[.pointer (some ⟨db, 0, none⟩)] w fun e w' => e = .returned (.tuple #[.pointer none, .int .i64 7]) ∧ w' = w := by
  have hnI : (n : Int) < 300 := by omega
  go_enter Tryd.func10, Tryd.ntmps10
  go_wp2_with (first
    | (go_at_call 18; refine (off_ok T).mono ?_; rintro ev w1 ⟨rfl, rfl⟩; rw [hoff])
    | (go_at_call 22; refine (sectors_ok T).mono ?_; rintro ev w1 ⟨rfl, rfl⟩))
  refine bodyPost_ret (v := .tuple #[.pointer none, .int .i64 7]) (by simp [results, Tryd.results10, go_sem]) rfl ?_
  exact ⟨rfl, rfl⟩
set_option maxHeartbeats 4000000 in
theorem open_ok (T : Dsk w0 w db n d vs vn vw vk R) (hn : 300 ≤ n) {S : List Int} {h0 h1 : Hds} {a c : Nat} (H : Held d.now S h0 h1 a c) (hoff : d.off = false) : Calls Tryd.prog 10 #[.pointer (some ⟨db, 0, none⟩)] w fun e w' => ∃ sb v, e = .returned (.tuple #[.pointer (some ⟨sb, 0, none⟩), .int .i64 0]) ∧ Below w.heap.size w w' ∧ Dsk w0 w' db n d vs vn vw vk (R ++ [byteRow v S, stRow sb db v]) := by
  have hnI : ¬ (n : Int) < 300 := by omega
  go_enter Tryd.func10, Tryd.ntmps10
  go_wp2_with (first
    | (go_at_call 18; refine (off_ok T).mono ?_; rintro ev w1 ⟨rfl, rfl⟩; rw [hoff])
    | (go_at_call 22; refine (sectors_ok T).mono ?_; rintro ev w1 ⟨rfl, rfl⟩)
    | (go_at_call 23; refine (load_ok T H hoff).mono ?_; rintro ev w4 ⟨v4, rfl, B4, hr4⟩; obtain ⟨p4, c4, rfl⟩ := row_slice hr4))
  refine bodyPost_ret (v := .tuple #[.pointer (some ⟨w4.heap.size, 0, none⟩), .int .i64 0]) (by simp [results, Tryd.results10, go_sem]) rfl ?_
  have F1 := T.fam.add (r := byteRow (.slice p4 S.length c4) S) B4 hr4
  have F2 := F1.add (r := stRow w4.heap.size db (.slice p4 S.length c4)) ((Below.refl _ w4).alloc (Nat.le_refl _) (.cells #[.pointer (some ⟨db, 0, none⟩), .slice p4 S.length c4] 64)) (World.ownsRow_lit (base := w4.heap.size) (e := 64) (size := 2) w4 #[.pointer (some ⟨db, 0, none⟩), .slice p4 S.length c4] 1 (Nat.le_refl _) (by decide) rfl)
  rw [List.append_assoc, List.append_assoc] at F2
  exact ⟨_, _, rfl, B4.trans (((Below.refl _ w4).alloc (Nat.le_refl _) _).mono B4.size), F2, T.ok⟩
set_option maxHeartbeats 4000000 in
theorem state_ok (T : Dsk w0 w db n d vs vn vw vk R) {S : List Int} {sb : Nat} {v : Value} (hs : stRow sb db v ∈ R) (hb : byteRow v S ∈ R) (hS : S.length ≤ 8000) : Calls Tryd.prog 17 #[.pointer (some ⟨sb, 0, none⟩)] w fun e w' => ∃ u, e = .returned u ∧ Below w.heap.size w w' ∧ w'.ownsRow w.heap.size 5 1 u S.length (S.map (Value.int .u8)) := by
  obtain ⟨k1, h1⟩ := List.getElem?_of_mem hs
  obtain ⟨k2, h2⟩ := List.getElem?_of_mem hb
  have r1 : w.ownsRow w0.heap.size 64 2 (.slice (some ⟨sb, 0, none⟩) 1 1) 1 [.pointer (some ⟨db, 0, none⟩), v] := T.fam.row (5 + k1) (stRow sb db v) (by rw [List.getElem?_append_right (by simp [Dk.rows])]; simpa [Dk.rows] using h1)
  have r2 : w.ownsRow w0.heap.size 5 1 v S.length (S.map (Value.int .u8)) := T.fam.row (5 + k2) (byteRow v S) (by rw [List.getElem?_append_right (by simp [Dk.rows])]; simpa [Dk.rows] using h2)
  have c1 : w.cell? ⟨sb, 1, none⟩ = some v := World.ownsRow.cellAt r1 1 (by omega)
  have RV := rdv_row r2
  obtain ⟨p, c, rfl⟩ := row_slice r2
  go_enter Tryd.func17, Tryd.ntmps17
  go_wp2_with (go_at_call 27; refine (cloneB_ok RV (by simp; omega) (one_map _ (fun _ => rfl) _)).mono ?_; rintro ev w4 ⟨v4, rfl, hr4, hB4⟩)
  go_ret
  exact ⟨v4, rfl, hB4, by simpa using hr4⟩
end
end Go.Proofs.YtafpfiadapabaaaDoor
