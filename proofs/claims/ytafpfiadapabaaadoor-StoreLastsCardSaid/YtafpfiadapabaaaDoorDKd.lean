/-
  DISK: New. Own work.
-/
import Derived.Test.YtafpfiadapabaaaDoorDKc
namespace Go.Proofs.YtafpfiadapabaaaDoor
open Go.ChangeShapes Go.WideShapes Go.ChangeAt Go.RowKit Go.Maps
set_option maxRecDepth 100000
attribute [local go_sem ↓] Go.wp_at_zero Go.wp_at_succ
theorem Fam.reidx {w0 w : World} {rs rs' : List RowD} (T : Fam w0 w rs) (σ : Nat → Nat) (hi : ∀ i j, i < rs'.length → j < rs'.length → σ i = σ j → i = j) (h : ∀ (i : Nat) (r : RowD), rs'[i]? = some r → rs[σ i]? = some r) : Fam w0 w rs' :=
  ⟨T.below, fun i r hr => T.row (σ i) r (h i r hr), fun i j r s hr hs hij => T.apart (σ i) (σ j) r s (h i r hr) (h j s hs) (fun e => hij (hi i j (List.getElem?_eq_some_iff.1 hr).1 (List.getElem?_eq_some_iff.1 hs).1 e))⟩
def zsec : Sec := (List.replicate 64 0, false)
def zval : Value := .agg (sv zsec).toArray
theorem zval_cells : zval.cells = (sv zsec).toArray := rfl
theorem made_sec (n : Nat) : (madeCells zval.cells (n * 65)).toList = (List.replicate n zsec).flatMap sv := by
  have hall : ∀ s ∈ List.replicate n zsec, (sv s).length = 65 := fun s hs => by
    rw [List.eq_of_mem_replicate hs]; rfl
  apply List.ext_getElem?
  intro k
  by_cases hk : k < n * 65
  · have hdm := Nat.div_add_mod k 65
    have hml := Nat.mod_lt k (show 65 > 0 by decide)
    have hdl : k / 65 < n := Nat.div_lt_of_lt_mul (by omega)
    conv => rhs; rw [show k = k / 65 * 65 + k % 65 by omega]
    rw [flat_get hall (k / 65) (k % 65) zsec (by rw [List.getElem?_replicate, if_pos hdl]) hml]
    have hz : (sv zsec).length = 65 := rfl
    rw [zval_cells, List.getElem?_eq_getElem (show k % 65 < (sv zsec).length by omega)]
    simp [madeCells, hk, hz, hml]
  · rw [List.getElem?_eq_none (by simp [madeCells]; omega), List.getElem?_eq_none (by rw [flat_len hall]; simp; omega)]
def Dk.fresh (n : Nat) : Dk := ⟨List.replicate n zsec, List.replicate n zsec, [], false, 0, [], 0⟩
theorem fresh_ok {n : Nat} (h1 : 0 < n) (h2 : n ≤ 512) : (Dk.fresh n).Ok n := ⟨h1, h2, by simp [Dk.fresh], by simp [Dk.fresh], fun s hs => by rw [List.eq_of_mem_replicate hs]; rfl, fun s hs => by rw [List.eq_of_mem_replicate hs]; rfl, fun x hx => by cases hx⟩
theorem sec_info : (Tryd.prog.info? 71).map (fun i => (i.zero, i.size, i.bytes)) = some (some zval, 65, 65) := by kernel_rfl
theorem sec_made (w : World) (n : Nat) (h : n ≤ 512) : (w.alloc (.cells (madeCells zval.cells (n * 65)) 71)).ownsRow w.heap.size 71 65 (.slice (some ⟨w.heap.size, 0, none⟩) n n) (List.replicate n zsec).length ((List.replicate n zsec).flatMap sv) := by
  have h := World.ownsRow_lit (base := w.heap.size) (e := 71) (size := 65) w (madeCells zval.cells (n * 65)) n (Nat.le_refl _) (by unfold maxLen; omega) (by simp [madeCells])
  rw [made_sec] at h
  simpa using h
theorem disk_new (w : World) (n : Nat) (h1 : 0 < n) (h2 : n ≤ 512) (a b : Nat) (hab : a = w.heap.size ∧ b = w.heap.size + 1 ∨ b = w.heap.size ∧ a = w.heap.size + 1) : Dsk w (((w.alloc (.cells (madeCells zval.cells (n * 65)) 71)).alloc (.cells (madeCells zval.cells (n * 65)) 71)).alloc (.cells #[.slice (some ⟨a, 0, none⟩) n n, .slice (some ⟨b, 0, none⟩) n n, .slice none 0 0, .bool false, .int .i64 0, .slice none 0 0, .int .i64 0] 56)) (w.heap.size + 2) n (Dk.fresh n) (.slice (some ⟨a, 0, none⟩) n n) (.slice (some ⟨b, 0, none⟩) n n) (.slice none 0 0) (.slice none 0 0) [] := by
  have F1 := (Fam.start w).add (r := secRow (.slice (some ⟨w.heap.size, 0, none⟩) n n) (List.replicate n zsec)) ((Below.refl _ w).alloc (Nat.le_refl _) _) (sec_made w n h2)
  have F2 := F1.add (r := secRow (.slice (some ⟨w.heap.size + 1, 0, none⟩) n n) (List.replicate n zsec)) (w' := (w.alloc (.cells (madeCells zval.cells (n * 65)) 71)).alloc (.cells (madeCells zval.cells (n * 65)) 71)) ((Below.refl _ _).alloc (Nat.le_refl _) _) (by
    have h := sec_made (w.alloc (.cells (madeCells zval.cells (n * 65)) 71)) n h2
    rw [World.size_alloc] at h ⊢
    exact h)
  have F3 := F2.add (r := (Dk.fresh n).hdr (w.heap.size + 2) (.slice (some ⟨a, 0, none⟩) n n) (.slice (some ⟨b, 0, none⟩) n n) (.slice none 0 0) (.slice none 0 0)) (w' := ((w.alloc (.cells (madeCells zval.cells (n * 65)) 71)).alloc (.cells (madeCells zval.cells (n * 65)) 71)).alloc (.cells #[.slice (some ⟨a, 0, none⟩) n n, .slice (some ⟨b, 0, none⟩) n n, .slice none 0 0, .bool false, .int .i64 0, .slice none 0 0, .int .i64 0] 56)) ((Below.refl _ _).alloc (Nat.le_refl _) _) (by
    have h := World.ownsRow_lit (base := w.heap.size + 2) (e := 56) (size := 7) ((w.alloc (.cells (madeCells zval.cells (n * 65)) 71)).alloc (.cells (madeCells zval.cells (n * 65)) 71)) #[.slice (some ⟨a, 0, none⟩) n n, .slice (some ⟨b, 0, none⟩) n n, .slice none 0 0, .bool false, .int .i64 0, .slice none 0 0, .int .i64 0] 1 (by simp [World.size_alloc]) (by decide) rfl
    rw [World.size_alloc, World.size_alloc] at h ⊢
    exact h)
  have F4 := F3.add (r := wriRow (.slice none 0 0) []) (Below.refl _ _) (World.ownsRow_nil _ _ _ _)
  have F5 := F4.add (r := boolRow (.slice none 0 0) []) (Below.refl _ _) (World.ownsRow_nil _ _ _ _)
  refine ⟨?_, fresh_ok h1 h2⟩
  rcases hab with ⟨rfl, rfl⟩ | ⟨rfl, rfl⟩
  · refine F5.reidx (fun i => match i with | 0 => 2 | 1 => 0 | 2 => 1 | k => k) ?_ ?_
    · intro i j hi hj
      have hi' : i < 5 := hi
      have hj' : j < 5 := hj
      match i, j, hi', hj' with
      | 0, 0, _, _ => simp
      | 0, 1, _, _ => simp
      | 0, 2, _, _ => simp
      | 0, 3, _, _ => simp
      | 0, 4, _, _ => simp
      | 1, 0, _, _ => simp
      | 1, 1, _, _ => simp
      | 1, 2, _, _ => simp
      | 1, 3, _, _ => simp
      | 1, 4, _, _ => simp
      | 2, 0, _, _ => simp
      | 2, 1, _, _ => simp
      | 2, 2, _, _ => simp
      | 2, 3, _, _ => simp
      | 2, 4, _, _ => simp
      | 3, 0, _, _ => simp
      | 3, 1, _, _ => simp
      | 3, 2, _, _ => simp
      | 3, 3, _, _ => simp
      | 3, 4, _, _ => simp
      | 4, 0, _, _ => simp
      | 4, 1, _, _ => simp
      | 4, 2, _, _ => simp
      | 4, 3, _, _ => simp
      | 4, 4, _, _ => simp
    · intro i r hr
      match i, hr with
      | 0, hr => exact hr
      | 1, hr => exact hr
      | 2, hr => exact hr
      | 3, hr => exact hr
      | 4, hr => exact hr
      | k + 5, hr => exact absurd hr (by simp [Dk.rows])
  · refine F5.reidx (fun i => match i with | 0 => 2 | 1 => 1 | 2 => 0 | k => k) ?_ ?_
    · intro i j hi hj
      have hi' : i < 5 := hi
      have hj' : j < 5 := hj
      match i, j, hi', hj' with
      | 0, 0, _, _ => simp
      | 0, 1, _, _ => simp
      | 0, 2, _, _ => simp
      | 0, 3, _, _ => simp
      | 0, 4, _, _ => simp
      | 1, 0, _, _ => simp
      | 1, 1, _, _ => simp
      | 1, 2, _, _ => simp
      | 1, 3, _, _ => simp
      | 1, 4, _, _ => simp
      | 2, 0, _, _ => simp
      | 2, 1, _, _ => simp
      | 2, 2, _, _ => simp
      | 2, 3, _, _ => simp
      | 2, 4, _, _ => simp
      | 3, 0, _, _ => simp
      | 3, 1, _, _ => simp
      | 3, 2, _, _ => simp
      | 3, 3, _, _ => simp
      | 3, 4, _, _ => simp
      | 4, 0, _, _ => simp
      | 4, 1, _, _ => simp
      | 4, 2, _, _ => simp
      | 4, 3, _, _ => simp
      | 4, 4, _, _ => simp
    · intro i r hr
      match i, hr with
      | 0, hr => exact hr
      | 1, hr => exact hr
      | 2, hr => exact hr
      | 3, hr => exact hr
      | 4, hr => exact hr
      | k + 5, hr => exact absurd hr (by simp [Dk.rows])
set_option maxHeartbeats 4000000 in
theorem new_ok (n : Nat) (h1 : 0 < n) (h2 : n ≤ 512) (w : World) : Calls Tryd.prog 9 #[.int .i64 (n : Int)] w fun e w' => ∃ db vs vn, e = .returned (.tuple #[.pointer (some ⟨db, 0, none⟩), .int .i64 0]) ∧ Dsk w w' db n (Dk.fresh n) vs vn (.slice none 0 0) (.slice none 0 0) [] := by
  obtain ⟨i0, hi, hz0, hz1, hz2⟩ := info_parts sec_info
  have hm := make_row n Tryd.underlying51 hi hz0 hz1 hz2 (by omega) (by omega)
  have d1 := disk_new w n h1 h2 w.heap.size (w.heap.size + 1) (.inl ⟨rfl, rfl⟩)
  have d2 := disk_new w n h1 h2 (w.heap.size + 1) w.heap.size (.inr ⟨rfl, rfl⟩)
  have D1 := (show Hid _ from d1)
  have D2 := (show Hid _ from d2)
  clear d1 d2
  have hn1 : ¬ (n : Int) < 1 := by omega
  have hn2 : ¬ (512 : Int) < n := by omega
  generalize madeCells zval.cells (n * 65) = M at *
  go_enter Tryd.func9, Tryd.ntmps9
  go_wp2
  go_region
  all_goals simp only [Exit.then]
  · go_wp2
    refine bodyPost_ret (v := .tuple #[.pointer (some ⟨w.heap.size + 2, 0, none⟩), .int .i64 0]) (by simp [results, Tryd.results9, go_sem]) rfl ?_
    exact ⟨_, _, _, rfl, D1.out.step (Below.refl _ _).drew⟩
  · go_wp2
    refine bodyPost_ret (v := .tuple #[.pointer (some ⟨w.heap.size + 2, 0, none⟩), .int .i64 0]) (by simp [results, Tryd.results9, go_sem]) rfl ?_
    exact ⟨_, _, _, rfl, D2.out.step (Below.refl _ _).drew⟩
theorem new_no (n : Int) (h : ¬ (1 ≤ n ∧ n ≤ 512)) (w : World) : Calls Tryd.prog 9 #[.int .i64 n] w fun e w' => e = .returned (.tuple #[.pointer none, .int .i64 1]) ∧ w' = w := by
  by_cases h1 : n < 1
  · go_enter Tryd.func9, Tryd.ntmps9
    go_wp2
    refine bodyPost_ret (v := .tuple #[.pointer none, .int .i64 1]) (by simp [results, Tryd.results9, go_sem]) rfl ?_
    exact ⟨rfl, rfl⟩
  · have h2 : 512 < n := by omega
    go_enter Tryd.func9, Tryd.ntmps9
    go_wp2
    refine bodyPost_ret (v := .tuple #[.pointer none, .int .i64 1]) (by simp [results, Tryd.results9, go_sem]) rfl ?_
    exact ⟨rfl, rfl⟩
end Go.Proofs.YtafpfiadapabaaaDoor
