/-
  DISK: Write where nothing is written; Sync. Own work.
-/
import Derived.Test.YtafpfiadapabaaaDoorDKg
namespace Go.Proofs.YtafpfiadapabaaaDoor
open Go.ChangeShapes Go.WideShapes Go.ChangeAt Go.RowKit Go.Maps
set_option maxRecDepth 100000
attribute [local go_sem ↓] Go.wp_at_zero Go.wp_at_succ
def syn (l : List Wri) (nw : List Sec) (s : List Sec) : Nat → List Sec
  | 0 => s
  | j + 1 => match l[j]? with | some x => (match nw[x.1]? with | some y => (syn l nw s j).set x.1 y | none => syn l nw s j) | none => syn l nw s j
section
variable {w0 w w' : World} {db n : Nat} {d : Dk} {vs vn vw vk : Value} {R : List RowD}
set_option maxHeartbeats 4000000 in
theorem write_off (T : Dsk w0 w db n d vs vn vw vk R) (hoff : d.off = true) (i : Int) (v : Value) : Calls Tryd.prog 34 #[.pointer (some ⟨db, 0, none⟩), .int .i64 i, v] w fun e w' => e = .returned (.int .i64 9) ∧ w' = w := by
  have c3 := T.c3
  rw [hoff] at c3
  go_enter Tryd.func34, Tryd.ntmps34
  go_wp2
  go_ret
  simp
set_option maxHeartbeats 4000000 in
theorem write_arg (T : Dsk w0 w db n d vs vn vw vk R) (hoff : d.off = false) (i : Int) (hi : ¬ (0 ≤ i ∧ i < n)) (v : Value) : Calls Tryd.prog 34 #[.pointer (some ⟨db, 0, none⟩), .int .i64 i, v] w fun e w' => e = .returned (.int .i64 1) ∧ w' = w := by
  have c3 := T.c3
  rw [hoff] at c3
  have hd : decide (0 ≤ i ∧ i < (n : Int)) = false := decide_eq_false hi
  go_enter Tryd.func34, Tryd.ntmps34
  go_wp2_with (go_at_call 39; refine (has_ok T _).mono ?_; rintro ev w1 ⟨rfl, rfl⟩; rw [hd])
  go_ret
  simp
set_option maxHeartbeats 4000000 in
theorem write_len (T : Dsk w0 w db n d vs vn vw vk R) (hoff : d.off = false) (i : Int) (hi : 0 ≤ i ∧ i < n) (p : Option Addr) (l c : Nat) (hl : l ≠ 64) : Calls Tryd.prog 34 #[.pointer (some ⟨db, 0, none⟩), .int .i64 i, .slice p l c] w fun e w' => e = .returned (.int .i64 2) ∧ w' = w := by
  have c3 := T.c3
  rw [hoff] at c3
  have hd : decide (0 ≤ i ∧ i < (n : Int)) = true := decide_eq_true hi
  have hl' : ¬ (l : Int) = 64 := by omega
  go_enter Tryd.func34, Tryd.ntmps34
  go_wp2_with (go_at_call 39; refine (has_ok T _).mono ?_; rintro ev w1 ⟨rfl, rfl⟩; rw [hd])
  go_ret
  simp
set_option maxHeartbeats 4000000 in
theorem sync_off (T : Dsk w0 w db n d vs vn vw vk R) (hoff : d.off = true) : Calls Tryd.prog 35 #[.pointer (some ⟨db, 0, none⟩)] w fun e w' => e = .returned (.int .i64 9) ∧ w' = w := by
  have c3 := T.c3
  rw [hoff] at c3
  go_enter Tryd.func35, Tryd.ntmps35
  go_wp2
  go_ret
  simp
set_option maxHeartbeats 4000000 in
theorem sync_trip (T : Dsk w0 w db n d vs vn vw vk R) (hoff : d.off = false) (hl : d.left = 1) : Calls Tryd.prog 35 #[.pointer (some ⟨db, 0, none⟩)] w fun e w' => e = .returned (.int .i64 9) ∧ ∃ vw' vk', Dsk w0 w' db n (d.crash d.keep d.torn) vs vn vw' vk' R := by
  have c3 := T.c3
  rw [hoff] at c3
  go_enter Tryd.func35, Tryd.ntmps35
  go_wp2_with (go_at_call 44; refine (trips_yes T hoff hl).mono ?_; rintro ev w5 ⟨rfl, T7⟩)
  go_ret
  exact ⟨by simp, _, _, T7⟩
end
section
attribute [-go_sem] Go.loadCells Go.storeCells Go.Instr.alloc Go.Instr.buildSlice Go.Instr.build Go.Instr.fill
attribute [local go_sem] storeCells_one storeCells_three
variable {w0 w w' : World} {db n : Nat} {d : Dk} {vs vn vw vk : Value} {R : List RowD}
set_option maxHeartbeats 4000000 in
theorem sync_ok (T : Dsk w0 w db n d vs vn vw vk R) (hoff : d.off = false) (hl : d.left ≠ 1) (hm : d.left < 9223372036854775808) : Calls Tryd.prog 35 #[.pointer (some ⟨db, 0, none⟩)] w fun e w' => e = .returned (.int .i64 0) ∧ Dsk w0 w' db n { d with safe := syn d.wr d.now d.safe d.wr.length, wr := [], left := d.left - 1 } vs vn (.slice none 0 0) vk R := by
  have c3 := T.c3
  rw [hoff] at c3
  obtain ⟨gs, cs, rfl, _⟩ := T.rs
  obtain ⟨gn, cn, rfl, _⟩ := T.rn
  obtain ⟨pw, cw, rfl⟩ := row_slice T.rw
  have hA := alloc_wri (.tuple #[])
  go_enter Tryd.func35, Tryd.ntmps35
  go_wp2_with (go_at_call 44; refine (trips_stay T hl hm).mono ?_; rintro ev w5 ⟨rfl, _, T5⟩; have y2 := T5.c2)
  go_loopw [18] (fun i wq => ∃ j : Nat, i = .int .i64 j ∧ j ≤ d.wr.length ∧ Dsk w0 wq db n { d with safe := syn d.wr d.now d.safe j, left := d.left - 1 } (.slice (some ⟨gs, 0, none⟩) n cs) (.slice (some ⟨gn, 0, none⟩) n cn) (.slice pw d.wr.length cw) vk R) (fun i _ => d.wr.length - (intOf i).toNat)
  case atStart => exact ⟨0, rfl, by omega, T5⟩
  case round =>
    obtain ⟨j, rfl, hj, T1⟩ := hrel
    have hwI : (d.wr.length : Int) ≤ 9223372036854775807 := by have := row_max T.rw; unfold maxLen at this; omega
    by_cases hlt : j < d.wr.length
    · have hjI : (j : Int) < d.wr.length := by omega
      obtain ⟨x, hx⟩ : ∃ x, d.wr[j]? = some x := ⟨_, List.getElem?_eq_getElem hlt⟩
      have hxw := T.ok.w64 x (List.mem_of_getElem? hx)
      obtain ⟨gw, rfl, _⟩ := row_open T1.rw (by show 0 < d.wr.length; omega)
      have L1 : (loadCells ⟨gw, j * 65, none⟩ 65).run Tryd.prog wr = .ok (wv x).toArray wr := load_mid _ _ _ _ 65 (wv_len T.ok.w64 x (List.mem_of_getElem? hx)) (fun q hq => wide_cell (wv_len T.ok.w64) T1.rw j q x hx hq)
      obtain ⟨w2, hS2, B2, e0, LC, _, hhl, _⟩ := own_wri wr x hxw.2
      have T2 := T1.step B2
      have k0 := T2.c0
      have k1 := T2.c1
      have hwl := wv_len T.ok.w64 x (List.mem_of_getElem? hx)
      have hxI : (x.1 : Int) < n := by omega
      obtain ⟨y, hy⟩ : ∃ y, d.now[x.1]? = some y := ⟨_, List.getElem?_eq_getElem (by rw [T.ok.ln]; exact hxw.1)⟩
      obtain ⟨y0, hy0⟩ : ∃ y, (syn d.wr d.now d.safe j)[x.1]? = some y := ⟨_, List.getElem?_eq_getElem (by have := T2.ok.ls; simp only at this; omega)⟩
      have hy64 := T.ok.n64 y (List.mem_of_getElem? hy)
      have hyl : (sv y).length = 65 := by simp [sv, hy64]
      have hst : syn d.wr d.now d.safe (j + 1) = (syn d.wr d.now d.safe j).set x.1 y := by rw [syn, hx]; simp only [hy]
      have T3 := T2.step (Below.refl _ w2).drew
      have hrowS : w2.drew.ownsRow w0.heap.size 71 65 (.slice (some ⟨gs, 0, none⟩) (syn d.wr d.now d.safe j).length cs) (syn d.wr d.now d.safe j).length ((syn d.wr d.now d.safe j).flatMap sv) := by
        have h : w2.drew.ownsRow w0.heap.size 71 65 (.slice (some ⟨gs, 0, none⟩) n cs) (syn d.wr d.now d.safe j).length ((syn d.wr d.now d.safe j).flatMap sv) := T3.fam.row 1 _ rfl
        have e := T3.ok.ls
        simp only at e
        rw [← e] at h
        exact h
      have hrowN : w2.drew.ownsRow w0.heap.size 71 65 (.slice (some ⟨gn, 0, none⟩) d.now.length cn) d.now.length (d.now.flatMap sv) := by
        have h : w2.drew.ownsRow w0.heap.size 71 65 (.slice (some ⟨gn, 0, none⟩) n cn) d.now.length (d.now.flatMap sv) := T3.fam.row 2 _ rfl
        have e := T.ok.ln
        rw [← e] at h
        exact h
      have hyl0 := sv_len T2.ok.s64 y0 (List.mem_of_getElem? hy0)
      have LN : (loadCells ⟨gn, x.1 * 65, none⟩ 65).run Tryd.prog w2.drew = .ok (sv y).toArray w2.drew := load_mid _ _ _ _ 65 hyl (fun q hq => wide_cell (sv_len T.ok.n64) hrowN x.1 q y hy hq)
      have hSd := store_mid w2.drew gs (x.1 * 65) (sv y) (fun q hq => by rw [wide_cell (sv_len T2.ok.s64) hrowS x.1 q y0 hy0 (by omega), List.getElem?_eq_getElem (by omega)]; rfl) (fun q => World.ownsRow.frozenAt hrowS _) (sv_one _)
      clear hrowS hrowN
      go_wp2
      go_region
      simp only [Exit.inBlock]
      go_wp2
      refine ⟨⟨j + 1, by simp, by omega, ?_⟩, by simp [intOf]; omega⟩
      rw [hst]
      exact T3.putS x.1 hxw.1 y hy64
    · obtain rfl : j = d.wr.length := by omega
      have y2 := T1.c2
      have z2 := T1.z 2
      go_wp2
      go_ret
      exact ⟨by simp, T1.clearW⟩
end
end Go.Proofs.YtafpfiadapabaaaDoor
