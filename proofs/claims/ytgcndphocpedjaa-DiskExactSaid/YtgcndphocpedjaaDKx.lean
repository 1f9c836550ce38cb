/-
  THE PAGE's DISK: New. Own work.
-/
import Derived.Test.YtgcndphocpedjaaDKw
namespace Go.Proofs.Ytgcndphocpedjaa
open Go.ChangeShapes Go.WideShapes Go.ChangeAt Go.RowKit Go.Maps Go.Deep
set_option maxRecDepth 100000
attribute [local go_sem ↓] Go.wp_at_zero Go.wp_at_succ
def zb : List Int := List.replicate 64 0
def nrows (pb n j : Nat) (us ut : Value) (sl : List Value) : List RowD := [⟨60, 7, .slice (some ⟨pb, 0, none⟩) 1 1, 1, [us, ut, .slice none 0 0, .bool false, .int .i64 0, .slice none 0 0, .int .i64 0]⟩, ⟨32, 1, us, j, sl⟩, boolRow ut (List.replicate n false), ⟨72, 2, .slice none 0 0, 0, []⟩, boolRow (.slice none 0 0) []]
structure Nw (w0 w : World) (pb n j : Nat) (us ut : Value) (sl : List Value) : Prop where
  fam : Fam w0 w (nrows pb n j us ut sl ++ sl.map (fun u => byteRow u zb))
  ls : sl.length = j
theorem Nw.step {w0 w w' : World} {pb n j : Nat} {us ut : Value} {sl : List Value} (T : Nw w0 w pb n j us ut sl) (hB : Below w.heap.size w w') : Nw w0 w' pb n j us ut sl := ⟨T.fam.step hB, T.ls⟩
theorem Nw.h {w0 w : World} {pb n j : Nat} {us ut : Value} {sl : List Value} (T : Nw w0 w pb n j us ut sl) : w.ownsRow w0.heap.size 60 7 (.slice (some ⟨pb, 0, none⟩) 1 1) 1 [us, ut, .slice none 0 0, .bool false, .int .i64 0, .slice none 0 0, .int .i64 0] := T.fam.row 0 _ rfl
theorem bool_made (w : World) (n : Nat) (h : n ≤ 512) : (Instr.makeSlice 33 (.int .i64 (n : Int)) (.int .i64 (n : Int))).run Try.prog w = .ok (.slice (some ⟨w.heap.size, 0, none⟩) n n) (w.alloc (.cells (List.replicate n (Value.bool false)).toArray 4)) := by
  obtain ⟨i0, hi, hz0, hz1, hz2⟩ := info_parts (P := Try.prog) (e := 4) (z := .bool false) (size := 1) (bytes := 1) (by kernel_rfl)
  have h := make_row n Try.underlying33 hi hz0 hz1 hz2 (by omega) (by omega) w
  have e : madeCells (Value.bool false).cells (n * 1) = (List.replicate n (Value.bool false)).toArray := by
    rw [Nat.mul_one]
    exact Array.ext' (toList_madeCells_one _ _)
  rw [e] at h
  exact h
theorem nw_start (w : World) (n : Nat) (h : n ≤ 512) : Nw w ((w.alloc (.cells (List.replicate n (Value.bool false)).toArray 4)).alloc (.cells #[.slice none 0 0, .slice (some ⟨w.heap.size, 0, none⟩) n n, .slice none 0 0, .bool false, .int .i64 0, .slice none 0 0, .int .i64 0] 60)) (w.heap.size + 1) n 0 (.slice none 0 0) (.slice (some ⟨w.heap.size, 0, none⟩) n n) [] := by
  have F1 := (Fam.start w).add (r := boolRow (.slice (some ⟨w.heap.size, 0, none⟩) n n) (List.replicate n false)) ((Below.refl _ w).alloc (Nat.le_refl _) (.cells (List.replicate n (Value.bool false)).toArray 4)) (by
    have h := World.ownsRow_lit (base := w.heap.size) (e := 4) (size := 1) w (List.replicate n (Value.bool false)).toArray n (Nat.le_refl _) (by unfold maxLen; omega) (by simp)
    show World.ownsRow _ _ _ 1 _ (List.replicate n false).length ((List.replicate n false).map Value.bool)
    rw [List.length_replicate, List.map_replicate]
    exact h)
  have F2 := F1.add (r := ⟨60, 7, .slice (some ⟨w.heap.size + 1, 0, none⟩) 1 1, 1, [.slice none 0 0, .slice (some ⟨w.heap.size, 0, none⟩) n n, .slice none 0 0, .bool false, .int .i64 0, .slice none 0 0, .int .i64 0]⟩) (w' := (w.alloc (.cells (List.replicate n (Value.bool false)).toArray 4)).alloc (.cells #[.slice none 0 0, .slice (some ⟨w.heap.size, 0, none⟩) n n, .slice none 0 0, .bool false, .int .i64 0, .slice none 0 0, .int .i64 0] 60)) ((Below.refl _ _).alloc (Nat.le_refl _) _) (by
    have h := World.ownsRow_lit (base := w.heap.size + 1) (e := 60) (size := 7) (w.alloc (.cells (List.replicate n (Value.bool false)).toArray 4)) #[.slice none 0 0, .slice (some ⟨w.heap.size, 0, none⟩) n n, .slice none 0 0, .bool false, .int .i64 0, .slice none 0 0, .int .i64 0] 1 (by simp [World.size_alloc]) (by decide) rfl
    rw [World.size_alloc] at h ⊢
    exact h)
  have F3 := F2.add (r := ⟨32, 1, .slice none 0 0, 0, []⟩) (Below.refl _ _) (World.ownsRow_nil _ _ _ _)
  have F4 := F3.add (r := ⟨72, 2, .slice none 0 0, 0, []⟩) (Below.refl _ _) (World.ownsRow_nil _ _ _ _)
  have F5 := F4.add (r := boolRow (.slice none 0 0) []) (Below.refl _ _) (World.ownsRow_nil _ _ _ _)
  refine ⟨F5.reidx (fun i => match i with | 0 => 1 | 1 => 2 | 2 => 0 | k => k) ?_ ?_, rfl⟩
  · intro i j hi hj
    have hi' : i < 5 := hi
    have hj' : j < 5 := hj
    match i, j, hi', hj' with
    | 0, 0, _, _ => simp
    | 0, 1, _, _ => simp
    | 0, 2, _, _ => simp
    | 0, 3, _, _ => simp
    | 0, 4, _, _ => simp
    | 1, 0, _, _ => simp
    | 1, 1, _, _ => simp
    | 1, 2, _, _ => simp
    | 1, 3, _, _ => simp
    | 1, 4, _, _ => simp
    | 2, 0, _, _ => simp
    | 2, 1, _, _ => simp
    | 2, 2, _, _ => simp
    | 2, 3, _, _ => simp
    | 2, 4, _, _ => simp
    | 3, 0, _, _ => simp
    | 3, 1, _, _ => simp
    | 3, 2, _, _ => simp
    | 3, 3, _, _ => simp
    | 3, 4, _, _ => simp
    | 4, 0, _, _ => simp
    | 4, 1, _, _ => simp
    | 4, 2, _, _ => simp
    | 4, 3, _, _ => simp
    | 4, 4, _, _ => simp
  · intro i r hr
    match i, hr with
    | 0, hr => exact hr
    | 1, hr => exact hr
    | 2, hr => exact hr
    | 3, hr => exact hr
    | 4, hr => exact hr
    | k + 5, hr => exact absurd hr (by simp [nrows])
section
attribute [-go_sem] Go.Builtin.append_
theorem nw_put {w0 w : World} {pb n j : Nat} {us ut : Value} {sl : List Value} (T : Nw w0 w pb n j us ut sl) (hj : j ≤ 512) : ∃ v' w5, (Builtin.append_ #[38, 38] 38 #[us, .slice (some ⟨w.heap.size + 1, 0, none⟩) 1 1]).run Try.prog ((w.alloc (.cells z64 5)).alloc (.cells #[.slice (some ⟨w.heap.size, 0, none⟩) 64 64] 32)).drew = .ok v' w5 ∧ (∃ p' c', v' = .slice p' (j + 1) c') ∧ w5.cell? ⟨pb, 0, none⟩ = some us ∧ w5.frozen? ⟨pb, 0, none⟩ = false ∧ Nw w0 (w5.setCell ⟨pb, 0, none⟩ v') pb n (j + 1) v' ut (sl ++ [.slice (some ⟨w.heap.size, 0, none⟩) 64 64]) := by
  have F := T.fam.add (r := byteRow (.slice (some ⟨w.heap.size, 0, none⟩) 64 64) zb) ((Below.refl _ w).alloc (Nat.le_refl _) (.cells z64 5)) (World.ownsRow_lit (base := w.heap.size) (e := 5) (size := 1) w z64 64 (Nat.le_refl _) (by decide) rfl)
  rw [List.append_assoc] at F
  have F2 := (F.step ((Below.refl _ _).alloc (Nat.le_refl _) (.cells #[.slice (some ⟨w.heap.size, 0, none⟩) 64 64] 32))).step (Below.refl _ _).drew
  obtain ⟨i0, hi0, hz0, hz1, hz2⟩ := info_parts (P := Try.prog) (e := 32) (z := .slice none 0 0) (size := 1) (bytes := 24) (by kernel_rfl)
  have hnewl := World.ownsRow_lit (base := (w.alloc (.cells z64 5)).heap.size) (e := 32) (size := 1) (w.alloc (.cells z64 5)) #[.slice (some ⟨w.heap.size, 0, none⟩) 64 64] 1 (Nat.le_refl _) (by decide) rfl
  rw [World.size_alloc] at hnewl
  have hrow : ((w.alloc (.cells z64 5)).alloc (.cells #[.slice (some ⟨w.heap.size, 0, none⟩) 64 64] 32)).drew.ownsRow w0.heap.size 32 1 us j sl := F2.row 1 _ rfl
  obtain ⟨v', w5, hrun, hown, hgrow, _, hat⟩ := run_append_own_at (P := Try.prog) ((w.alloc (.cells z64 5)).alloc (.cells #[.slice (some ⟨w.heap.size, 0, none⟩) 64 64] 32)).drew w0.heap.size 38 38 32 i0 (.slice none 0 0) 1 24 Try.underlying38 hi0 hz0 hz1 hz2 rfl (by decide) us j _ hrow ⟨w.heap.size + 1, 0, none⟩ 1 1 [.slice (some ⟨w.heap.size, 0, none⟩) 64 64] rfl (fun q u hq => by
    rw [addr_mid, Nat.zero_add]
    show ((w.alloc (.cells z64 5)).alloc (.cells #[.slice (some ⟨w.heap.size, 0, none⟩) 64 64] 32)).cell? ⟨_, q, none⟩ = some u
    rw [World.ownsRow.cellAt hnewl q (by have := (List.getElem?_eq_some_iff.1 hq).1; simp at this; omega)]; exact hq) (fun u hu => by simp at hu; subst hu; rfl) (by unfold maxLen; omega) (by omega) F2.below.size
  have hat' : ∀ k, v'.ownBlock = some k → us.ownBlock = some k ∨ ((w.alloc (.cells z64 5)).alloc (.cells #[.slice (some ⟨w.heap.size, 0, none⟩) 64 64] 32)).drew.heap.size ≤ k := fun k hk => by
    rcases hat with h | h
    · exact .inl (h.symm.trans hk)
    · rw [h] at hk
      exact .inr (by cases hk; exact Nat.le_refl _)
  have F3 := F2.put 1 rfl (r' := ⟨32, 1, v', j + 1, sl ++ [.slice (some ⟨w.heap.size, 0, none⟩) 64 64]⟩) hgrow hown hat'
  have h1 : w5.ownsRow w0.heap.size 60 7 (.slice (some ⟨pb, 0, none⟩) 1 1) 1 [us, ut, .slice none 0 0, .bool false, .int .i64 0, .slice none 0 0, .int .i64 0] := F3.row 0 _ rfl
  obtain ⟨r1, g1⟩ := World.ownsRow.stored h1 0 v'
  have F4 := F3.put 0 rfl (r' := ⟨60, 7, .slice (some ⟨pb, 0, none⟩) 1 1, 1, _⟩) g1 r1 (fun k hk => .inl hk)
  refine ⟨v', w5, hrun, row_slice hown, World.ownsRow.cellAt h1 0 (by omega), World.ownsRow.frozenAt h1 0, ⟨?_, by simp [T.ls]⟩⟩
  rw [List.map_append]
  exact F4
set_option maxHeartbeats 4000000 in
theorem pnew_ok (n : Nat) (h1 : 0 < n) (h2 : n ≤ 512) (w : World) : Calls Try.prog 9 #[.int .i64 (n : Int)] w fun e w' => ∃ pb us ut sl, e = .returned (.pointer (some ⟨pb, 0, none⟩)) ∧ Nw w w' pb n n us ut sl := by
  have hb := bool_made w n h2
  have hm := byte_make
  have N0 := nw_start w n h2
  have NH := (show Hid _ from N0)
  clear N0
  have hn1 : ¬ (n : Int) < 1 := by omega
  have hn2 : ¬ (512 : Int) < n := by omega
  go_enter Try.func9, Try.ntmps9
  go_wp2
  go_loopw [4] (fun i wq => ∃ (j : Nat) (us : Value) (sl : List Value), i = .int .i64 j ∧ j ≤ n ∧ Nw w wq (w.heap.size + 1) n j us (.slice (some ⟨w.heap.size, 0, none⟩) n n) sl) (fun i _ => n - (intOf i).toNat)
  case atStart => exact ⟨0, _, _, rfl, by omega, NH.out⟩
  case round =>
    clear NH
    obtain ⟨j, us, sl, rfl, hj, T⟩ := hrel
    by_cases hlt : j < n
    · have hjI : (j : Int) < n := by omega
      have c0 : wr.cell? ⟨w.heap.size + 1, 0, none⟩ = some us := World.ownsRow.cellAt T.h 0 (by omega)
      have Ta := T.step ((Below.refl _ wr).alloc (Nat.le_refl _) (.cells z64 5))
      have c0a : (wr.alloc (.cells z64 5)).cell? ⟨w.heap.size + 1, 0, none⟩ = some us := World.ownsRow.cellAt Ta.h 0 (by omega)
      have Tb := Ta.step ((Below.refl _ _).alloc (Nat.le_refl _) (.cells #[.slice (some ⟨wr.heap.size, 0, none⟩) 64 64] 32))
      have c0b : ((wr.alloc (.cells z64 5)).alloc (.cells #[.slice (some ⟨wr.heap.size, 0, none⟩) 64 64] 32)).cell? ⟨w.heap.size + 1, 0, none⟩ = some us := World.ownsRow.cellAt Tb.h 0 (by omega)
      obtain ⟨v', w5, hrun, ⟨p', c', rfl⟩, y0, z0, T6⟩ := nw_put T (by omega)
      clear Ta Tb
      go_wp2
      go_region
      all_goals simp only [Exit.inBlock]
      all_goals go_wp2
      all_goals exact ⟨⟨j + 1, _, _, by simp, by omega, T6⟩, by simp [intOf]; omega⟩
    · obtain rfl : j = n := by omega
      have hjI : ¬ (j : Int) < j := by omega
      go_wp2
      go_ret
      exact ⟨_, rfl, us, _, sl, T⟩
theorem pnew_no (n : Int) (h : ¬ (1 ≤ n ∧ n ≤ 512)) (w : World) : Calls Try.prog 9 #[.int .i64 n] w fun e w' => e = .returned (.pointer none) ∧ w' = w := by
  by_cases h1 : n < 1
  · go_enter Try.func9, Try.ntmps9
    go_wp2
    go_ret
    simp
  · have h2 : 512 < n := by omega
    go_enter Try.func9, Try.ntmps9
    go_wp2
    go_ret
    simp
end
theorem Nw.pg {w0 w : World} {pb n : Nat} {us ut : Value} {sl : List Value} (T : Nw w0 w pb n n us ut sl) (h1 : 0 < n) (h2 : n ≤ 512) : Pg w0 w pb n (Dk.fresh n) ⟨us, ut, .slice none 0 0, .slice none 0 0, sl, [], [], 0⟩ (sl.map (fun u => byteRow u zb)) (sl.map (fun u => byteRow u zb)) := by
  refine ⟨?_, fresh_ok h1 h2, by simp [Dk.fresh, T.ls], fun i y hy => ?_, rfl, fun k x hx => by simp [Dk.fresh] at hx, fun r h => h⟩
  · have e : PA.rows ⟨us, ut, .slice none 0 0, .slice none 0 0, sl, [], [], 0⟩ pb (Dk.fresh n) = nrows pb n n us ut sl := by
      simp [PA.rows, nrows, Dk.fresh, T.ls, zsec]
    rw [e]
    exact T.fam
  · have hi : i < n := by
      have := (List.getElem?_eq_some_iff.1 hy).1
      simpa [Dk.fresh] using this
    have hy' : y = zsec := by
      have h := hy
      simp only [Dk.fresh] at h
      rw [List.getElem?_replicate, if_pos hi] at h
      exact (Option.some.inj h).symm
    subst hy'
    refine ⟨sl[i]'(by rw [T.ls]; exact hi), List.getElem?_eq_getElem _, List.mem_map.2 ⟨_, List.getElem_mem _, rfl⟩⟩
end Go.Proofs.Ytgcndphocpedjaa
