/-
  DISK: trips, Write. Own work.
-/
import Derived.Test.YtafpfiadapabaaaDoorDKf
namespace Go.Proofs.YtafpfiadapabaaaDoor
open Go.ChangeShapes Go.WideShapes Go.ChangeAt Go.RowKit Go.Maps
set_option maxRecDepth 100000
attribute [local go_sem ↓] Go.wp_at_zero Go.wp_at_succ
theorem array_at (a : Addr) (c : Nat) (w : World) : (Instr.arrayAt 67 (.slice (some a) 64 c)).run Tryd.prog w = .ok (.pointer (some a)) w := by
  have hu := Tryd.underlying67
  simp [Instr.arrayAt, run_underlying hu]
def Dk.crash (d : Dk) (ks : List Bool) (t : Int) : Dk := ⟨crs ks t d.wr d.safe d.wr.length, crs ks t d.wr d.safe d.wr.length, [], true, 0, [], 0⟩
section
variable {w0 w w' : World} {db n : Nat} {d : Dk} {vs vn vw vk : Value} {R : List RowD}
set_option maxHeartbeats 4000000 in
theorem trips_zero (T : Dsk w0 w db n d vs vn vw vk R) (hl : d.left = 0) : Calls Tryd.prog 44 #[.pointer (some ⟨db, 0, none⟩)] w fun e w' => e = .returned (.bool false) ∧ w' = w := by
  have c4 := T.c4
  rw [hl] at c4
  go_enter Tryd.func44, Tryd.ntmps44
  go_wp2
  go_ret
  simp
set_option maxHeartbeats 4000000 in
theorem trips_no (T : Dsk w0 w db n d vs vn vw vk R) (hl : 1 < d.left) (hm : d.left < 9223372036854775808) : Calls Tryd.prog 44 #[.pointer (some ⟨db, 0, none⟩)] w fun e w' => e = .returned (.bool false) ∧ w' = w.setCell ⟨db, 4, none⟩ (.int .i64 ((d.left - 1 : Nat) : Int)) := by
  have c4 := T.c4
  have z4 := T.z 4
  obtain ⟨m, hm'⟩ : ∃ m, d.left = m + 2 := ⟨d.left - 2, by omega⟩
  have e1 : ((d.left - 1 : Nat) : Int) = (d.left : Int) - 1 := by omega
  rw [e1]
  have hne : ¬ (d.left : Int) = 0 := by omega
  have hgt : 0 < (d.left : Int) - 1 := by omega
  have hb1 : 1 < (d.left : Int) := by omega
  have hb2 : (d.left : Int) < 9223372036854775808 := by omega
  clear e1 hm'
  generalize (d.left : Int) = l at *
  go_enter Tryd.func44, Tryd.ntmps44
  go_wp2
  go_ret
  simp
set_option maxHeartbeats 4000000 in
theorem trips_yes (T : Dsk w0 w db n d vs vn vw vk R) (hoff : d.off = false) (hl : d.left = 1) : Calls Tryd.prog 44 #[.pointer (some ⟨db, 0, none⟩)] w fun e w' => e = .returned (.bool true) ∧ Dsk w0 w' db n (d.crash d.keep d.torn) vs vn (.slice none 0 0) (.slice none 0 0) R := by
  have c4 := T.c4
  have z4 := T.z 4
  rw [hl] at c4
  have T1 := T.setLeft 0
  have T1d := T1.step (Below.refl _ _).drew
  have y5 := T1d.c5
  have y6 := T1d.c6
  have hk := rdv_row T1d.rk
  have hne : d.keep.map Value.bool ≠ [] → ∀ k, vk.ownBlock = some k → vs.ownBlock ≠ some k := fun _ => T.fam.apart 4 1 _ _ rfl rfl (by omega)
  have c5 := T.c5
  have c6 := T.c6
  go_enter Tryd.func44, Tryd.ntmps44
  go_wp2
  go_region_with (go_at_call 20; refine (crash_on T1d hoff d.torn hk hne).mono ?_; rintro ev w3 ⟨rfl, T3⟩)
  all_goals (simp only [Exit.then]; go_wp2; go_ret; exact ⟨by simp, T3⟩)
theorem trips_stay (T : Dsk w0 w db n d vs vn vw vk R) (hl : d.left ≠ 1) (hm : d.left < 9223372036854775808) : Calls Tryd.prog 44 #[.pointer (some ⟨db, 0, none⟩)] w fun e w' => e = .returned (.bool false) ∧ Keeps (fun k => k = db) w w' ∧ Dsk w0 w' db n { d with left := d.left - 1 } vs vn vw vk R := by
  by_cases h0 : d.left = 0
  · refine (trips_zero T h0).mono ?_
    rintro e w' ⟨rfl, rfl⟩
    have e1 : { d with left := d.left - 1 } = d := by cases d; simp at h0; simp [h0]
    exact ⟨rfl, Keeps.refl _ _, by rw [e1]; exact T⟩
  · refine (trips_no T (by omega) hm).mono ?_
    rintro e w' ⟨rfl, rfl⟩
    exact ⟨rfl, setcell_keeps _ _ _ _, T.setLeft _⟩
end
section
attribute [-go_sem] Go.loadCells Go.storeCells Go.Instr.alloc Go.Instr.buildSlice Go.Instr.build Go.Instr.fill Go.Builtin.append_
attribute [local go_sem] storeCells_one storeCells_three
variable {w0 w w' : World} {db n : Nat} {d : Dk} {vs vn vw vk : Value} {R : List RowD}
set_option maxHeartbeats 4000000 in
theorem write_ok (T : Dsk w0 w db n d vs vn vw vk R) (hoff : d.off = false) (hl : d.left ≠ 1) (hm : d.left < 9223372036854775808) (i : Nat) (hi : i < n) {v : Value} {bs : List Int} (hb : RdV w v (bs.map (Value.int .u8))) (h64 : bs.length = 64) (hlen : d.wr.length ≤ 100000) : Calls Tryd.prog 34 #[.pointer (some ⟨db, 0, none⟩), .int .i64 (i : Int), v] w fun e w' => e = .returned (.int .i64 0) ∧ ∃ vw' vk', Dsk w0 w' db n { d with wr := d.wr ++ [(i, bs)], left := d.left - 1, now := d.now.set i (bs, false) } vs vn vw' vk' R := by
  have c3 := T.c3
  rw [hoff] at c3
  obtain ⟨gn, cn, rfl, _⟩ := T.rn
  have c2 := T.c2
  have hiI : (i : Int) < n := by omega
  have hwl : (wv (i, bs)).length = 65 := by simp [wv, h64]
  obtain ⟨pv, cv, rfl, hb0 | ⟨b, o, rfl, hbl, hbc⟩⟩ := id hb
  · rw [List.map_eq_nil_iff] at hb0
    rw [hb0] at h64
    cases h64
  have hbn : (bs.map (Value.int .u8)).length = 64 := by simp [h64]
  rw [hbn] at hb hbc ⊢
  have LBs : (loadCells ⟨b, o, none⟩ 64).run Tryd.prog w = .ok (bs.map (Value.int .u8)).toArray w := load_mid w b o _ 64 hbn hbc
  have hBW : ∀ w, (Instr.build 69 #[(0, .int .i64 (i : Int)), (1, .agg (bs.map (Value.int .u8)).toArray)]).run Tryd.prog w = .ok (.agg (wv (i, bs)).toArray) w := build_wri i bs h64
  have hAr := array_at ⟨b, o, none⟩ cv
  have hA := alloc_wri (.tuple #[])
  have hSl := slice_wri (wv (i, bs)) hwl
  have hSec := build_sec bs h64
  obtain ⟨w2, hS2, B2, _, LC, LC0, hhl, _⟩ := own_wri w (i, bs) h64
  have T2 := T.step B2
  have y2 := T2.c2
  have LW := load_mid w2.drew w.heap.size 0 (wv (i, bs)) 65 hwl (fun q hq => by rw [cell_heap rfl]; exact LC0 q hq)
  have TV := T2.step ((Below.refl _ w2).alloc (Nat.le_refl _) (.cells (wv (i, bs)).toArray 69))
  have y2b := TV.c2
  have TW := TV.step (Below.refl _ _).drew
  obtain ⟨i0, hi0, hz0, hz1, hz2⟩ := info_parts wri_info
  have hnewl := World.ownsRow_lit (base := w2.heap.size) (e := 69) (size := 65) w2 (wv (i, bs)).toArray 1 (Nat.le_refl _) (by decide) (by simp [hwl])
  obtain ⟨v', w4, hr, hown4, hgrow4, _, hat⟩ := run_append_own_at (P := Tryd.prog) (w2.alloc (.cells (wv (i, bs)).toArray 69)).drew w0.heap.size 52 52 69 i0 zwri 65 72 Tryd.underlying52 hi0 hz0 hz1 hz2 rfl (by decide) vw d.wr.length _ TW.rw ⟨w2.heap.size, 0, none⟩ 1 1 (wv (i, bs)) (by simp [hwl]) (fun q u hq => by rw [addr_mid, Nat.zero_add]; show (w2.alloc (.cells (wv (i, bs)).toArray 69)).cell? ⟨_, q, none⟩ = some u; rw [World.ownsRow.cellAt hnewl q (by have := (List.getElem?_eq_some_iff.1 hq).1; omega)]; exact hq) (wv_one _) (by unfold maxLen; omega) (by omega) TW.fam.below.size
  obtain ⟨p4, c4, rfl⟩ := row_slice hown4
  have hat' : ∀ k, (Value.slice p4 (d.wr.length + 1) c4).ownBlock = some k → vw.ownBlock = some k ∨ (w2.alloc (.cells (wv (i, bs)).toArray 69)).drew.heap.size ≤ k := fun k hk => by
    rcases hat with h | h
    · exact .inl (h.symm.trans hk)
    · rw [h] at hk
      exact .inr (by cases hk; exact Nat.le_refl _)
  have hown5 : w4.ownsRow w0.heap.size 69 65 (.slice p4 (d.wr.length + 1) c4) (d.wr ++ [(i, bs)]).length ((d.wr ++ [(i, bs)]).flatMap wv) := by
    rw [flat_app, List.length_append]
    exact hown4
  have F1 := TW.fam.put 3 rfl (r' := wriRow (.slice p4 (d.wr.length + 1) c4) (d.wr ++ [(i, bs)])) hgrow4 hown5 hat'
  have h1 : w4.ownsRow w0.heap.size 56 7 (.slice (some ⟨db, 0, none⟩) 1 1) 1 [vs, .slice (some ⟨gn, 0, none⟩) n cn, vw, .bool d.off, .int .i64 (d.left : Int), vk, .int .i64 d.torn] := F1.row 0 _ rfl
  have q2 : w4.cell? ⟨db, 2, none⟩ = some vw := World.ownsRow.cellAt h1 2 (by omega)
  have q3 := World.ownsRow.frozenAt h1 2
  have T5 := TW.setW hgrow4 hown5 hat' (fun x hx => by
    rcases List.mem_append.1 hx with hx | hx
    · exact T.ok.w64 x hx
    · rw [List.mem_singleton.1 hx]
      exact ⟨hi, h64⟩)
  have y2a := TW.c2
  have BB : Below w2.heap.size w2 (w2.alloc (.cells (wv (i, bs)).toArray 69)).drew := ((Below.refl _ w2).alloc (Nat.le_refl _) _).drew
  have K4 : Keeps (fun k => vw.ownBlock = some k ∨ k = db) w2 (w4.setCell ⟨db, 2, none⟩ (.slice p4 (d.wr.length + 1) c4)) := ((Keeps.of_below (F := fun k => vw.ownBlock = some k ∨ k = db) BB).trans (Keeps.of_grown (F := fun k => vw.ownBlock = some k ∨ k = db) hgrow4 (fun k hk => .inl hk)) (fun k _ h => h)).trans (setcell_keeps _ db 2 _) (fun k _ h => .inr h)
  have hdbl : db < w.heap.size := (row_base T.h rfl).2
  have hfar : ¬ (vw.ownBlock = some w.heap.size ∨ w.heap.size = db) := by
    rintro (h | h)
    · have := (row_base T.rw h).2
      omega
    · omega
  go_enter Tryd.func34, Tryd.ntmps34
  go_wp2_with (first
    | (go_at_call 39; refine (has_ok T _).mono ?_; rintro ev w1 ⟨rfl, rfl⟩))
  go_region
  simp only [Exit.then]
  go_wp2_with (go_at_call 44; refine (trips_stay T5 hl hm).mono ?_; rintro ev w5 ⟨rfl, K5, T7⟩)
  have K7 := K4.trans K5 (fun k _ h => .inr h)
  have LBd := load_mid w5.drew w1.heap.size 1 (bs.map (Value.int .u8)) 64 hbn (fun q hq => ((cell_heap (w' := w5.drew) (w := w5) rfl _).trans (K7.cell (p := ⟨w1.heap.size, 1 + q, none⟩) hhl hfar)).trans (LC q hq))
  have y1 := T7.c1
  have T8 := T7.step (Below.refl _ w5).drew
  have hrN : w5.drew.ownsRow w0.heap.size 71 65 (.slice (some ⟨gn, 0, none⟩) n cn) d.now.length (d.now.flatMap sv) := T8.fam.row 2 _ rfl
  rw [← T.ok.ln] at hrN
  have hcs := fun q (hq : q < 65) => wide_cell (sv_len T.ok.n64) hrN i q _ (List.getElem?_eq_getElem (by rw [T.ok.ln]; exact hi)) hq
  have hfs := fun q => World.ownsRow.frozenAt hrN q
  have hxl : (sv (bs, false)).length = 65 := by simp [sv, h64]
  have hyl : (sv (d.now[i]'(by rw [T.ok.ln]; exact hi))).length = 65 := sv_len T.ok.n64 _ (List.getElem_mem _)
  have hSd := store_mid w5.drew gn (i * 65) (sv (bs, false)) (fun q hq => by rw [hcs q (by omega), List.getElem?_eq_getElem (by omega)]; rfl) (fun q => hfs _) (sv_one _)
  clear hcs hfs hrN
  go_region
  simp only [Exit.then]
  go_wp2
  go_ret
  refine ⟨by simp, _, _, T8.putN i hi (bs, false) h64⟩
set_option maxHeartbeats 4000000 in
theorem write_trip (T : Dsk w0 w db n d vs vn vw vk R) (hoff : d.off = false) (hl : d.left = 1) (i : Nat) (hi : i < n) {v : Value} {bs : List Int} (hb : RdV w v (bs.map (Value.int .u8))) (h64 : bs.length = 64) (hlen : d.wr.length ≤ 100000) : Calls Tryd.prog 34 #[.pointer (some ⟨db, 0, none⟩), .int .i64 (i : Int), v] w fun e w' => e = .returned (.int .i64 9) ∧ ∃ vw' vk', Dsk w0 w' db n (({ d with wr := d.wr ++ [(i, bs)] } : Dk).crash d.keep d.torn) vs vn vw' vk' R := by
  have c3 := T.c3
  rw [hoff] at c3
  obtain ⟨gn, cn, rfl, _⟩ := T.rn
  have c2 := T.c2
  have hiI : (i : Int) < n := by omega
  have hwl : (wv (i, bs)).length = 65 := by simp [wv, h64]
  obtain ⟨pv, cv, rfl, hb0 | ⟨b, o, rfl, hbl, hbc⟩⟩ := id hb
  · rw [List.map_eq_nil_iff] at hb0
    rw [hb0] at h64
    cases h64
  have hbn : (bs.map (Value.int .u8)).length = 64 := by simp [h64]
  rw [hbn] at hb hbc ⊢
  have LBs : (loadCells ⟨b, o, none⟩ 64).run Tryd.prog w = .ok (bs.map (Value.int .u8)).toArray w := load_mid w b o _ 64 hbn hbc
  have hBW : ∀ w, (Instr.build 69 #[(0, .int .i64 (i : Int)), (1, .agg (bs.map (Value.int .u8)).toArray)]).run Tryd.prog w = .ok (.agg (wv (i, bs)).toArray) w := build_wri i bs h64
  have hAr := array_at ⟨b, o, none⟩ cv
  have hA := alloc_wri (.tuple #[])
  have hSl := slice_wri (wv (i, bs)) hwl
  have hSec := build_sec bs h64
  obtain ⟨w2, hS2, B2, _, LC, LC0, hhl, _⟩ := own_wri w (i, bs) h64
  have T2 := T.step B2
  have y2 := T2.c2
  have LW := load_mid w2.drew w.heap.size 0 (wv (i, bs)) 65 hwl (fun q hq => by rw [cell_heap rfl]; exact LC0 q hq)
  have TV := T2.step ((Below.refl _ w2).alloc (Nat.le_refl _) (.cells (wv (i, bs)).toArray 69))
  have y2b := TV.c2
  have TW := TV.step (Below.refl _ _).drew
  obtain ⟨i0, hi0, hz0, hz1, hz2⟩ := info_parts wri_info
  have hnewl := World.ownsRow_lit (base := w2.heap.size) (e := 69) (size := 65) w2 (wv (i, bs)).toArray 1 (Nat.le_refl _) (by decide) (by simp [hwl])
  obtain ⟨v', w4, hr, hown4, hgrow4, _, hat⟩ := run_append_own_at (P := Tryd.prog) (w2.alloc (.cells (wv (i, bs)).toArray 69)).drew w0.heap.size 52 52 69 i0 zwri 65 72 Tryd.underlying52 hi0 hz0 hz1 hz2 rfl (by decide) vw d.wr.length _ TW.rw ⟨w2.heap.size, 0, none⟩ 1 1 (wv (i, bs)) (by simp [hwl]) (fun q u hq => by rw [addr_mid, Nat.zero_add]; show (w2.alloc (.cells (wv (i, bs)).toArray 69)).cell? ⟨_, q, none⟩ = some u; rw [World.ownsRow.cellAt hnewl q (by have := (List.getElem?_eq_some_iff.1 hq).1; omega)]; exact hq) (wv_one _) (by unfold maxLen; omega) (by omega) TW.fam.below.size
  obtain ⟨p4, c4, rfl⟩ := row_slice hown4
  have hat' : ∀ k, (Value.slice p4 (d.wr.length + 1) c4).ownBlock = some k → vw.ownBlock = some k ∨ (w2.alloc (.cells (wv (i, bs)).toArray 69)).drew.heap.size ≤ k := fun k hk => by
    rcases hat with h | h
    · exact .inl (h.symm.trans hk)
    · rw [h] at hk
      exact .inr (by cases hk; exact Nat.le_refl _)
  have hown5 : w4.ownsRow w0.heap.size 69 65 (.slice p4 (d.wr.length + 1) c4) (d.wr ++ [(i, bs)]).length ((d.wr ++ [(i, bs)]).flatMap wv) := by
    rw [flat_app, List.length_append]
    exact hown4
  have F1 := TW.fam.put 3 rfl (r' := wriRow (.slice p4 (d.wr.length + 1) c4) (d.wr ++ [(i, bs)])) hgrow4 hown5 hat'
  have h1 : w4.ownsRow w0.heap.size 56 7 (.slice (some ⟨db, 0, none⟩) 1 1) 1 [vs, .slice (some ⟨gn, 0, none⟩) n cn, vw, .bool d.off, .int .i64 (d.left : Int), vk, .int .i64 d.torn] := F1.row 0 _ rfl
  have q2 : w4.cell? ⟨db, 2, none⟩ = some vw := World.ownsRow.cellAt h1 2 (by omega)
  have q3 := World.ownsRow.frozenAt h1 2
  have T5 := TW.setW hgrow4 hown5 hat' (fun x hx => by
    rcases List.mem_append.1 hx with hx | hx
    · exact T.ok.w64 x hx
    · rw [List.mem_singleton.1 hx]
      exact ⟨hi, h64⟩)
  have y2a := TW.c2
  have BB : Below w2.heap.size w2 (w2.alloc (.cells (wv (i, bs)).toArray 69)).drew := ((Below.refl _ w2).alloc (Nat.le_refl _) _).drew
  have K4 : Keeps (fun k => vw.ownBlock = some k ∨ k = db) w2 (w4.setCell ⟨db, 2, none⟩ (.slice p4 (d.wr.length + 1) c4)) := ((Keeps.of_below (F := fun k => vw.ownBlock = some k ∨ k = db) BB).trans (Keeps.of_grown (F := fun k => vw.ownBlock = some k ∨ k = db) hgrow4 (fun k hk => .inl hk)) (fun k _ h => h)).trans (setcell_keeps _ db 2 _) (fun k _ h => .inr h)
  have hdbl : db < w.heap.size := (row_base T.h rfl).2
  have hfar : ¬ (vw.ownBlock = some w.heap.size ∨ w.heap.size = db) := by
    rintro (h | h)
    · have := (row_base T.rw h).2
      omega
    · omega
  go_enter Tryd.func34, Tryd.ntmps34
  go_wp2_with (first
    | (go_at_call 39; refine (has_ok T _).mono ?_; rintro ev w1 ⟨rfl, rfl⟩))
  go_region
  simp only [Exit.then]
  go_wp2_with (go_at_call 44; refine (trips_yes T5 hoff hl).mono ?_; rintro ev w5 ⟨rfl, T7⟩)
  go_ret
  exact ⟨by simp, _, _, T7⟩
end
end Go.Proofs.YtafpfiadapabaaaDoor
