/-
  DISKCHOICE: the walk. Own work.
-/
import Derived.Test.YtgcndphocpedjaaDKk
namespace Go.Proofs.Ytgcndphocpedjaa
open Go.ChangeShapes Go.WideShapes Go.ChangeAt Go.RowKit Go.Maps Go.Deep
set_option maxRecDepth 100000
attribute [local go_sem ↓] Go.wp_at_zero Go.wp_at_succ
theorem rdv_nil (w : World) : RdV w (.slice none 0 0) [] := ⟨none, 0, rfl, .inl rfl⟩
theorem Dsk.dbl {w0 w : World} {db n : Nat} {d : Dk} {vs vn vw vk : Value} {R : List RowD} (T : Dsk w0 w db n d vs vn vw vk R) : w0.heap.size ≤ db := (row_base T.h rfl).1
theorem off_is {w0 w : World} {db n : Nat} {d : Dk} {vs vn vw vk : Value} {R : List RowD} (T : Dsk w0 w db n d vs vn vw vk R) (b : Bool) (h : d.off = b) : Calls Try.prog 21 #[.pointer (some ⟨db, 0, none⟩)] w fun e w' => e = .returned (.bool b) ∧ w' = w := by
  subst h
  exact off_ok T
theorem rdv_cell {w : World} {b o n c t : Nat} {cs : List Value} (h : RdV w (.slice (some ⟨b, o, none⟩) n c) cs) (ht : t < cs.length) : w.cell? ⟨b, o + t, none⟩ = cs[t]? := by
  obtain ⟨b', o', e, _, hc⟩ := rdv_nth h ht
  cases e
  exact hc
theorem Dsk.setRn {w0 w : World} {db n m : Nat} {d : Dk} {vs vn vw vk : Value} {g c : Nat} {l : List Int} {R : List RowD} (T : Dsk w0 w db n d vs vn vw vk (intRow (.slice (some ⟨g, 0, none⟩) m c) l :: R)) (hl : l.length = m) (j : Nat) (x : Int) : Dsk w0 (w.setCell ⟨g, j, none⟩ (.int .i64 x)) db n d vs vn vw vk (intRow (.slice (some ⟨g, 0, none⟩) m c) (l.set j x) :: R) := by
  subst hl
  exact T.setR j x
theorem Dsk.rowR {w0 w : World} {db n m : Nat} {d : Dk} {vs vn vw vk : Value} {g c : Nat} {l : List Int} {R : List RowD} (T : Dsk w0 w db n d vs vn vw vk (intRow (.slice (some ⟨g, 0, none⟩) m c) l :: R)) (hl : l.length = m) : w.ownsRow w0.heap.size 3 1 (.slice (some ⟨g, 0, none⟩) m c) m (l.map (Value.int .i64)) := by
  subst hl
  exact T.fam.row 5 _ rfl
theorem read_first {w0 w : World} {db n : Nat} {d : Dk} {vs vn vw vk : Value} {R : List RowD} (T : Dsk w0 w db n d vs vn vw vk R) (i : Nat) (s : Sec) (hs : d.now[i]? = some s) (hoff : d.off = false) (ht : s.2 = false) (z : Int) (hz : s.1[0]? = some z) : Calls Try.prog 19 #[.pointer (some ⟨db, 0, none⟩), .int .i64 (i : Int)] w fun e w' => ∃ g c, e = .returned (.tuple #[.slice (some ⟨g, 0, none⟩) 64 c, .int .i64 0]) ∧ w'.cell? ⟨g, 0, none⟩ = some (.int .u8 z) ∧ Dsk w0 w' db n d vs vn vw vk (R ++ [byteRow (.slice (some ⟨g, 0, none⟩) 64 c) s.1]) := by
  refine (read_ok T i s hs hoff ht).mono ?_
  rintro e w' ⟨v, rfl, T1, r1⟩
  have h64 := T.ok.n64 s (List.mem_of_getElem? hs)
  rw [h64] at r1
  obtain ⟨p, c, rfl⟩ := row_slice r1
  obtain ⟨g, rfl, _, _, _, hc⟩ := row_open r1 (by omega)
  exact ⟨g, c, rfl, by rw [hc 0 (by omega), List.getElem?_map, hz]; rfl, T1⟩
theorem want_made (w : World) : (Instr.makeSlice 49 (.int .i64 4) (.int .i64 4)).run Try.prog w = .ok (.slice (some ⟨w.heap.size, 0, none⟩) 4 4) (w.alloc (.cells #[.int .i64 0, .int .i64 0, .int .i64 0, .int .i64 0] 3)) := by
  obtain ⟨i0, hi, hz0, hz1, hz2⟩ := info_parts (P := Try.prog) (e := 3) (z := .int .i64 0) (size := 1) (bytes := 8) (by kernel_rfl)
  have h := make_row 4 Try.underlying49 hi hz0 hz1 hz2 (by omega) (by omega) w
  have e : madeCells (Value.int .i64 0).cells (4 * 1) = #[.int .i64 0, .int .i64 0, .int .i64 0, .int .i64 0] := Array.ext' (toList_madeCells_one _ _)
  rw [e] at h
  exact h
set_option maxHeartbeats 8000000 in
theorem choice_low (t : Int) (v1 v2 : Value) (xs : List Int) (ks : List Bool) (w : World) (H1 : RdV w v1 (xs.map (Value.int .i64))) (H2 : RdV w v2 (ks.map Value.bool)) : Calls Try.prog 5 #[v1, v2, .int .i64 t] w fun e w' => e = .returned (.bool true) ∧ Below w.heap.size w w' := by
  obtain ⟨p1, c1, rfl, _⟩ := id H1
  obtain ⟨p2, c2, rfl, _⟩ := id H2
  simp only [List.length_map] at H1 H2 ⊢
  have hm := want_made
  go_enter Try.func5, Try.ntmps5
  go_wp2_with (first
    | (go_at_call 8; refine (new_ok 4 (by omega) (by omega) w).mono ?_; rintro ev w1 ⟨db, vs, vn, rfl, T0⟩
       have T1 : Dsk w _ db 4 (Dk.fresh 4) vs vn (.slice none 0 0) (.slice none 0 0) [intRow (.slice (some ⟨w1.heap.size, 0, none⟩) 4 4) [0, 0, 0, 0]] := ⟨T0.fam.add (r := intRow (.slice (some ⟨w1.heap.size, 0, none⟩) 4 4) [0, 0, 0, 0]) ((Below.refl _ w1).alloc (Nat.le_refl _) _) (World.ownsRow_lit (base := w1.heap.size) (e := 3) (size := 1) w1 #[.int .i64 0, .int .i64 0, .int .i64 0, .int .i64 0] 4 (Nat.le_refl _) (by decide) rfl), T0.ok⟩
       clear T0))
  all_goals first
    | (go_ret; exact ⟨by simp, Below.refl _ _⟩)
    | skip
  have hl40 : xs.length ≤ 40 := by omega
  have hk60 : ks.length ≤ 60 := by omega
  generalize w1.heap.size = wb at *
  go_loopw [10] (fun i wq => ∃ (j : Nat) (d : Dk) (vs vn vw vk : Value) (want : List Int), i = .int .i64 j ∧ j ≤ xs.length ∧ Dsk w wq db 4 d vs vn vw vk [intRow (.slice (some ⟨wb, 0, none⟩) 4 4) want] ∧ d.off = false ∧ d.left = 0 ∧ d.wr.length = j ∧ Rel want (crs ks t d.wr d.safe d.wr.length)) (fun i _ => xs.length - (intOf i).toNat)
  case atStart => exact ⟨0, _, _, _, _, _, [0, 0, 0, 0], rfl, by omega, T1, rfl, rfl, rfl, Rel.start⟩
  case round =>
    clear T1
    obtain ⟨j, d, vs, vn, vw, vk, want, rfl, hj, T, hoff, hleft, rfl, HR⟩ := hrel
    by_cases hlt : d.wr.length < xs.length
    · have hjI : (d.wr.length : Int) < xs.length := by omega
      obtain ⟨b, o, rfl, _, hbc⟩ := rdv_nth (H1.below T.fam.below) (t := d.wr.length) (by simpa using hlt)
      rw [List.getElem?_map, List.getElem?_eq_getElem hlt, Option.map_some] at hbc
      generalize xs[d.wr.length] = x at hbc
      obtain ⟨i, hi4, hie⟩ := conv4 x
      have hbi := byte_in d.wr.length (by omega)
      have hi4I : (i : Int) < 4 := by omega
      have hl1 : d.left ≠ 1 := by omega
      have hlm : d.left < 9223372036854775808 := by omega
      have HLM := (show Hid (d.left < 9223372036854775808) from hlm)
      clear hlm
      obtain ⟨m0, s0, hm0, hs0, hms0⟩ := HR.all i hi4
      by_cases ht : (d.wr.length : Int) = t
      · subst ht
        go_wp2_with (first
            | (go_at_call 13; have t1 := T; clear t1; refine (sector_ok (bs := [(d.wr.length : Int) + 1]) (rdv_row (World.ownsRow_lit (base := wr.heap.size) (e := 5) (size := 1) wr #[.int .u8 ((d.wr.length : Int) + 1)] 1 (Nat.le_refl _) (by decide) rfl)) (by simp)).mono ?_; rintro ev w4 ⟨g4, rfl, r4, B4⟩; have T4 := (T.step ((Below.refl _ wr).alloc (Nat.le_refl _) _)).step B4; clear T)
            | (go_at_call 14; refine (write_ok T4 hoff hl1 HLM.out i hi4 (rdv_row r4) (pad_len _) (by omega)).mono ?_; rintro ev w5 ⟨rfl, vw5, vk5, T5⟩; clear T4 r4
               have y0 := T5.rowR HR.lw
               have y1 : w5.cell? ⟨wb, i, none⟩ = some (.int .i64 m0) := by rw [World.ownsRow.cellAt y0 i (by omega), List.getElem?_map, hm0]; rfl
               have z1 := World.ownsRow.frozenAt y0 i
               clear y0))
        have T6 := T5.setRn HR.lw i (-1)
        exact ⟨⟨d.wr.length + 1, _, _, _, _, _, want.set i (-1), by simp, by omega, T6, hoff, by simp [hleft], by simp, HR.torn hi4 _ rfl⟩, by simp [intOf]; omega⟩
      · by_cases hk : d.wr.length < ks.length
        · have hkI : (d.wr.length : Int) < ks.length := by omega
          obtain ⟨b2, o2, rfl, _, _⟩ := rdv_nth (H2.below T.fam.below) (t := d.wr.length) (by simpa using hk)
          have hgd : ks.getD d.wr.length false = ks[d.wr.length] := by rw [List.getD_eq_getElem?_getD, List.getElem?_eq_getElem hk]; rfl
          have hgm : (ks.map Value.bool)[d.wr.length]? = some (.bool ks[d.wr.length]) := by rw [List.getElem?_map, List.getElem?_eq_getElem hk]; rfl
          generalize ks[d.wr.length] = kb at hgd hgm
          cases kb with
          | true =>
            go_wp2_with (first
            | (go_at_call 13; have t1 := T; clear t1; refine (sector_ok (bs := [(d.wr.length : Int) + 1]) (rdv_row (World.ownsRow_lit (base := wr.heap.size) (e := 5) (size := 1) wr #[.int .u8 ((d.wr.length : Int) + 1)] 1 (Nat.le_refl _) (by decide) rfl)) (by simp)).mono ?_; rintro ev w4 ⟨g4, rfl, r4, B4⟩; have T4 := (T.step ((Below.refl _ wr).alloc (Nat.le_refl _) _)).step B4; clear T)
            | (go_at_call 14; refine (write_ok T4 hoff hl1 HLM.out i hi4 (rdv_row r4) (pad_len _) (by omega)).mono ?_; rintro ev w5 ⟨rfl, vw5, vk5, T5⟩; clear T4 r4
               have y0 := T5.rowR HR.lw
               have y1 : w5.cell? ⟨wb, i, none⟩ = some (.int .i64 m0) := by rw [World.ownsRow.cellAt y0 i (by omega), List.getElem?_map, hm0]; rfl
               have z1 := World.ownsRow.frozenAt y0 i
               have x5 : w5.cell? ⟨b2, o2 + d.wr.length, none⟩ = some (.bool true) := (rdv_cell (H2.below T5.fam.below) (by simpa using hk)).trans hgm
               clear y0))
            have T6 := T5.setRn HR.lw i ((d.wr.length : Int) + 1)
            exact ⟨⟨d.wr.length + 1, _, _, _, _, _, want.set i ((d.wr.length : Int) + 1), by simp, by omega, T6, hoff, by simp [hleft], by simp, HR.kept hi4 _ ht hgd (by omega) rfl⟩, by simp [intOf]; omega⟩
          | false =>
            go_wp2_with (first
            | (go_at_call 13; have t1 := T; clear t1; refine (sector_ok (bs := [(d.wr.length : Int) + 1]) (rdv_row (World.ownsRow_lit (base := wr.heap.size) (e := 5) (size := 1) wr #[.int .u8 ((d.wr.length : Int) + 1)] 1 (Nat.le_refl _) (by decide) rfl)) (by simp)).mono ?_; rintro ev w4 ⟨g4, rfl, r4, B4⟩; have T4 := (T.step ((Below.refl _ wr).alloc (Nat.le_refl _) _)).step B4; clear T)
            | (go_at_call 14; refine (write_ok T4 hoff hl1 HLM.out i hi4 (rdv_row r4) (pad_len _) (by omega)).mono ?_; rintro ev w5 ⟨rfl, vw5, vk5, T5⟩; clear T4 r4
               have x5 : w5.cell? ⟨b2, o2 + d.wr.length, none⟩ = some (.bool false) := (rdv_cell (H2.below T5.fam.below) (by simpa using hk)).trans hgm))
            exact ⟨⟨d.wr.length + 1, _, _, _, _, _, want, by simp, by omega, T5, hoff, by simp [hleft], by simp, HR.lost i _ ht hgd⟩, by simp [intOf]; omega⟩
        · have hkI : ¬ (d.wr.length : Int) < ks.length := by omega
          have hgd : ks.getD d.wr.length false = false := by rw [List.getD_eq_getElem?_getD, List.getElem?_eq_none (by omega)]; rfl
          go_wp2_with (first
            | (go_at_call 13; have t1 := T; clear t1; refine (sector_ok (bs := [(d.wr.length : Int) + 1]) (rdv_row (World.ownsRow_lit (base := wr.heap.size) (e := 5) (size := 1) wr #[.int .u8 ((d.wr.length : Int) + 1)] 1 (Nat.le_refl _) (by decide) rfl)) (by simp)).mono ?_; rintro ev w4 ⟨g4, rfl, r4, B4⟩; have T4 := (T.step ((Below.refl _ wr).alloc (Nat.le_refl _) _)).step B4; clear T)
            | (go_at_call 14; refine (write_ok T4 hoff hl1 HLM.out i hi4 (rdv_row r4) (pad_len _) (by omega)).mono ?_; rintro ev w5 ⟨rfl, vw5, vk5, T5⟩; clear T4 r4))
          exact ⟨⟨d.wr.length + 1, _, _, _, _, _, want, by simp, by omega, T5, hoff, by simp [hleft], by simp, HR.lost i _ ht hgd⟩, by simp [intOf]; omega⟩
    · obtain e : d.wr.length = xs.length := by omega
      have HR2 := (show Hid _ from HR)
      go_wp2_with (first
        | (go_at_call 16; refine (crash_on T hoff t (H2.below T.fam.below) (fun h0 k hk he => by have h1 := H2.lt h0 hk; have h2 : vs.ownBlock = some k → w.heap.size ≤ k := fun h => (row_base (T.fam.row 1 _ rfl) h).1; have := h2 he; omega)).mono ?_; rintro ev w5 ⟨rfl, T5⟩; clear T)
        | (go_at_call 19; have t1 := T5; clear t1; refine (read_off T5 0 rfl).mono ?_; rintro ev w6 ⟨rfl, rfl⟩)
        | (go_at_call 21; refine (off_is T5 true rfl).mono ?_; rintro ev w6 ⟨rfl, rfl⟩)
        | (go_at_call 17; refine (start_ok T5).mono ?_; rintro ev w9 ⟨rfl, T9⟩; clear T5))
      have hs0 : ∀ (p : Nat), (⟨crs ks t d.wr d.safe d.wr.length, crs ks t d.wr d.safe d.wr.length, [], false, 0, [], 0⟩ : Dk).now[p]? = (crs ks t d.wr d.safe d.wr.length)[p]? := fun _ => rfl
      generalize crs ks t d.wr d.safe d.wr.length = S at *
      clear HR
      go_loopw [12] (fun i wq => ∃ (q : Nat) (d' : Dk) (vs vn vw vk : Value), i = .int .i64 q ∧ q ≤ 4 ∧ Dsk w wq db 4 d' vs vn vw vk [intRow (.slice (some ⟨wb, 0, none⟩) 4 4) want] ∧ d'.off = false ∧ d'.left = 0 ∧ d'.wr.length ≤ q ∧ (∀ p, q ≤ p → d'.now[p]? = S[p]?)) (fun i _ => 4 - (intOf i).toNat)
      case atStart => exact ⟨0, _, _, _, _, _, rfl, by omega, T9, rfl, rfl, by simp, fun p _ => hs0 p⟩
      case round =>
        clear T9 hs0
        obtain ⟨q, d', vs, vn, vw, vk, rfl, hq, T, hoff', hleft', hwr, hnow⟩ := hrel
        by_cases hlt : q < 4
        · have hqI : (q : Int) < 4 := by omega
          obtain ⟨m, sq, hm, hsq, hms⟩ := HR2.out.all q hlt
          have hnq : d'.now[q]? = some sq := (hnow q (Nat.le_refl _)).trans hsq
          have HNow := (show Hid _ from hnow)
          have HNQ := (show Hid _ from hnq)
          clear hnow hnq
          rcases hms with ⟨hm0, hs2⟩ | ⟨hm0, hm1, hs2, hs1⟩
          · have y0 := T.rowR HR2.out.lw
            have y1 : wr.cell? ⟨wb, q, none⟩ = some (.int .i64 m) := by rw [World.ownsRow.cellAt y0 q (by omega), List.getElem?_map, hm]; rfl
            clear y0
            have hl1 : d'.left ≠ 1 := by omega
            have hlm : d'.left < 9223372036854775808 := by omega
            have HLM := (show Hid (d'.left < 9223372036854775808) from hlm)
            clear hlm
            go_wp2_with (first
              | (go_at_call 19; have t1 := T; clear t1; refine (read_torn T q sq HNQ.out hoff' hs2).mono ?_; rintro ev w6 ⟨rfl, rfl⟩)
              | (go_at_call 13; refine (sector_ok (bs := []) (rdv_nil _) (by decide)).mono ?_; rintro ev w7 ⟨g7, rfl, r7, B7⟩; have T7 := T.step B7; clear T)
              | (go_at_call 14; refine (write_ok T7 hoff' hl1 HLM.out q hlt (rdv_row r7) (pad_len _) (by omega)).mono ?_; rintro ev w8 ⟨rfl, vw8, vk8, T8⟩; clear T7 r7)
              | (go_at_call 19; refine (read_first T8 q (pad [], false) (by simp only; rw [List.getElem?_set_self (by rw [show d'.now.length = 4 from T8.ok.ln ▸ by simp]; exact hlt)]) hoff' rfl 0 rfl).mono ?_; rintro ev w9 ⟨g9, c9, rfl, x9, T9⟩; clear T8))
            refine ⟨⟨q + 1, _, _, _, _, _, by simp, by omega, T9.init, hoff', by simp [hleft'], by simp; omega, fun p hp => ?_⟩, by simp [intOf]; omega⟩
            simp only
            rw [List.getElem?_set_ne (by omega)]
            exact HNow.out p (by omega)
          · have hw64 : IntKind.i64.wrap m = m := IntWalk.i64_in _ (by omega)
            go_wp2_with (go_at_call 19; refine (read_first T q sq HNQ.out hoff' hs2 m hs1).mono ?_; rintro ev w9 ⟨g9, c9, rfl, x9, T9⟩
                         have y0 := T9.rowR HR2.out.lw
                         have y1 : w9.cell? ⟨wb, q, none⟩ = some (.int .i64 m) := by rw [World.ownsRow.cellAt y0 q (by omega), List.getElem?_map, hm]; rfl
                         clear y0)
            go_region
            all_goals simp only [Exit.then]
            all_goals go_wp2
            all_goals exact ⟨⟨q + 1, _, _, _, _, _, by simp, by omega, (T9.init).step (by first | exact Below.refl _ _ | exact (Below.refl _ _).drew | exact below_drewN (Below.refl _ _) _), hoff', hleft', by omega, fun p hp => HNow.out p (by omega)⟩, by simp [intOf]; omega⟩
        · obtain rfl : q = 4 := by omega
          go_wp2_with (go_at_call 10; refine (wakes13_ok _).mono ?_; rintro ev w10 ⟨rfl, B10⟩)
          go_ret
          exact ⟨by simp, T.fam.below.trans (B10.mono T.fam.below.size)⟩
end Go.Proofs.Ytgcndphocpedjaa
