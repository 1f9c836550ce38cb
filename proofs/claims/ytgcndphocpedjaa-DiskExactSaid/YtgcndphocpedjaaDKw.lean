/-
  THE PAGE's DISK: Trip, Write. Own work.
-/
import Derived.Test.YtgcndphocpedjaaDKv
namespace Go.Proofs.Ytgcndphocpedjaa
open Go.ChangeShapes Go.WideShapes Go.ChangeAt Go.RowKit Go.Maps Go.Deep
set_option maxRecDepth 100000
attribute [local go_sem ↓] Go.wp_at_zero Go.wp_at_succ
section
variable {w0 w w' : World} {pb n : Nat} {d : Dk} {A : PA} {Q Mb : List RowD}
theorem Pg.tripped (T : Pg w0 w pb n d A Q Mb) {v' : Value} {l : List Bool} (hB : Below w.heap.size w w') (hr : w'.ownsRow w0.heap.size 4 1 v' l.length (l.map Value.bool)) (hat : ∀ k, v'.ownBlock = some k → w.heap.size ≤ k) (m : Nat) (t : Int) : Pg w0 (((w'.setCell ⟨pb, 4, none⟩ (.int .i64 (m : Int))).setCell ⟨pb, 5, none⟩ v').setCell ⟨pb, 6, none⟩ (.int .i64 t)) pb n { d with left := m } { A with uk := v', pk := l, pt := t } Q Mb := by
  have F1 := T.fam.put 4 rfl (r' := boolRow v' l) (w' := w') ⟨hB.os, hB.tape, hB.output, hB.size, fun k hk _ => hB.block k hk⟩ hr (fun k hk => .inr (hat k hk))
  have h1 : w'.ownsRow w0.heap.size 60 7 (.slice (some ⟨pb, 0, none⟩) 1 1) 1 [A.us, A.ut, A.uw, .bool d.off, .int .i64 (d.left : Int), A.uk, .int .i64 A.pt] := F1.row 0 _ rfl
  obtain ⟨r1, g1⟩ := World.ownsRow.stored h1 4 (.int .i64 (m : Int))
  obtain ⟨r2, g2⟩ := World.ownsRow.stored r1 5 v'
  obtain ⟨r3, g3⟩ := World.ownsRow.stored r2 6 (.int .i64 t)
  have F2 := F1.put 0 rfl (r' := ⟨60, 7, .slice (some ⟨pb, 0, none⟩) 1 1, 1, _⟩) g1 r1 (fun k hk => .inl hk)
  have F3 := F2.put 0 rfl (r' := ⟨60, 7, .slice (some ⟨pb, 0, none⟩) 1 1, 1, _⟩) g2 r2 (fun k hk => .inl hk)
  have F4 := F3.put 0 rfl (r' := ⟨60, 7, .slice (some ⟨pb, 0, none⟩) 1 1, 1, _⟩) g3 r3 (fun k hk => .inl hk)
  exact ⟨F4, ⟨T.ok.pos, T.ok.le, T.ok.ls, T.ok.ln, T.ok.s64, T.ok.n64, T.ok.w64⟩, T.ls, T.s, T.lw, T.w, T.sub⟩
set_option maxHeartbeats 4000000 in
theorem ptrip_ok (T : Pg w0 w pb n d A Q Mb) (i t : Int) {v : Value} {ks : List Bool} (hv : RdV w v (ks.map Value.bool)) (h4 : ks.length ≤ 1000) : Calls Try.prog 26 #[.pointer (some ⟨pb, 0, none⟩), .int .i64 i, v, .int .i64 t] w fun e w' => e = .returned (.tuple #[]) ∧ ∃ uk, Pg w0 w' pb n { d with left := i.toNat } { A with uk := uk, pk := ks, pt := t } Q Mb := by
  go_enter Try.func26, Try.ntmps26
  go_wp2_with (go_at_call 23; refine (twinL_ok hv (by simpa using h4) (one_map _ (fun _ => rfl) _)).mono ?_; rintro ev w4 ⟨v4, rfl, hr4, hB4⟩
               obtain ⟨p4, c4', rfl⟩ := row_slice hr4
               have T2 := T.step hB4
               have y4 := T2.c4
               have y5 := T2.c5
               have y6 := T2.c6
               have q4 := T2.z 4
               have q5 := T2.z 5
               have q6 := T2.z 6
               have T3 := T.tripped (v' := _) (l := ks) hB4 (row_lower (by simpa using hr4) T.fam.below.size) (fun k hk => (row_base hr4 hk).1) i.toNat t
               simp only [List.length_map] at T3
               clear hr4)
  · have e0 : i.toNat = 0 := by omega
    rw [e0] at T3 ⊢
    go_end0
    exact ⟨rfl, _, T3⟩
  · have e0 : ((i.toNat : Nat) : Int) = i := by omega
    rw [e0] at T3
    go_end0
    exact ⟨rfl, _, T3⟩
end
section
attribute [-go_sem] Go.Builtin.append_
variable {w0 w w' : World} {pb n : Nat} {d : Dk} {A : PA} {Q Mb : List RowD}
theorem wpr_info : (Try.prog.info? 72).map (fun i => (i.zero, i.size, i.bytes)) = some (some (.agg #[.int .i64 0, .slice none 0 0]), 2, 32) := by kernel_rfl
/-- One write more. -/
theorem Pg.more (T : Pg w0 w pb n d A Q Mb) {v' u : Value} {bs : List Int} {i : Nat} (hq : byteRow u bs ∈ Mb) (hi : i < n) (h64 : bs.length = 64) (hg : w.grownBy w' A.uw.ownBlock) (hr : w'.ownsRow w0.heap.size 72 2 v' (d.wr.length + 1) (A.wl.flatMap wpv ++ [.int .i64 (i : Int), u])) (hat : ∀ k, v'.ownBlock = some k → A.uw.ownBlock = some k ∨ w.heap.size ≤ k) : Pg w0 (w'.setCell ⟨pb, 2, none⟩ v') pb n { d with wr := d.wr ++ [(i, bs)] } { A with uw := v', wl := A.wl ++ [(i, u)] } Q Mb := by
  have e : (A.wl ++ [(i, u)]).flatMap wpv = A.wl.flatMap wpv ++ [.int .i64 (i : Int), u] := by simp [wpv]
  have F1 := T.fam.put 3 rfl (r' := ⟨72, 2, v', (A.wl ++ [(i, u)]).length, (A.wl ++ [(i, u)]).flatMap wpv⟩) hg (by
    show World.ownsRow _ _ _ 2 v' (A.wl ++ [(i, u)]).length _
    rw [e, List.length_append, T.lw]; exact hr) hat
  have h1 : w'.ownsRow w0.heap.size 60 7 (.slice (some ⟨pb, 0, none⟩) 1 1) 1 [A.us, A.ut, A.uw, .bool d.off, .int .i64 (d.left : Int), A.uk, .int .i64 A.pt] := F1.row 0 _ rfl
  obtain ⟨r1, g1⟩ := World.ownsRow.stored h1 2 v'
  have F2 := F1.put 0 rfl (r' := ⟨60, 7, .slice (some ⟨pb, 0, none⟩) 1 1, 1, _⟩) g1 r1 (fun k hk => .inl hk)
  refine ⟨F2, ⟨T.ok.pos, T.ok.le, T.ok.ls, T.ok.ln, T.ok.s64, T.ok.n64, fun x hx => ?_⟩, T.ls, T.s, by simp [T.lw], fun k x hx => ?_, T.sub⟩
  · rcases List.mem_append.1 hx with hx | hx
    · exact T.ok.w64 x hx
    · rw [List.mem_singleton.1 hx]
      exact ⟨hi, h64⟩
  · simp only at hx ⊢
    by_cases hk : k < d.wr.length
    · rw [List.getElem?_append_left hk] at hx
      obtain ⟨v, hv, hvq⟩ := T.w k x hx
      exact ⟨v, by rw [List.getElem?_append_left (by rw [T.lw]; exact hk)]; exact hv, hvq⟩
    · rw [List.getElem?_append_right (by omega)] at hx
      by_cases h0 : k - d.wr.length = 0
      · rw [h0] at hx
        simp at hx
        subst hx
        exact ⟨u, by rw [List.getElem?_append_right (by rw [T.lw]; omega), T.lw, h0]; rfl, hq⟩
      · rw [List.getElem?_eq_none (by simp; omega)] at hx
        cases hx
set_option maxHeartbeats 4000000 in
theorem pput (T : Pg w0 w pb n d A Q Mb) (i : Nat) (hi : i < n) {v : Value} {bs : List Int} (hb : RdV w v (bs.map (Value.int .u8))) (h64 : bs.length = 64) (hlen : d.wr.length ≤ 100000) (w4 : World) (hB : Below w.heap.size w w4) (p : Option Addr) (c : Nat) (hr : w4.ownsRow w.heap.size 5 1 (.slice p 64 c) 64 (bs.map (Value.int .u8))) : ∃ v' w5, (Builtin.append_ #[58, 58] 58 #[A.uw, .slice (some ⟨w4.heap.size, 0, none⟩) 1 1]).run Try.prog (w4.alloc (.cells #[.int .i64 (i : Int), .slice p 64 c] 72)) = .ok v' w5 ∧ (∃ p' c', v' = .slice p' (d.wr.length + 1) c') ∧ w5.cell? ⟨pb, 2, none⟩ = some A.uw ∧ w5.frozen? ⟨pb, 2, none⟩ = false ∧ Pg w0 (w5.setCell ⟨pb, 2, none⟩ v') pb n { d with wr := d.wr ++ [(i, bs)] } { A with uw := v', wl := A.wl ++ [(i, .slice p 64 c)] } (Q ++ [byteRow (.slice p 64 c) bs]) (Mb ++ [byteRow (.slice p 64 c) bs]) := by
  have F := T.fam.add (r := byteRow (.slice p 64 c) bs) hB (by show World.ownsRow _ _ _ 1 _ bs.length _; rw [h64]; exact hr)
  rw [List.append_assoc] at F
  have T4 : Pg w0 w4 pb n d A (Q ++ [byteRow (.slice p 64 c) bs]) (Mb ++ [byteRow (.slice p 64 c) bs]) := ⟨F, T.ok, T.ls, fun i y hy => (T.s i y hy).imp fun v h => ⟨h.1, List.mem_append_left _ h.2⟩, T.lw, fun k x hx => (T.w k x hx).imp fun v h => ⟨h.1, List.mem_append_left _ h.2⟩, fun r hr => by
    rcases List.mem_append.1 hr with h | h
    · exact List.mem_append_left _ (T.sub r h)
    · exact List.mem_append_right _ h⟩
  have T5 := T4.step ((Below.refl _ w4).alloc (Nat.le_refl _) (.cells #[.int .i64 (i : Int), .slice p 64 c] 72))
  obtain ⟨i0, hi0, hz0, hz1, hz2⟩ := info_parts wpr_info
  have hnewl := World.ownsRow_lit (base := w4.heap.size) (e := 72) (size := 2) w4 #[.int .i64 (i : Int), .slice p 64 c] 1 (Nat.le_refl _) (by decide) rfl
  obtain ⟨v', w5, hrun, hown, hgrow, _, hat⟩ := run_append_own_at (P := Try.prog) (w4.alloc (.cells #[.int .i64 (i : Int), .slice p 64 c] 72)) w0.heap.size 58 58 72 i0 (.agg #[.int .i64 0, .slice none 0 0]) 2 32 Try.underlying58 hi0 hz0 hz1 hz2 rfl (by decide) A.uw d.wr.length _ T5.rw ⟨w4.heap.size, 0, none⟩ 1 1 [.int .i64 (i : Int), .slice p 64 c] rfl (fun q u hq => by rw [addr_mid, Nat.zero_add, World.ownsRow.cellAt hnewl q (by have := (List.getElem?_eq_some_iff.1 hq).1; simp at this; omega)]; exact hq) (fun u hu => by simp at hu; rcases hu with rfl | rfl <;> rfl) (by unfold maxLen; omega) (by omega) T5.fam.below.size
  have hat' : ∀ k, v'.ownBlock = some k → A.uw.ownBlock = some k ∨ (w4.alloc (.cells #[.int .i64 (i : Int), .slice p 64 c] 72)).heap.size ≤ k := fun k hk => by
    rcases hat with h | h
    · exact .inl (h.symm.trans hk)
    · rw [h] at hk
      exact .inr (by cases hk; exact Nat.le_refl _)
  have F1 := T5.fam.put 3 rfl (r' := ⟨72, 2, v', d.wr.length + 1, _⟩) hgrow hown hat'
  have h1 : w5.ownsRow w0.heap.size 60 7 (.slice (some ⟨pb, 0, none⟩) 1 1) 1 [A.us, A.ut, A.uw, .bool d.off, .int .i64 (d.left : Int), A.uk, .int .i64 A.pt] := F1.row 0 _ rfl
  exact ⟨v', w5, hrun, row_slice hown, World.ownsRow.cellAt h1 2 (by omega), World.ownsRow.frozenAt h1 2, T5.more (List.mem_append_right _ (List.mem_singleton.2 rfl)) hi h64 hgrow hown hat'⟩
set_option maxHeartbeats 4000000 in
theorem pwrite_ok (T : Pg w0 w pb n d A Q Mb) (hoff : d.off = false) (hl : d.left ≠ 1) (hm : d.left < 9223372036854775808) (i : Nat) (hi : i < n) {v : Value} {bs : List Int} (hb : RdV w v (bs.map (Value.int .u8))) (h64 : bs.length = 64) (hlen : d.wr.length ≤ 100000) : Calls Try.prog 30 #[.pointer (some ⟨pb, 0, none⟩), .int .i64 (i : Int), v] w fun e w' => e = .returned (.int .i64 0) ∧ ∃ u uw wl, Pg w0 w' pb n { d with wr := d.wr ++ [(i, bs)], left := d.left - 1 } { A with uw := uw, wl := wl } (Q ++ [byteRow u bs]) (Mb ++ [byteRow u bs]) := by
  have c3 := T.c3
  rw [hoff] at c3
  have c0 := T.c0
  have c2 := T.c2
  obtain ⟨gs, cs, e1, _⟩ := T.rs
  rw [e1] at c0
  obtain ⟨p, c, rfl⟩ := rdv_shape hb
  have hbn : (bs.map (Value.int .u8)).length = 64 := by simp [h64]
  rw [hbn] at hb ⊢
  have hiI : (i : Int) < n := by omega
  have Td := T.step (Below.refl _ w).drew
  have hbd := hb.below (Below.refl _ w).drew
  go_enter Try.func30, Try.ntmps30
  go_wp2
  go_region_with (go_at_call 29; refine (twinB_ok hbd (by omega) (one_map _ (fun _ => rfl) _)).mono ?_; rintro ev w4 ⟨v4, rfl, hr4, hB4⟩
                  rw [hbn] at hr4
                  obtain ⟨p4, c4, rfl⟩ := row_slice hr4
                  obtain ⟨v5, w5, hrun, ⟨p5, c5, rfl⟩, y2, z2, T6⟩ := pput Td i hi hbd h64 hlen w4 hB4 p4 c4 hr4
                  have c2b := (Td.step hB4).c2
                  have c2c := ((Td.step hB4).step ((Below.refl _ w4).alloc (Nat.le_refl _) (.cells #[.int .i64 (i : Int), .slice p4 64 c4] 72))).c2)
  all_goals simp only [Exit.then]
  all_goals go_wp2_with (go_at_call 36; refine (ptrips_stay T6 hl hm).mono ?_; rintro ev w6 ⟨rfl, T7⟩)
  all_goals go_ret
  all_goals exact ⟨by simp, _, _, _, T7⟩
set_option maxHeartbeats 4000000 in
theorem pwrite_trip (T : Pg w0 w pb n d A Q Mb) (hoff : d.off = false) (hl : d.left = 1) (i : Nat) (hi : i < n) {v : Value} {bs : List Int} (hb : RdV w v (bs.map (Value.int .u8))) (h64 : bs.length = 64) (hlen : d.wr.length < 100000) : Calls Try.prog 30 #[.pointer (some ⟨pb, 0, none⟩), .int .i64 (i : Int), v] w fun e w' => e = .returned (.int .i64 9) ∧ ∃ u sl, Pg w0 w' pb n { d with safe := crs A.pk A.pt (d.wr ++ [(i, bs)]) d.safe (d.wr ++ [(i, bs)]).length, wr := [], off := true, left := 0 } { A with uw := .slice none 0 0, uk := .slice none 0 0, wl := [], pk := [], sl := sl } (Q ++ [byteRow u bs]) (Mb ++ [byteRow u bs]) := by
  have c3 := T.c3
  rw [hoff] at c3
  have c0 := T.c0
  have c2 := T.c2
  obtain ⟨gs, cs, e1, _⟩ := T.rs
  rw [e1] at c0
  obtain ⟨p, c, rfl⟩ := rdv_shape hb
  have hbn : (bs.map (Value.int .u8)).length = 64 := by simp [h64]
  rw [hbn] at hb ⊢
  have hiI : (i : Int) < n := by omega
  have Td := T.step (Below.refl _ w).drew
  have hbd := hb.below (Below.refl _ w).drew
  go_enter Try.func30, Try.ntmps30
  go_wp2
  go_region_with (go_at_call 29; refine (twinB_ok hbd (by omega) (one_map _ (fun _ => rfl) _)).mono ?_; rintro ev w4 ⟨v4, rfl, hr4, hB4⟩
                  rw [hbn] at hr4
                  obtain ⟨p4, c4, rfl⟩ := row_slice hr4
                  obtain ⟨v5, w5, hrun, ⟨p5, c5, rfl⟩, y2, z2, T6⟩ := pput Td i hi hbd h64 (by omega) w4 hB4 p4 c4 hr4
                  have c2b := (Td.step hB4).c2
                  have c2c := ((Td.step hB4).step ((Below.refl _ w4).alloc (Nat.le_refl _) (.cells #[.int .i64 (i : Int), .slice p4 64 c4] 72))).c2)
  all_goals simp only [Exit.then]
  all_goals go_wp2_with (go_at_call 36; refine (ptrips_yes T6 hoff hl (by simp; omega)).mono ?_; rintro ev w6 ⟨rfl, sl, T7⟩)
  all_goals go_ret
  all_goals exact ⟨by simp, _, sl, T7⟩
theorem pwrite_off (T : Pg w0 w pb n d A Q Mb) (hoff : d.off = true) (i : Int) (v : Value) : Calls Try.prog 30 #[.pointer (some ⟨pb, 0, none⟩), .int .i64 i, v] w fun e w' => e = .returned (.int .i64 9) ∧ w' = w := by
  have c3 := T.c3
  rw [hoff] at c3
  go_enter Try.func30, Try.ntmps30
  go_wp2
  go_ret
  simp
theorem pwrite_arg (T : Pg w0 w pb n d A Q Mb) (hoff : d.off = false) (i : Int) (hi : ¬ (0 ≤ i ∧ i < n)) (v : Value) : Calls Try.prog 30 #[.pointer (some ⟨pb, 0, none⟩), .int .i64 i, v] w fun e w' => e = .returned (.int .i64 1) ∧ w' = w := by
  have c3 := T.c3
  rw [hoff] at c3
  have c0 := T.c0
  obtain ⟨gs, cs, e1, _⟩ := T.rs
  rw [e1] at c0
  by_cases h0 : i < 0
  · go_enter Try.func30, Try.ntmps30
    go_wp2
    go_ret
    simp
  · have h1 : (n : Int) ≤ i := by omega
    go_enter Try.func30, Try.ntmps30
    go_wp2
    go_ret
    simp
theorem pwrite_len (T : Pg w0 w pb n d A Q Mb) (hoff : d.off = false) (i : Int) (hi : 0 ≤ i ∧ i < n) (p : Option Addr) (l c : Nat) (hl : l ≠ 64) : Calls Try.prog 30 #[.pointer (some ⟨pb, 0, none⟩), .int .i64 i, .slice p l c] w fun e w' => e = .returned (.int .i64 2) ∧ w' = w := by
  have c3 := T.c3
  rw [hoff] at c3
  have c0 := T.c0
  obtain ⟨gs, cs, e1, _⟩ := T.rs
  rw [e1] at c0
  obtain ⟨h0, h1⟩ := hi
  have hl' : ¬ (l : Int) = 64 := by omega
  go_enter Try.func30, Try.ntmps30
  go_wp2
  go_ret
  simp
theorem psync_off (T : Pg w0 w pb n d A Q Mb) (hoff : d.off = true) : Calls Try.prog 22 #[.pointer (some ⟨pb, 0, none⟩)] w fun e w' => e = .returned (.int .i64 9) ∧ w' = w := by
  have c3 := T.c3
  rw [hoff] at c3
  go_enter Try.func22, Try.ntmps22
  go_wp2
  go_ret
  simp
theorem psync_trip (T : Pg w0 w pb n d A Q Mb) (hoff : d.off = false) (hl : d.left = 1) (hlen : d.wr.length ≤ 100000) : Calls Try.prog 22 #[.pointer (some ⟨pb, 0, none⟩)] w fun e w' => e = .returned (.int .i64 9) ∧ ∃ sl, Pg w0 w' pb n { d with safe := crs A.pk A.pt d.wr d.safe d.wr.length, wr := [], off := true, left := 0 } { A with uw := .slice none 0 0, uk := .slice none 0 0, wl := [], pk := [], sl := sl } Q Mb := by
  have c3 := T.c3
  rw [hoff] at c3
  go_enter Try.func22, Try.ntmps22
  go_wp2_with (go_at_call 36; refine (ptrips_yes T hoff hl hlen).mono ?_; rintro ev w5 ⟨rfl, sl, T7⟩)
  go_ret
  exact ⟨by simp, sl, T7⟩
end
end Go.Proofs.Ytgcndphocpedjaa
