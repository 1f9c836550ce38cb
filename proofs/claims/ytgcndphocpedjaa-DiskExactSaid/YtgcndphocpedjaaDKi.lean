/-
  DISK: what comes in; Sector; wakes. Own work.
-/
import Derived.Test.YtgcndphocpedjaaDKh
import Derived.Deep.Grids
namespace Go.Proofs.Ytgcndphocpedjaa
open Go.ChangeShapes Go.WideShapes Go.ChangeAt Go.RowKit Go.Maps Go.Deep
set_option maxRecDepth 100000
attribute [local go_sem ↓] Go.wp_at_zero Go.wp_at_succ
theorem open_flags {H : Type} {enc : TypeId × Value → H} {w : World} {base : Nat} {held : Bool} {r : Reach} {b0 : Nat} {v : Value} {d : DataW H} {ps : List MemPlace} (hval : Value.okWide Try.prog w r b0 33 v) (h : DataW.Trod enc Try.prog w base (fun _ => true) held 33 v d ps) : ∃ hs : List Bool, RdV w v (hs.map Value.bool) := by
  obtain ⟨fuel, hf⟩ := h
  obtain ⟨a0, len0, cap0, rfl⟩ := okWide_slice Try.underlying33 hval
  rcases open_bools Try.underlying33 Try.underlying4 (by kernel_rfl) hf with ⟨hcs, _⟩ | ⟨a, len, cap, B, hcs, _, hl, hm, _, hcell⟩
  · cases hcs
    exact ⟨[], ⟨none, 0, rfl, .inl rfl⟩⟩
  · cases hcs
    have hlen : ((List.range len0).map B).length = len0 := by simp
    by_cases h0 : len0 = 0
    · subst h0
      exact ⟨[], ⟨_, cap0, rfl, .inl rfl⟩⟩
    · obtain ⟨b, off, spot⟩ := a
      have hc0 := hcell 0 (by omega)
      have hspot : spot = none := by simpa [Addr.add] using World.cell?_spot hc0
      subst hspot
      have hb : b < w.heap.size := by
        have := World.block_lt_of_cell? w _ hc0
        simpa [Addr.add] using this
      refine ⟨(List.range len0).map B, ⟨some ⟨b, off, none⟩, cap0, by simp, .inr ⟨b, off, rfl, hb, fun t ht => ?_⟩⟩⟩
      have ht' : t < len0 := by simpa using ht
      have h1 := hcell t (by omega)
      rw [addr_mid] at h1
      rw [h1, List.getElem?_map, List.getElem?_map, List.getElem?_range ht']
      rfl
def pad (bs : List Int) : List Int := bs.take 64 ++ List.replicate (64 - bs.length) 0
theorem pad_len (bs : List Int) : (pad bs).length = 64 := by simp [pad]; omega
def z64 : Array Value := (List.replicate 64 (Value.int .u8 0)).toArray
theorem byte_make (w : World) : (Instr.makeSlice 32 (.int .i64 64) (.int .i64 64)).run Try.prog w = .ok (.slice (some ⟨w.heap.size, 0, none⟩) 64 64) (w.alloc (.cells z64 5)) := by
  obtain ⟨i0, hi, hz0, hz1, hz2⟩ := info_parts (P := Try.prog) (e := 5) (z := .int .u8 0) (size := 1) (bytes := 1) (by kernel_rfl)
  have h := make_row 64 Try.underlying32 hi hz0 hz1 hz2 (by omega) (by omega) w
  have e : madeCells (Value.int .u8 0).cells (64 * 1) = (List.replicate 64 (Value.int .u8 0)).toArray := by
    apply Array.ext'
    exact toList_madeCells_one _ _
  rw [e] at h
  exact h
theorem splice_pad (n : Nat) (xs : List Value) (z : Value) : splice (List.replicate n z) 0 (xs.take n) = xs.take n ++ List.replicate (n - xs.length) z := by
  simp [splice, List.drop_replicate]
  omega
theorem pad_cells (bs : List Int) : (pad bs).map (Value.int .u8) = (bs.map (Value.int .u8)).take 64 ++ List.replicate (64 - (bs.map (Value.int .u8)).length) (Value.int .u8 0) := by
  rw [pad, List.map_append, List.map_replicate, List.map_take, List.length_map]
set_option maxHeartbeats 4000000 in
theorem sector_ok {w : World} {v : Value} {bs : List Int} (hv : RdV w v (bs.map (Value.int .u8))) (hl : bs.length ≤ 100000) : Calls Try.prog 13 #[v] w fun e w' => ∃ g, e = .returned (.slice (some ⟨g, 0, none⟩) 64 64) ∧ w'.ownsRow w.heap.size 5 1 (.slice (some ⟨g, 0, none⟩) 64 64) 64 ((pad bs).map (Value.int .u8)) ∧ Below w.heap.size w w' := by
  have hm := byte_make
  have hsz : (Try.prog.info? 5).map (·.size) = some 1 := by kernel_rfl
  have hn0 := heap_alloc_new w (.cells z64 5)
  have B1 := (Below.refl w.heap.size w).alloc (Nat.le_refl _) (.cells z64 5)
  have hv1 := hv.below B1
  obtain ⟨p, c, rfl, _⟩ := id hv
  simp only [List.length_map] at hv hv1 ⊢
  go_enter Try.func13, Try.ntmps13
  go_wp2_with (refine wpList_copy_splice rfl (.tmp 5) (.tmp 6) 32 32 rfl 5 Try.underlying32 hsz (some ⟨w.heap.size, 0, none⟩) p 64 64 bs.length c rfl rfl w.heap.size 0 (List.replicate 64 (Value.int .u8 0)) 5 hn0 ((bs.map (Value.int .u8)).take 64) (by simp [Nat.min_comm]) (fun hp => ⟨rfl, by
    have hb0 : 0 < bs.length := by simp at hp; omega
    obtain ⟨b, o, rfl, _, _⟩ := rdv_nth hv1 (t := 0) (by simpa using hb0)
    exact ⟨_, rfl, fun j u hj => rdv_news hv1 j u (by rw [List.getElem?_take] at hj; split at hj; exact hj; cases hj)⟩⟩) (by simp; omega) (fun u hu => one_map (Value.int .u8) (fun _ => rfl) bs u (List.mem_of_mem_take hu)) w.heap.size w B1 (Nat.le_refl _) ?_; intro w4 hg4 hb4)
  go_ret
  have hg5 := hg4.out
  rw [splice_pad, ← pad_cells] at hg5
  exact ⟨w.heap.size, by simp, ⟨by simp [pad_len], .inr ⟨w.heap.size, 64, _, rfl, Nat.le_refl _, hg5, Nat.le_refl _, by decide, by simp [pad_len], by rw [List.take_of_length_le (by simp [pad_len])]⟩⟩, hb4⟩
def b7 : List Int := 7 :: List.replicate 63 0
theorem b7_row (w : World) : (w.alloc (.cells (z64.setIfInBounds 0 (.int .u8 7)) 5)).ownsRow w.heap.size 5 1 (.slice (some ⟨w.heap.size, 0, none⟩) 64 64) 64 (b7.map (Value.int .u8)) :=
  World.ownsRow_lit (base := w.heap.size) (e := 5) (size := 1) w (z64.setIfInBounds 0 (.int .u8 7)) 64 (Nat.le_refl _) (by decide) rfl
set_option maxHeartbeats 4000000 in
theorem wakes13_ok (w : World) : Calls Try.prog 10 #[] w fun e w' => e = .returned (.bool true) ∧ Below w.heap.size w w' := by
  have hm := byte_make
  go_enter Try.func10, Try.ntmps10
  go_wp2_with (first
    | (go_at_call 8; refine (new_ok 2 (by omega) (by omega) w).mono ?_; rintro ev w1 ⟨db, vs, vn, rfl, T0⟩
       have T1 : Dsk w _ db 2 (Dk.fresh 2) vs vn (.slice none 0 0) (.slice none 0 0) [byteRow (.slice (some ⟨w1.heap.size, 0, none⟩) 64 64) b7] := ⟨T0.fam.add (r := byteRow (.slice (some ⟨w1.heap.size, 0, none⟩) 64 64) b7) ((Below.refl _ w1).alloc (Nat.le_refl _) _) (b7_row w1), T0.ok⟩
       have hf1 := World.ownsRow.frozenAt (World.ownsRow_lit (base := w1.heap.size) (e := 5) (size := 1) w1 z64 64 (Nat.le_refl _) (by decide) rfl) 0
       have hc1 := World.ownsRow.cellAt (World.ownsRow_lit (base := w1.heap.size) (e := 5) (size := 1) w1 z64 64 (Nat.le_refl _) (by decide) rfl) 0 (by omega)
       clear T0)
    | (go_at_call 14; refine (write_ok T1 rfl (by decide) (by decide) 0 (by omega) (rdv_row (T1.fam.row 5 _ rfl)) rfl (by decide)).mono ?_; rintro ev w3 ⟨rfl, vw2, vk2, T2⟩; clear T1)
    | (go_at_call 14; refine (write_ok T2 rfl (by decide) (by decide) 1 (by omega) (rdv_row (T2.fam.row 5 _ rfl)) rfl (by decide)).mono ?_; rintro ev w4 ⟨rfl, vw3, vk3, T3⟩; clear T2
       have TV := T3.step ((Below.refl _ w4).alloc (Nat.le_refl _) (.cells #[.bool false, .bool true] 4))
       have RV : RdV (w4.alloc (.cells #[.bool false, .bool true] 4)) (.slice (some ⟨w4.heap.size, 0, none⟩) 2 2) ([false, true].map Value.bool) := rdv_row (World.ownsRow_lit (base := w4.heap.size) (e := 4) (size := 1) w4 #[.bool false, .bool true] 2 (Nat.le_refl _) (by decide) rfl)
       have hne : [false, true].map Value.bool ≠ [] → ∀ k, (Value.slice (some ⟨w4.heap.size, 0, none⟩) 2 2).ownBlock = some k → vs.ownBlock ≠ some k := fun _ k hk he => by
         have h : vs.ownBlock = some k → k < w4.heap.size := fun h => (row_base (T3.fam.row 1 _ rfl) h).2
         have h1 := h he
         have h2 : w4.heap.size = k := by simpa [Value.ownBlock] using hk
         omega
       clear T3)
    | (go_at_call 16; refine (crash_on TV rfl (-1) RV hne).mono ?_; rintro ev w5 ⟨rfl, T5⟩; clear TV)
    | (go_at_call 17; refine (start_ok T5).mono ?_; rintro ev w6 ⟨rfl, T6⟩; clear T5)
    | (go_at_call 19; refine (read_ok T6 0 zsec rfl rfl rfl).mono ?_; rintro ev w7 ⟨v7, rfl, T7, _⟩; clear T6)
    | (go_at_call 19; refine (read_ok T7 1 (b7, false) rfl rfl rfl).mono ?_; rintro ev w8 ⟨v8, rfl, T8, _⟩
       have r7 : w8.ownsRow w.heap.size 5 1 v7 64 (zsec.1.map (Value.int .u8)) := T8.fam.row 6 _ rfl
       have r8 : w8.ownsRow w.heap.size 5 1 v8 64 (b7.map (Value.int .u8)) := T8.fam.row 7 _ rfl
       obtain ⟨p7, c7, rfl⟩ := row_slice r7
       obtain ⟨p8, c8, rfl⟩ := row_slice r8
       obtain ⟨g7, rfl, _, _, _, h7⟩ := row_open r7 (by omega)
       obtain ⟨g8, rfl, _, _, _, h8⟩ := row_open r8 (by omega)
       have x7 : w8.cell? ⟨g7, 0, none⟩ = some (.int .u8 0) := h7 0 (by omega)
       have x8 : w8.cell? ⟨g8, 0, none⟩ = some (.int .u8 7) := h8 0 (by omega)
       clear h7 h8 r7 r8 T7))
  go_ret
  exact ⟨by simp, T8.fam.below⟩
end Go.Proofs.Ytgcndphocpedjaa
