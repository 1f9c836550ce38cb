/-
  STORE: the newest head. Own work.
-/
import Derived.Test.YtafpfiadapabaaaDoorSTd
import Derived.Test.YtafpfiadapabaaaDoorSTf
namespace Go.Proofs.YtafpfiadapabaaaDoor
open Go.ChangeShapes Go.WideShapes Go.ChangeAt Go.RowKit Go.Maps Go.Deep
set_option maxRecDepth 100000
attribute [local go_sem ↓] Go.wp_at_zero Go.wp_at_succ
def bst (h0 h1 : Hds) : Nat → Nat × Nat × Nat
  | 0 => (0, 0, 0)
  | 1 => best1 (0, 0, 0) 0 h0
  | _ => best h0 h1
/-- A head in memory. -/
structure HdC (w : World) (b : Nat) (t : Nat × Nat × Nat) : Prop where
  c0 : w.cell? ⟨b, 0, none⟩ = some (.int .i64 (t.1 : Int))
  c1 : w.cell? ⟨b, 1, none⟩ = some (.int .i64 (t.2.1 : Int))
  c2 : w.cell? ⟨b, 2, none⟩ = some (.int .i64 (t.2.2 : Int))
  f0 : w.frozen? ⟨b, 0, none⟩ = false
  f1 : w.frozen? ⟨b, 1, none⟩ = false
  f2 : w.frozen? ⟨b, 2, none⟩ = false
  lt : b < w.heap.size
theorem HdC.keep {F : Nat → Prop} {w w' : World} {b : Nat} {t : Nat × Nat × Nat} (H : HdC w b t) (K : Keeps F w w') (hn : ¬ F b) : HdC w' b t :=
  ⟨(K.cell (p := ⟨b, 0, none⟩) H.lt hn).trans H.c0, (K.cell (p := ⟨b, 1, none⟩) H.lt hn).trans H.c1, (K.cell (p := ⟨b, 2, none⟩) H.lt hn).trans H.c2, (K.frozen (p := ⟨b, 0, none⟩) H.lt hn).trans H.f0, (K.frozen (p := ⟨b, 1, none⟩) H.lt hn).trans H.f1, (K.frozen (p := ⟨b, 2, none⟩) H.lt hn).trans H.f2, Nat.lt_of_lt_of_le H.lt K.size⟩
theorem HdC.below {w w' : World} {b : Nat} {t : Nat × Nat × Nat} (H : HdC w b t) (B : Below w.heap.size w w') : HdC w' b t := H.keep (Keeps.of_below (F := fun _ => False) B) (fun h => h)
theorem HdC.made (w : World) (t : Nat × Nat × Nat) : HdC (w.alloc (.cells #[.int .i64 (t.1 : Int), .int .i64 (t.2.1 : Int), .int .i64 (t.2.2 : Int)] 73)) w.heap.size t := by
  refine ⟨?_, ?_, ?_, ?_, ?_, ?_, ?_⟩ <;> simp
theorem HdC.set {w : World} {b : Nat} {t : Nat × Nat × Nat} (H : HdC w b t) (u : Nat × Nat × Nat) : HdC (((w.setCell ⟨b, 0, none⟩ (.int .i64 (u.1 : Int))).setCell ⟨b, 1, none⟩ (.int .i64 (u.2.1 : Int))).setCell ⟨b, 2, none⟩ (.int .i64 (u.2.2 : Int))) b u := by
  have a0 := H.c0
  have a1 := H.c1
  have a2 := H.c2
  have b0 := H.f0
  have b1 := H.f1
  have b2 := H.f2
  have hl := H.lt
  refine ⟨?_, ?_, ?_, ?_, ?_, ?_, ?_⟩
  · simp [go_sem, a0]
  · simp [go_sem, a1]
  · simp [go_sem, a2]
  · simpa using b0
  · simpa using b1
  · simpa using b2
  · simpa using hl
section
variable {w0 w w' : World} {db n : Nat} {d : Dk} {vs vn vw vk : Value} {R : List RowD}
set_option maxHeartbeats 8000000 in
theorem newest_ok (T : Dsk w0 w db n d vs vn vw vk R) {h0 h1 : Hds} (e0 : ∃ s, d.now[0]? = some s ∧ IsH s h0) (e1 : ∃ s, d.now[1]? = some s ∧ IsH s h1) (hoff : d.off = false) : Calls Tryd.prog 28 #[.pointer (some ⟨db, 0, none⟩)] w fun e w' => e = .returned (.tuple #[hval (best h0 h1), .nilIface]) ∧ Below w.heap.size w w' := by
  have M0 := HdC.made w (0, 0, 0)
  have M1 := HdC.made (w.alloc (.cells #[.int .i64 0, .int .i64 0, .int .i64 0] 73)) (0, 0, 0)
  have B0 : Below w.heap.size w (w.alloc (.cells #[.int .i64 0, .int .i64 0, .int .i64 0] 73)) := (Below.refl _ w).alloc (Nat.le_refl _) _
  have B1 := (Below.refl (w.alloc (.cells #[.int .i64 0, .int .i64 0, .int .i64 0] 73)).heap.size _).alloc (Nat.le_refl _) (.cells #[.int .i64 0, .int .i64 0, .int .i64 0] 73)
  have M0' := M0.below B1
  have B2 := B0.trans (B1.mono B0.size)
  have hsz : (w.alloc (.cells #[.int .i64 0, .int .i64 0, .int .i64 0] 73)).heap.size = w.heap.size + 1 := by simp
  rw [hsz] at M1
  clear M0 B0 B1 hsz
  go_enter Tryd.func28, Tryd.ntmps28
  go_wp2
  go_loopw [8] (fun i wq => ∃ j : Nat, i = .int .i64 j ∧ j ≤ 2 ∧ Below w.heap.size w wq ∧ HdC wq w.heap.size (0, 0, 0) ∧ HdC wq (w.heap.size + 1) (bst h0 h1 j)) (fun i _ => 2 - (intOf i).toNat)
  case atStart => exact ⟨0, rfl, by omega, B2, M0', M1⟩
  case round =>
    obtain ⟨j, rfl, hj, Bq, Q0, Q1⟩ := hrel
    by_cases hlt : j < 2
    · have hjI : (j : Int) < 2 := by omega
      have T1 := T.step Bq
      obtain ⟨o, eo, hst⟩ : ∃ o, (∃ s, d.now[j]? = some s ∧ IsH s o) ∧ bst h0 h1 (j + 1) = best1 (bst h0 h1 j) j o := by
        match j, hlt with
        | 0, _ => exact ⟨h0, e0, rfl⟩
        | 1, _ => exact ⟨h1, e1, rfl⟩
      have HR := readHead_any T1 j o eo hoff
      generalize bst h0 h1 j = bj at Q1 hst
      clear eo e0 e1 T B2 M0' M1
      have hb0 : ¬ (bj.2.1 : Int) < 0 := by omega
      cases o with
      | none =>
        simp only [rhv, rhe, hval, atE, noE, Int.cast_ofNat_Int] at HR
        have hst' : bst h0 h1 (j + 1) = bj := hst
        go_wp2_with (first
          | (go_at_call 37; refine HR.mono ?_; rintro ev w2 ⟨rfl, B2⟩)
          | (go_at_call 38; refine (is_torn _ _).mono ?_; rintro ev w3 ⟨rfl, B3⟩))
        have BX := B2.trans (((Below.refl _ w2).alloc (Nat.le_refl _) (.cells #[.int .i64 0, .int .i64 0, .int .i64 0] 73)).mono B2.size)
        have BY := BX.trans (B3.mono BX.size)
        exact ⟨⟨j + 1, by simp, by omega, Bq.trans (BY.mono Bq.size), Q0.below BY, by rw [hst']; exact Q1.below BY⟩, by simp [intOf]; omega⟩
      | some x =>
        obtain ⟨c, z⟩ := x
        simp only [rhv, rhe] at HR
        by_cases hc : 0 < c
        · rw [if_pos hc] at HR
          simp only [hval] at HR
          by_cases hb : bj.2.1 < c
          · have hbI : (bj.2.1 : Int) < c := by omega
            have hst' : bst h0 h1 (j + 1) = (j, c, z) := by rw [hst, best1, if_pos hb]
            go_wp2_with (first
              | (go_at_call 37; refine HR.mono ?_; rintro ev w2 ⟨rfl, B2⟩; have R1 := Q1.below B2; have d1 := R1.c1; have d0 := R1.c0; have d2 := R1.c2; have g0 := R1.f0; have g1 := R1.f1; have g2 := R1.f2; have hl := R1.lt)
              | (go_at_call 38; refine (is_nil _).mono ?_; rintro ev w3 ⟨rfl, rfl⟩))
            have hlw : w.heap.size ≤ w2.heap.size := by omega
            have S1 := R1.set (j, c, z)
            have P0 := Q0.below B2
            have K1 := setcell_keeps w2 (w.heap.size + 1) 0 (.int .i64 (j : Int))
            have K2 := setcell_keeps (w2.setCell ⟨w.heap.size + 1, 0, none⟩ (.int .i64 (j : Int))) (w.heap.size + 1) 1 (.int .i64 (c : Int))
            have K3 := setcell_keeps ((w2.setCell ⟨w.heap.size + 1, 0, none⟩ (.int .i64 (j : Int))).setCell ⟨w.heap.size + 1, 1, none⟩ (.int .i64 (c : Int))) (w.heap.size + 1) 2 (.int .i64 (z : Int))
            have P1 := ((P0.keep K1 (by omega)).keep K2 (by omega)).keep K3 (by omega)
            have BW := (((Bq.trans (B2.mono Bq.size)).setCell (p := ⟨w.heap.size + 1, 0, none⟩) (Nat.le_succ _) (.int .i64 (j : Int))).setCell (p := ⟨w.heap.size + 1, 1, none⟩) (Nat.le_succ _) (.int .i64 (c : Int))).setCell (p := ⟨w.heap.size + 1, 2, none⟩) (Nat.le_succ _) (.int .i64 (z : Int))
            have BA := (Below.refl _ (((w2.setCell ⟨w.heap.size + 1, 0, none⟩ (.int .i64 (j : Int))).setCell ⟨w.heap.size + 1, 1, none⟩ (.int .i64 (c : Int))).setCell ⟨w.heap.size + 1, 2, none⟩ (.int .i64 (z : Int)))).alloc (Nat.le_refl _) (.cells #[.int .i64 (j : Int), .int .i64 (c : Int), .int .i64 (z : Int)] 73)
            exact ⟨⟨j + 1, by simp, by omega, BW.trans (BA.mono BW.size), P1.below BA, by rw [hst']; exact S1.below BA⟩, by simp [intOf]; omega⟩
          · have hbI : ¬ (bj.2.1 : Int) < c := by omega
            have hst' : bst h0 h1 (j + 1) = bj := by rw [hst, best1, if_neg hb]
            go_wp2_with (first
              | (go_at_call 37; refine HR.mono ?_; rintro ev w2 ⟨rfl, B2⟩; have R1 := Q1.below B2; have d1 := R1.c1; have hl := R1.lt)
              | (go_at_call 38; refine (is_nil _).mono ?_; rintro ev w3 ⟨rfl, rfl⟩))
            have BX := B2.trans (((Below.refl _ w2).alloc (Nat.le_refl _) (.cells #[.int .i64 (j : Int), .int .i64 (c : Int), .int .i64 (z : Int)] 73)).mono B2.size)
            exact ⟨⟨j + 1, by simp, by omega, Bq.trans (BX.mono Bq.size), Q0.below BX, by rw [hst']; exact Q1.below BX⟩, by simp [intOf]; omega⟩
        · have hst' : bst h0 h1 (j + 1) = bj := by rw [hst, best1, if_neg (by omega)]
          rw [if_neg hc] at HR
          simp only [hval, Int.cast_ofNat_Int] at HR
          go_wp2_with (first
            | (go_at_call 37; refine HR.mono ?_; rintro ev w2 ⟨rfl, B2⟩; have R1 := Q1.below B2; have d1 := R1.c1; have hl := R1.lt)
            | (go_at_call 38; refine (is_nil _).mono ?_; rintro ev w3 ⟨rfl, rfl⟩))
          have BX := B2.trans (((Below.refl _ w2).alloc (Nat.le_refl _) (.cells #[.int .i64 0, .int .i64 0, .int .i64 0] 73)).mono B2.size)
          exact ⟨⟨j + 1, by simp, by omega, Bq.trans (BX.mono Bq.size), Q0.below BX, by rw [hst']; exact Q1.below BX⟩, by simp [intOf]; omega⟩
    · obtain rfl : j = 2 := by omega
      have c0 := Q1.c0
      have c1 := Q1.c1
      have c2 := Q1.c2
      have y0 := Q0.c0
      have y1 := Q0.c1
      have y2 := Q0.c2
      have f0 := Q0.f0
      have f1 := Q0.f1
      have f2 := Q0.f2
      go_wp2
      refine bodyPost_ret (v := .tuple #[hval (best h0 h1), .nilIface]) (by simp [results, Tryd.results28, go_sem, hval, bst, y0, y1, y2]) rfl ⟨rfl, ?_⟩
      exact ((Bq.setCell (Nat.le_refl _) _).setCell (Nat.le_refl _) _).setCell (Nat.le_refl _) _
end
end Go.Proofs.YtafpfiadapabaaaDoor
