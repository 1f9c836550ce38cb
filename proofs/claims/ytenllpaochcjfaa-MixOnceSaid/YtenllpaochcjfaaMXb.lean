/-
  MIX: payloads: parts.Of, parts.Number, read. Own work.
-/
import Derived.Test.YtenllpaochcjfaaMXa
namespace Go.Proofs.Ytenllpaochcjfaa
open Go.ChangeShapes Go.WideShapes Go.ChangeAt Go.RowKit Go.Maps
set_option maxRecDepth 100000
attribute [local go_sem ↓] Go.wp_at_zero Go.wp_at_succ
section
variable {w wr w' : World} {aa : Nat} {L : List Tm} {G : Nat → Prop}
set_option maxHeartbeats 4000000 in
theorem of_ok (T : On w wr aa L G) {i : Nat} {k n : Int} {xs : List Int} (hi : L[i]? = some (k, n, xs)) : Calls Try.prog 22 #[.pointer (some ⟨aa, 0, none⟩), .int .i64 i, .int .i64 k] wr fun e w' => ∃ p c, e = .returned (.tuple #[.slice p xs.length c, .nilIface]) ∧ w'.ownsRow wr.heap.size 3 1 (.slice p xs.length c) xs.length (xs.map (Value.int .i64)) ∧ Below wr.heap.size wr w' := by
  have HT := (show Hid _ from T)
  have HI := (show Hid _ from hi)
  clear T hi
  go_enter Try.func22, Try.ntmps22
  go_wp2_with (go_at_call 26; refine (node_on HT.out HI.out).mono ?_; rintro ev w1 ⟨p, c, rfl, hown, B1⟩; have HO := (show Hid _ from hown); have HB := (show Hid _ from B1); clear hown B1)
  go_ret2
  have hB := (Below.refl w1.heap.size w1).alloc (Nat.le_refl _) (.cells #[.int .i64 k, .int .i64 n, .slice p xs.length c] 48)
  exact ⟨p, c, rfl, row_keeps (F := fun _ => False) HO.out (Keeps.of_below hB) (fun _ _ h => h), HB.out.trans (hB.mono HB.out.size)⟩
set_option maxHeartbeats 4000000 in
theorem number_ok (T : On w wr aa L G) {i : Nat} {n : Int} (hi : L[i]? = some (2, n, [])) : Calls Try.prog 23 #[.pointer (some ⟨aa, 0, none⟩), .int .i64 i] wr fun e w' => e = .returned (.tuple #[.int .i64 n, .nilIface]) ∧ Below wr.heap.size wr w' := by
  have HT := (show Hid _ from T)
  have HI := (show Hid _ from hi)
  clear T hi
  go_enter Try.func23, Try.ntmps23
  go_wp2_with (go_at_call 26; refine (node_on HT.out HI.out).mono ?_; rintro ev w1 ⟨p, c, rfl, hown, B1⟩; have HB := (show Hid _ from B1); clear hown B1)
  go_ret2
  have hB := (Below.refl w1.heap.size w1).alloc (Nat.le_refl _) (.cells #[.int .i64 2, .int .i64 n, .slice p ([] : List Int).length c] 48)
  exact ⟨rfl, HB.out.trans (hB.mono HB.out.size)⟩
/-- What a payload asks. -/
inductive IsAsk (L : List Tm) (i : Nat) : Int × Int × Int → Prop
  | three (u : Int) (x y z : Nat) : L[i]? = some (9, 0, [(x : Int), (y : Int), (z : Int)]) → L[x]? = some (2, u, []) → (u = 71 ∨ u = 73) → IsAsk L i (u, (y : Int), (z : Int))
  | two (x y : Nat) : L[i]? = some (9, 0, [(x : Int), (y : Int)]) → L[x]? = some (2, 72, []) → IsAsk L i (72, (y : Int), 0)
theorem res_cells {ws w2 : World} {o1 : Obj} (ho : o1 = .cells #[.int .i64 0, .int .i64 0, .int .i64 0] 57) (hB : Below (ws.alloc o1).heap.size (ws.alloc o1) w2) : w2.cell? ⟨ws.heap.size, 0, none⟩ = some (.int .i64 0) ∧ w2.cell? ⟨ws.heap.size, 1, none⟩ = some (.int .i64 0) ∧ w2.cell? ⟨ws.heap.size, 2, none⟩ = some (.int .i64 0) ∧ w2.frozen? ⟨ws.heap.size, 0, none⟩ = false ∧ w2.frozen? ⟨ws.heap.size, 1, none⟩ = false ∧ w2.frozen? ⟨ws.heap.size, 2, none⟩ = false := by
  subst ho
  refine ⟨(hB.cell (p := ⟨ws.heap.size, 0, none⟩) (by simp)).trans (by simp [go_sem]), (hB.cell (p := ⟨ws.heap.size, 1, none⟩) (by simp)).trans (by simp [go_sem]), (hB.cell (p := ⟨ws.heap.size, 2, none⟩) (by simp)).trans (by simp [go_sem]), (hB.frozen (p := ⟨ws.heap.size, 0, none⟩) (by simp)).trans (by simp [go_sem]), (hB.frozen (p := ⟨ws.heap.size, 1, none⟩) (by simp)).trans (by simp [go_sem]), (hB.frozen (p := ⟨ws.heap.size, 2, none⟩) (by simp)).trans (by simp [go_sem])⟩
set_option maxHeartbeats 8000000 in
theorem read3 {ws : World} (T : Hid (On w ws aa L G)) {i x y z : Nat} {u : Int} (h1 : L[i]? = some (9, 0, [(x : Int), (y : Int), (z : Int)])) (h2 : L[x]? = some (2, u, [])) (hu : u = 71 ∨ u = 73) : Calls Try.prog 18 #[.pointer (some ⟨aa, 0, none⟩), .int .i64 i] ws fun e w' => e = .returned (.agg #[.int .i64 u, .int .i64 y, .int .i64 z]) ∧ Below ws.heap.size ws w' := by
  have H1 := (show Hid _ from h1)
  have H2 := (show Hid _ from h2)
  clear h1 h2
  let o1 : Obj := .cells #[.int .i64 0, .int .i64 0, .int .i64 0] 57
  have hB0 := (Below.refl _ ws).alloc (Nat.le_refl _) o1
  rcases hu with rfl | rfl
  all_goals (
    go_enter Try.func18, Try.ntmps18
    go_wp2_with (first
      | (go_at_call 22; refine (of_ok (T.out.alloc o1) H1.out).mono ?_; rintro ev w1 ⟨p, c, rfl, hown, B1⟩; obtain ⟨g, hg, _, hgl, _, hc⟩ := row_open hown (by simp); subst hg; have x0 := hc 0 (by simp); have T1 := (show Hid _ from (T.out.alloc o1).step B1))
      | (go_at_call 23; refine (number_ok T1.out H2.out).mono ?_; rintro ev w2 ⟨rfl, B2⟩
         have x1 : w2.cell? ⟨g, 1, none⟩ = some (.int .i64 (y : Int)) := (B2.cell (p := ⟨g, 1, none⟩) hgl).trans (hc 1 (by simp))
         have x2 : w2.cell? ⟨g, 2, none⟩ = some (.int .i64 (z : Int)) := (B2.cell (p := ⟨g, 2, none⟩) hgl).trans (hc 2 (by simp))
         have hBB := B1.trans (B2.mono B1.size)
         obtain ⟨d0, d1, d2, q0, q1, q2⟩ := res_cells rfl hBB
         have hlt : ws.heap.size < w2.heap.size := Nat.lt_of_lt_of_le (by simp) hBB.size
         clear hc hown x0))
    go_region
    go_wp2
    refine bodyPost_ret (v := .agg #[.int .i64 _, .int .i64 (y : Int), .int .i64 (z : Int)]) (by simp [results, Try.results18, go_sem, d0, d1, d2]) rfl ⟨rfl, ?_⟩
    exact hB0.trans ((((hBB.mono (by simp)).setCell (p := ⟨ws.heap.size, 0, none⟩) (Nat.le_refl _) _).setCell (p := ⟨ws.heap.size, 1, none⟩) (Nat.le_refl _) _).setCell (p := ⟨ws.heap.size, 2, none⟩) (Nat.le_refl _) _).drew)
set_option maxHeartbeats 8000000 in
theorem read2 {ws : World} (T : Hid (On w ws aa L G)) {i x y : Nat} (h1 : L[i]? = some (9, 0, [(x : Int), (y : Int)])) (h2 : L[x]? = some (2, 72, [])) : Calls Try.prog 18 #[.pointer (some ⟨aa, 0, none⟩), .int .i64 i] ws fun e w' => e = .returned (.agg #[.int .i64 72, .int .i64 y, .int .i64 0]) ∧ Below ws.heap.size ws w' := by
  have H1 := (show Hid _ from h1)
  have H2 := (show Hid _ from h2)
  clear h1 h2
  let o1 : Obj := .cells #[.int .i64 0, .int .i64 0, .int .i64 0] 57
  have hB0 := (Below.refl _ ws).alloc (Nat.le_refl _) o1
  go_enter Try.func18, Try.ntmps18
  go_wp2_with (first
      | (go_at_call 22; refine (of_ok (T.out.alloc o1) H1.out).mono ?_; rintro ev w1 ⟨p, c, rfl, hown, B1⟩; obtain ⟨g, hg, _, hgl, _, hc⟩ := row_open hown (by simp); subst hg; have x0 := hc 0 (by simp); have T1 := (show Hid _ from (T.out.alloc o1).step B1))
      | (go_at_call 23; refine (number_ok T1.out H2.out).mono ?_; rintro ev w2 ⟨rfl, B2⟩
         have x1 : w2.cell? ⟨g, 1, none⟩ = some (.int .i64 (y : Int)) := (B2.cell (p := ⟨g, 1, none⟩) hgl).trans (hc 1 (by simp))
         have hBB := B1.trans (B2.mono B1.size)
         obtain ⟨d0, d1, d2, q0, q1, q2⟩ := res_cells rfl hBB
         have hlt : ws.heap.size < w2.heap.size := Nat.lt_of_lt_of_le (by simp) hBB.size
         clear hc hown x0))
  refine bodyPost_ret (v := .agg #[.int .i64 72, .int .i64 (y : Int), .int .i64 0]) (by simp [results, Try.results18, go_sem, d0, d1, d2]) rfl ⟨rfl, ?_⟩
  exact hB0.trans ((((hBB.mono (by simp)).setCell (p := ⟨ws.heap.size, 0, none⟩) (Nat.le_refl _) _).setCell (p := ⟨ws.heap.size, 1, none⟩) (Nat.le_refl _) _).setCell (p := ⟨ws.heap.size, 2, none⟩) (Nat.le_refl _) _)
theorem read_ok {ws : World} (T : Hid (On w ws aa L G)) {i : Nat} {u y z : Int} (h : IsAsk L i (u, y, z)) : Calls Try.prog 18 #[.pointer (some ⟨aa, 0, none⟩), .int .i64 i] ws fun e w' => e = .returned (.agg #[.int .i64 u, .int .i64 y, .int .i64 z]) ∧ Below ws.heap.size ws w' := by
  cases h with
  | three _ x y z h1 h2 hu => exact read3 T h1 h2 hu
  | two x y h1 h2 => exact read2 T h1 h2
end
end Go.Proofs.Ytenllpaochcjfaa
