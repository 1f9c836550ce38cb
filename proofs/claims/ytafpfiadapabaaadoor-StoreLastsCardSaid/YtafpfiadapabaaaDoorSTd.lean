/-
  STORE: readHead of a head that is there. Own work.
-/
import Derived.Test.YtafpfiadapabaaaDoorSTc
namespace Go.Proofs.YtafpfiadapabaaaDoor
open Go.ChangeShapes Go.WideShapes Go.ChangeAt Go.RowKit Go.Maps Go.Deep
set_option maxRecDepth 100000
attribute [local go_sem ↓] Go.wp_at_zero Go.wp_at_succ
section
variable {w0 w w' : World} {db n : Nat} {d : Dk} {vs vn vw vk : Value} {R : List RowD}
set_option maxHeartbeats 4000000 in
theorem readHead_ok (T : Dsk w0 w db n d vs vn vw vk R) (a c z : Nat) (hs : d.now[a]? = some (hd c z, false)) (hoff : d.off = false) (hc : c < 60000) (hz : z ≤ 8000) : Calls Tryd.prog 37 #[.pointer (some ⟨db, 0, none⟩), .int .i64 (a : Int)] w fun e w' => e = .returned (.tuple #[hval (if 0 < c then (a, c, z) else (0, 0, 0)), .nilIface]) ∧ Below w.heap.size w w' := by
  have B1 := (Below.refl w.heap.size w).alloc (Nat.le_refl _) (.cells #[.int .i64 0, .int .i64 0, .int .i64 0] 73)
  have T1 := T.step B1
  go_enter Tryd.func37, Tryd.ntmps37
  go_wp2_with (go_at_call 30; refine (read_okB T1 a _ hs hoff rfl).mono ?_; rintro ev w1 ⟨v1, rfl, B2, hr⟩
               obtain ⟨p1, c1, rfl⟩ := row_slice hr
               obtain ⟨g, rfl, hg1, hg2, hg3, hg4⟩ := row_open hr (by omega)
               have hR1 : ∀ wx, Below w1.heap.size w1 wx → RdV wx (.slice (some ⟨g, 0, none⟩) 64 c1) ((le2 c ++ (le2 z ++ List.replicate 48 0)).map (Value.int .u8)) := fun wx hB => (rdv_row hr).below hB
               have hR2 : ∀ wx, Below w1.heap.size w1 wx → RdV wx (.slice (some ⟨g, 8, none⟩) 56 (c1 - 8)) ((le2 z ++ List.replicate 48 0).map (Value.int .u8)) := fun wx hB => by
                 refine ⟨_, c1 - 8, by simp [le2], .inr ⟨g, 8, rfl, Nat.lt_of_lt_of_le hg2 hB.size, fun j hj => ?_⟩⟩
                 have hj' : j < 56 := by simpa [le2] using hj
                 rw [hB.cell (p := ⟨g, 8 + j, none⟩) hg2, hg4 (8 + j) (by omega), hd, List.getElem?_map, List.getElem?_map, List.getElem?_append_right (by simp [le2])]
                 simp [le2])
  have hc8 : ¬ c1 = 8 := by omega
  have hz0 : ¬ (z : Int) < 0 := by omega
  have hz1 : ¬ 8000 < (z : Int) := by omega
  have Bw1 : Below w.heap.size w w1 := B1.trans (B2.mono B1.size)
  have k4 : w1.cell? ⟨w.heap.size, 0, none⟩ = some (.int .i64 0) ∧ w1.cell? ⟨w.heap.size, 1, none⟩ = some (.int .i64 0) ∧ w1.cell? ⟨w.heap.size, 2, none⟩ = some (.int .i64 0) := by
    refine ⟨?_, ?_, ?_⟩ <;> (rw [B2.cell (by simp)]; simp)
  have f4 : ∀ j, w1.frozen? ⟨w.heap.size, j, none⟩ = false := fun j => by rw [B2.frozen (by simp)]; simp
  obtain ⟨k40, k41, k42⟩ := k4
  have f40 := f4 0
  have f41 := f4 1
  have f42 := f4 2
  have hlt : w.heap.size < w1.heap.size := by have := B2.size; simp at this; omega
  clear f4 hr hg4 T T1 B1 B2
  have H0 : ∀ x y z o, ((((w1.setCell ⟨w.heap.size, 0, none⟩ x).setCell ⟨w.heap.size, 1, none⟩ y).setCell ⟨w.heap.size, 2, none⟩ z).alloc o).cell? ⟨w.heap.size, 0, none⟩ = some x := fun x y z o => by
    rw [World.cell?_alloc_lt _ _ ⟨w.heap.size, 0, none⟩ (by simpa using hlt)]
    simp [go_sem, k40]
  have H1 : ∀ x y z o, ((((w1.setCell ⟨w.heap.size, 0, none⟩ x).setCell ⟨w.heap.size, 1, none⟩ y).setCell ⟨w.heap.size, 2, none⟩ z).alloc o).cell? ⟨w.heap.size, 1, none⟩ = some y := fun x y z o => by
    rw [World.cell?_alloc_lt _ _ ⟨w.heap.size, 1, none⟩ (by simpa using hlt)]
    simp [go_sem, k41]
  have H2 : ∀ x y z o, ((((w1.setCell ⟨w.heap.size, 0, none⟩ x).setCell ⟨w.heap.size, 1, none⟩ y).setCell ⟨w.heap.size, 2, none⟩ z).alloc o).cell? ⟨w.heap.size, 2, none⟩ = some z := fun x y z o => by
    rw [World.cell?_alloc_lt _ _ ⟨w.heap.size, 2, none⟩ (by simpa using hlt)]
    simp [go_sem, k42]
  go_region_with (go_at_call 45; refine (number_ok (by first | exact hR1 _ (by first | exact Below.refl _ _ | exact (Below.refl _ _).drew | exact (Below.refl _ _).alloc (Nat.le_refl _) _ | exact ((Below.refl _ _).alloc (Nat.le_refl _) _).drew | exact (Below.refl _ _).drew.alloc (Nat.le_refl _) _) | exact hR2 _ (by first | exact Below.refl _ _ | exact (Below.refl _ _).drew | exact (Below.refl _ _).alloc (Nat.le_refl _) _ | exact ((Below.refl _ _).alloc (Nat.le_refl _) _).drew | exact (Below.refl _ _).drew.alloc (Nat.le_refl _) _)) (by omega)).mono ?_; rintro ev w2 ⟨rfl, rfl⟩)
  all_goals simp only [Exit.then]
  all_goals by_cases h0 : 0 < c
  all_goals first
    | have h0I : ¬ (c : Int) < 1 := by omega
    | have h0I : (c : Int) < 1 := by omega
  all_goals go_wp2
  all_goals first
    | (refine bodyPost_ret (v := .tuple #[hval (a, c, z), .nilIface]) (by simp [results, Tryd.results37, go_sem, hval, H0, H1, H2]) rfl ⟨rfl, ?_⟩
       exact ((((Bw1.setCell (Nat.le_refl _) _).setCell (Nat.le_refl _) _).setCell (Nat.le_refl _) _).alloc (by simpa using Nat.le_of_lt hlt) _).drew)
    | (refine bodyPost_ret (v := .tuple #[hval (0, 0, 0), .nilIface]) (by simp [results, Tryd.results37, go_sem, hval, H0, H1, H2]) rfl ⟨rfl, ?_⟩
       exact ((((Bw1.setCell (Nat.le_refl _) _).setCell (Nat.le_refl _) _).setCell (Nat.le_refl _) _).alloc (by simpa using Nat.le_of_lt hlt) _).drew)
def rhv (a : Nat) : Hds → Nat × Nat × Nat
  | none => (0, 0, 0)
  | some (c, z) => if 0 < c then (a, c, z) else (0, 0, 0)
def rhe : Hds → Value
  | none => atE sHead (noE 10)
  | some _ => .nilIface
theorem readHead_any (T : Dsk w0 w db n d vs vn vw vk R) (a : Nat) (o : Hds) (h : ∃ s, d.now[a]? = some s ∧ IsH s o) (hoff : d.off = false) : Calls Tryd.prog 37 #[.pointer (some ⟨db, 0, none⟩), .int .i64 (a : Int)] w fun e w' => e = .returned (.tuple #[hval (rhv a o), rhe o]) ∧ Below w.heap.size w w' := by
  obtain ⟨s, hs, ho⟩ := h
  cases o with
  | none => exact readHead_torn T a s hs hoff ho
  | some x =>
    obtain ⟨c, z⟩ := x
    obtain ⟨rfl, hc, hz⟩ := ho
    exact readHead_ok T a c z hs hoff hc hz
end
end Go.Proofs.YtafpfiadapabaaaDoor
