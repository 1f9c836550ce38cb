/-
  slices.Reverse of numbers. Own work.
-/
import Derived.Test.YtehkfgjnapjefaaSPj
namespace Go.Proofs.Ytehkfgjnapjefaa
open Go.RowKit Go.Maps
set_option maxRecDepth 100000
attribute [local go_sem ↓] Go.wp_at_zero Go.wp_at_succ
set_option maxHeartbeats 2000000 in
theorem reverse_some (g c n : Nat) (hn : n ≤ 2147483648) (xs : List Int) (hx : xs.length = n) (w : World) (h : w.ownsRow 0 3 1 (.slice (some ⟨g, 0, none⟩) n c) n (xs.map (Value.int .i64))) : Calls Try.prog 35 #[.slice (some ⟨g, 0, none⟩) n c] w fun e w' => (∃ v, e = .returned v) ∧ Keeps (fun k => k = g) w w' ∧ w'.ownsRow 0 3 1 (.slice (some ⟨g, 0, none⟩) n c) n (xs.reverse.map (Value.int .i64)) := by
  have H := (show Hid (w.ownsRow 0 3 1 (.slice (some ⟨g, 0, none⟩) n c) n (xs.map (Value.int .i64))) from h)
  clear h
  go_enter Try.func35, Try.ntmps35
  go_wp2
  go_loopw [2, 3] (fun i j wr => ∃ (t : Nat) (zs : List Int), i = .int .i64 t ∧ j = .int .i64 ((n : Int) - 1 - t) ∧ t ≤ n ∧ zs.length = n ∧ wr.ownsRow 0 3 1 (.slice (some ⟨g, 0, none⟩) n c) n (zs.map (Value.int .i64)) ∧ Keeps (fun k => k = g) w wr ∧ (∀ q, q < n → zs.getD q 0 = if q < t ∨ n ≤ q + t then xs.getD (n - 1 - q) 0 else xs.getD q 0)) (fun i _ _ => n - (intOf i).toNat)
  case atStart => exact ⟨0, xs, rfl, by simp, by omega, hx, H.out, Keeps.refl _ _, fun q hq => by rw [if_neg (by omega)]⟩
  case round =>
    obtain ⟨t, zs, rfl, rfl, ht, hz, hown, hK, hall⟩ := hrel
    have HA := (show Hid _ from hall)
    have HO := (show Hid (wr.ownsRow 0 3 1 (.slice (some ⟨g, 0, none⟩) n c) n (zs.map (Value.int .i64))) from hown)
    clear hall hown
    by_cases hlt : (t : Int) < (n : Int) - 1 - t
    · obtain ⟨u, hu⟩ : ∃ u : Nat, (n : Int) - 1 - t = u := ⟨n - 1 - t, by omega⟩
      rw [hu] at hlt ⊢
      have hun : u < n := by omega
      have htn : t < n := by omega
      have hui : (u : Int) < n := by omega
      have hti : (t : Int) < n := by omega
      have htu : t ≠ u := by omega
      obtain ⟨x, hx1⟩ : ∃ x, zs[t]? = some x := ⟨_, List.getElem?_eq_getElem (by omega)⟩
      obtain ⟨y, hy1⟩ : ∃ y, zs[u]? = some y := ⟨_, List.getElem?_eq_getElem (by omega)⟩
      have c1 := World.ownsRow.cellAt HO.out t (by omega)
      have c2 := World.ownsRow.cellAt HO.out u (by omega)
      rw [List.getElem?_map, hx1] at c1
      rw [List.getElem?_map, hy1] at c2
      have HX := (show Hid (zs[t]? = some x) from hx1)
      have HY := (show Hid (zs[u]? = some y) from hy1)
      clear hx1 hy1
      have f1 := World.ownsRow.frozenAt HO.out t
      have f2 := World.ownsRow.frozenAt HO.out u
      simp only [Option.map_some] at c1 c2
      have HU := (show Hid ((n : Int) - 1 - t = u) from hu)
      clear hu
      go_wp2
      go_region
      go_wp2
      have hU := HU.out
      have hX : zs.getD t 0 = x := by rw [List.getD_eq_getElem?_getD, HX.out]; rfl
      have hY : zs.getD u 0 = y := by rw [List.getD_eq_getElem?_getD, HY.out]; rfl
      have s1 := World.ownsRow.stored HO.out t (.int .i64 y)
      have s2 := World.ownsRow.stored s1.1 u (.int .i64 x)
      have k1 := (hK.trans (Keeps.of_grown (F := fun k => k = g) s1.2 (fun k hk => by cases hk; rfl)) (fun _ _ h => h)).trans (Keeps.of_grown (F := fun k => k = g) s2.2 (fun k hk => by cases hk; rfl)) (fun _ _ h => h)
      refine ⟨⟨t + 1, (zs.set t y).set u x, by simp, congrArg (Value.int .i64) (by omega), by omega, by simp [hz], ?_, ⟨k1.os, k1.tape, k1.output, k1.size, k1.block⟩, fun q hq => ?_⟩, by simp [intOf]; omega⟩
      · rw [List.map_set, List.map_set]
        exact s2.1
      · have e1 := HA.out t htn
        rw [if_neg (by omega), hX] at e1
        have e2 := HA.out u hun
        rw [if_neg (by omega), hY] at e2
        rw [List.getD_eq_getElem?_getD, List.getElem?_set]
        by_cases hqu : u = q
        · subst hqu
          rw [if_pos rfl, if_pos (by rw [List.length_set]; omega), if_pos (by omega), e1, show n - 1 - u = t by omega]
          rfl
        · rw [if_neg hqu, List.getElem?_set]
          by_cases hqt : t = q
          · subst hqt
            rw [if_pos rfl, if_pos (by omega), if_pos (by omega), e2, show n - 1 - t = u by omega]
            rfl
          · rw [if_neg hqt, ← List.getD_eq_getElem?_getD, HA.out q hq]
            by_cases hc : q < t ∨ n ≤ q + t
            · rw [if_pos hc, if_pos (by omega)]
            · rw [if_neg hc, if_neg (by omega)]
    · go_wp2
      go_end0
      refine ⟨⟨_, rfl⟩, hK, ?_⟩
      have e : zs = xs.reverse := by
        apply getD_ext (by rw [List.length_reverse, hz, hx])
        intro q hq
        rw [HA.out q (by omega)]
        have hr : xs.reverse.getD q 0 = xs.getD (n - 1 - q) 0 := by
          rw [List.getD_eq_getElem?_getD, List.getD_eq_getElem?_getD, List.getElem?_reverse (by omega), hx]
        rw [hr]
        split
        · rfl
        · rw [show n - 1 - q = q by omega]
      have hf := HO.out
      rw [e, List.map_reverse] at hf
      exact hf
end Go.Proofs.Ytehkfgjnapjefaa
