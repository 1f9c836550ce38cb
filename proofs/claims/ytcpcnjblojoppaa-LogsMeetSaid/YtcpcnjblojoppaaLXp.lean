/-
  LAYER 25: slices.Insert in the middle, where there is room. Own work, after the kit's shelf.
-/
import Derived.Test.YtcpcnjblojoppaaLXo
namespace Go.Proofs.Ytcpcnjblojoppaa
open Go.ChangeShapes Go.WideShapes Go.ChangeAt Go.RowKit Go.Maps Go.Lib
set_option maxRecDepth 100000
attribute [local go_sem ↓] Go.wp_at_zero Go.wp_at_succ
set_option maxHeartbeats 8000000 in
theorem insert_shift (g n c i b1 base : Nat) (cs vs : List Value) (w : World) (hown : Hid (w.ownsRow base 52 3 (.slice (some ⟨g, 0, none⟩) n c) n cs)) (hv : vs.length = 3) (hnb : w.heap[b1]? = some (.cells vs.toArray 52)) (hne : b1 ≠ g) (h1c : Hid (∀ u ∈ cs, u.oneCell' = true)) (h1v : Hid (∀ u ∈ vs, u.oneCell' = true)) (hi : i < n) (h4 : n ≤ 1000) (hroom : n + 1 ≤ c) :
    Calls Try.prog 36 #[.slice (some ⟨g, 0, none⟩) n c, .int .i64 i, .slice (some ⟨b1, 0, none⟩) 1 1] w fun e w' => ∃ v', e = .returned v' ∧ w'.ownsRow base 52 3 v' (n + 1) (cs.take (i * 3) ++ vs ++ cs.drop (i * 3)) ∧ w.grownBy w' (some g) ∧ (v'.ownBlock = some g ∨ v'.ownBlock = some w.heap.size) := by
  obtain ⟨i0, hi0, hz0, hzs, hzb⟩ := info_parts (P := Try.prog) (e := 52) (z := zlog) (size := 3) (bytes := 40) (by kernel_rfl)
  have hcl : cs.length = n * 3 := hown.out.1
  obtain ⟨cur, hg0, hcm, hcs0, htk⟩ : ∃ cur, w.heap[g]? = some (.cells cur 52) ∧ c ≤ maxLen ∧ cur.size = c * 3 ∧ cur.toList.take (n * 3) = cs := by
    rcases hown.out.2 with ⟨h1, _⟩ | ⟨g', cap, cur, h1, _, hg, _, h3, h4, h5⟩
    · cases h1
    · cases h1
      exact ⟨cur, hg, h3, h4, h5⟩
  have hbase : base ≤ g := (own_block hown.out (k := g) rfl).1
  have hc63 : c ≤ 9223372036854775807 := by unfold maxLen at hcm; omega
  have R0 : w.ownsRow base 52 3 (.slice (some ⟨g, 0, none⟩) (n + 1) c) (n + 1) (cur.toList.take ((n + 1) * 3)) :=
    ⟨by rw [List.length_take, Array.length_toList, hcs0]; omega, .inr ⟨g, c, cur, rfl, hbase, hg0, hroom, hcm, hcs0, rfl⟩⟩
  have hcs : ∀ j u, cs[j]? = some u → w.cell? ⟨g, j, none⟩ = some u := fun j u h => by
    have := World.ownsRow.cells hown.out rfl j u h
    rwa [add_plain, Nat.zero_add] at this
  have hbw : g < w.heap.size := (own_block hown.out (k := g) rfl).2
  have hvw : b1 < w.heap.size := (Array.getElem?_eq_some_iff.1 hnb).1
  have hov : ∀ lb cb, (callFunc 41 #[.slice (some ⟨b1, 0, none⟩) 1 1, .slice (some ⟨g, (i + 1) * 3, none⟩) lb cb]).run Try.prog w = .ok (.value (.bool false)) w := fun lb cb => by
    rw [run_callFunc_extern Try.func41 (by kernel_rfl) (by kernel_rfl) (by kernel_rfl) (e := Extern.SlicesOverlaps.overlaps #[22, 22] #[4]) (by kernel_rfl),
      Lib.run_overlaps_apart w 22 4 52 Try.underlying22 3 (fun w => by simp [sizeOf, typeInfo, hi0, hzs]) ⟨b1, 0, none⟩ ⟨g, (i + 1) * 3, none⟩ 1 1 lb cb hne 52 52 vs.toArray.size cur.size (by simp [World.shape?, hnb]) (by simp [World.shape?, hg0]) (by rw [hcs0]; omega) (frozen_of_row w b1 0 _ _ hnb) (frozen_of_row w b1 _ _ _ hnb)]
    rfl
  have cellSome : ∀ (W : World) (b n c : Nat) (xs : List Value), W.ownsRow base 52 3 (.slice (some ⟨b, 0, none⟩) n c) n xs → ∀ j, j < n * 3 → (W.cell? ⟨b, j, none⟩).isSome = true := fun W b n c xs h j hj => by
    rw [World.ownsRow.cellAt h j hj, List.getElem?_eq_getElem (by rw [h.1]; exact hj)]
    rfl
  have hdl : (cs.drop (i * 3)).length = (n - i) * 3 := by rw [List.length_drop, hcl]; omega
  obtain ⟨R2, G2⟩ := own_over (cs.drop (i * 3)) ((i + 1) * 3) w _ R0
  obtain ⟨R3, G3⟩ := own_over vs (i * 3) _ _ R2
  have hcpA : ∀ ty dc sc, (Builtin.copy_ #[22, 22] ty #[.slice (some ⟨g, (i + 1) * 3, none⟩) (n + 1 - (i + 1)) dc, .slice (some ⟨g, i * 3, none⟩) (n + 1 - i) sc]).run Try.prog w.drew = .ok (goInt ((n - i : Nat) : Int)) (w.drew.setCells g ((i + 1) * 3) (cs.drop (i * 3))) := fun ty dc sc =>
    run_copy_wide _ _ _ ty 52 i0 g ((i + 1) * 3) (n + 1 - (i + 1)) dc ⟨g, i * 3, none⟩ (n + 1 - i) sc (n - i) (cs.drop (i * 3)) Try.underlying22 hi0 (by simp only [Nat.min_def]; split <;> omega) (by rw [hzs, hdl])
      (fun j v hj => by
        rw [add_plain]
        exact hcs (i * 3 + j) v (by rwa [List.getElem?_drop] at hj))
      (fun j hj => cellSome w _ _ _ _ R0 _ (by omega)) (fun j hj => World.ownsRow.frozenAt R0 _) (fun v hv => h1c.out v (List.mem_of_mem_drop hv))
  have hcpB : ∀ ty dc, (Builtin.copy_ #[22, 22] ty #[.slice (some ⟨g, i * 3, none⟩) (n + 1 - i) dc, .slice (some ⟨b1, 0, none⟩) 1 1]).run Try.prog (w.drew.setCells g ((i + 1) * 3) (cs.drop (i * 3))) = .ok (goInt ((1 : Nat) : Int)) ((w.drew.setCells g ((i + 1) * 3) (cs.drop (i * 3))).setCells g (i * 3) vs) := fun ty dc =>
    run_copy_wide _ _ _ ty 52 i0 g (i * 3) (n + 1 - i) dc ⟨b1, 0, none⟩ 1 1 1 vs Try.underlying22 hi0 (by simp only [Nat.min_def]; split <;> omega) (by rw [hzs, hv])
      (fun j v hj => by
        rw [add_plain, Nat.zero_add, ← drew_setCells]
        have h2 := G2.block b1 hvw (by simp; omega)
        have h3 : w.cell? ⟨b1, j, none⟩ = some v := by rw [cell_of_row w b1 j _ _ (0, 0) hnb]; simpa using hj
        exact (World.cell?_of_block (a := ⟨b1, j, none⟩) h2).trans h3)
      (fun j hj => by rw [← drew_setCells]; exact cellSome _ _ _ _ _ R2 _ (by omega)) (fun j hj => by rw [← drew_setCells]; exact World.ownsRow.frozenAt R2 _) h1v.out
  have hfin : Hid (over (over (cur.toList.take ((n + 1) * 3)) ((i + 1) * 3) (cs.drop (i * 3))) (i * 3) vs = cs.take (i * 3) ++ vs ++ cs.drop (i * 3)) := by
    rw [show (i + 1) * 3 = i * 3 + 3 by omega]
    exact over_ins2 hv (by omega) (by rw [List.length_take, Array.length_toList, hcs0]; omega) (fun k hk => by
      rw [← htk, List.getElem?_take, if_pos (by omega), List.getElem?_take, if_pos (by omega)])
  have HR3 := (show Hid _ from R3)
  have HG : Hid (w.grownBy ((w.setCells g ((i + 1) * 3) (cs.drop (i * 3))).setCells g (i * 3) vs) (some g)) :=
    ⟨G3.os.trans G2.os, G3.tape.trans G2.tape, G3.output.trans G2.output, Nat.le_trans G2.size G3.size, fun k hk hne => (G3.block k (Nat.lt_of_lt_of_le hk G2.size) hne).trans (G2.block k hk hne)⟩
  have hw1 : IntKind.i64.wrap ((i : Int) + 1) = (i : Int) + 1 := by rw [IntKind.wrap_i64]; omega
  have hz2 : ¬ ((i : Int) = (n : Int)) := by omega
  have hz3 : ¬ ((c : Int) < (n : Int) + 1) := by omega
  have hci : ¬ (c = i) := by omega
  have hci1 : ¬ (c = i + 1) := by omega
  have hin : i ≤ n := by omega
  have htn : ((i : Int) + 1).toNat = i + 1 := by omega
  have hb1 : (0 : Int) ≤ (i : Int) + 1 := by omega
  have hb3 : (i : Int) ≤ (n : Int) + 1 := by omega
  have hin2 : i ≤ n + 1 := by omega
  clear R0 R2 R3 G2 G3 cellSome hown hcs htk hcs0 hg0 hcm
  go_enter Try.func36, Try.ntmps36
  go_wp2_with (simp only [hov])
  go_region_law (refine step_copy_runI rfl _ _ 22 22 rfl (.slice (some ⟨g, (i + 1) * 3, none⟩) (n + 1 - (i + 1)) (c - (i + 1))) (.slice (some ⟨g, i * 3, none⟩) (n + 1 - i) (c - i)) (by simp [Act.eval, Act.put]) (by simp [Act.eval, Act.put]) (hcpA 3 _ _) ?_)
  go_wp2_with (at_builtin; refine wpList_copy_runI _ rfl _ _ 22 22 rfl _ _ rfl rfl (hcpB _ _) ?_)
  go_ret
  rw [← drew_setCells, ← drew_setCells]
  rw [hfin.out] at HR3
  exact ⟨_, rfl, HR3.out, ⟨HG.out.os, HG.out.tape, HG.out.output, HG.out.size, HG.out.block⟩, .inl rfl⟩
end Go.Proofs.Ytcpcnjblojoppaa
