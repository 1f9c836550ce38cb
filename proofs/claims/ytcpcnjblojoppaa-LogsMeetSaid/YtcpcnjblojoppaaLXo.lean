/-
  LAYER 25: slices.Insert in the middle. Own work, after the kit's shelf.
-/
import Derived.Test.YtcpcnjblojoppaaLXn
import Derived.Deep.RegionLaw
namespace Go.Proofs.Ytcpcnjblojoppaa
open Go.ChangeShapes Go.WideShapes Go.ChangeAt Go.RowKit Go.Maps Go.Lib
set_option maxRecDepth 100000
attribute [local go_sem ↓] Go.wp_at_zero Go.wp_at_succ
def zlog : Value := .agg #[.int .i64 0, .int .i64 0, .slice none 0 0]
theorem zlog_cells : zlog.cells.size = 3 := rfl
set_option maxHeartbeats 8000000 in
theorem insert_grow (g n i b1 base : Nat) (cs vs : List Value) (w : World) (hb : base ≤ w.heap.size) (hown : Hid (w.ownsRow base 52 3 (.slice (some ⟨g, 0, none⟩) n n) n cs)) (hv : vs.length = 3) (hnew : Hid (∀ j u, vs[j]? = some u → w.cell? ⟨b1, j, none⟩ = some u)) (h1c : Hid (∀ u ∈ cs, u.oneCell' = true)) (h1v : Hid (∀ u ∈ vs, u.oneCell' = true)) (hi : i < n) (h4 : n ≤ 1000) :
    Calls Try.prog 36 #[.slice (some ⟨g, 0, none⟩) n n, .int .i64 i, .slice (some ⟨b1, 0, none⟩) 1 1] w fun e w' => ∃ v', e = .returned v' ∧ w'.ownsRow base 52 3 v' (n + 1) (cs.take (i * 3) ++ vs ++ cs.drop (i * 3)) ∧ w.grownBy w' (some g) ∧ (v'.ownBlock = some g ∨ v'.ownBlock = some w.heap.size) := by
  obtain ⟨i0, hi0, hz0, hzs, hzb⟩ := info_parts (P := Try.prog) (e := 52) (z := zlog) (size := 3) (bytes := 40) (by kernel_rfl)
  have hcl : cs.length = n * 3 := hown.out.1
  have hcs : ∀ j u, cs[j]? = some u → w.cell? ⟨g, j, none⟩ = some u := fun j u h => by
    have := World.ownsRow.cells hown.out rfl j u h
    rwa [add_plain, Nat.zero_add] at this
  have hbw : g < w.heap.size := (own_block hown.out (k := g) rfl).2
  have hvw : b1 < w.heap.size := World.block_lt_of_cell? w _ (hnew.out 0 _ (List.getElem?_eq_getElem (by omega)))
  have hkk : (n : Int) + 1 - (i : Int) = ((n + 1 - i : Nat) : Int) := by omega
  have hik : i + (n + 1 - i) = n + 1 := by omega
  have hold : (Builtin.firstCells i0.size i (.slice (some ⟨g, 0, none⟩) i n)).run Try.prog w.drew = .ok (cs.take (i * 3)).toArray w.drew := by
    rw [hzs]
    exact run_firstCells_some w.drew 3 i ⟨g, 0, none⟩ i n (cs.take (i * 3)) (by rw [List.length_take]; omega) (fun j v hj => by
      rw [add_plain, Nat.zero_add]
      rw [List.getElem?_take] at hj
      split at hj
      · exact hcs j v hj
      · cases hj)
  obtain ⟨G, hG⟩ : ∃ G, G = grownCap w (n + 1) n 52 := ⟨_, rfl⟩
  obtain ⟨ROW, hROW⟩ : ∃ ROW : Array Value, ROW = (cs.take (i * 3)).toArray ++ Builtin.zeroCells zlog.cells (n + 1 - i) ++ Builtin.zeroCells zlog.cells (G - (n + 1)) := ⟨_, rfl⟩
  have hrz : ∀ ty, (Builtin.append_ #[22, 3] ty #[.slice (some ⟨g, 0, none⟩) i n, .int .i64 ((n : Int) + 1 - (i : Int))]).run Try.prog w =
      .ok (.slice (some ⟨w.heap.size, 0, none⟩) (n + 1) G) (w.drew.alloc (.cells ROW 52)) := fun ty => by
    have h := Lib.run_append_grow_zeros w 22 3 ty 52 i0 zlog .i64 .i64 Try.underlying22 Try.underlying3 hi0 hz0 (some ⟨g, 0, none⟩) i n (cs.take (i * 3)) hold (n + 1 - i) (by omega) (by omega) (by omega) (by omega) (by rw [hzb]; omega) (by rw [hzb, hik]; exact growslice_fits (by omega) (by omega))
    rw [hik] at h
    rw [hkk, hROW, hG]
    exact h
  have hGn : n + 1 ≤ G := by rw [hG]; exact grownCap_ge w _ _ _
  have hG63 : G ≤ 9223372036854775807 := by
    have := grownCap_le_maxLen w (n + 1) n 52 (by unfold maxLen; omega)
    rw [← hG] at this
    unfold maxLen at this
    omega
  have hRs : ROW.size = G * 3 := by
    rw [hROW]
    simp only [Array.size_append, List.size_toArray, size_zeroCells, zlog_cells, List.length_take]
    omega
  have hRow0 : (w.drew.alloc (.cells ROW 52)).ownsRow base 52 3 (.slice (some ⟨w.heap.size, 0, none⟩) (n + 1) G) (n + 1) (ROW.toList.take ((n + 1) * 3)) :=
    ⟨by rw [List.length_take, Array.length_toList, hRs]; omega, .inr ⟨w.heap.size, G, ROW, rfl, hb, heap_alloc_new w.drew _, hGn, by unfold maxLen; omega, hRs, rfl⟩⟩
  have hw1 : IntKind.i64.wrap ((i : Int) + 1) = (i : Int) + 1 := by rw [IntKind.wrap_i64]; omega
  have hz2 : ¬ ((i : Int) = (n : Int)) := by omega
  have hz3 : (n : Int) < (n : Int) + 1 := by omega
  have hGi : ¬ (G = i) := by omega
  have hGim : ¬ (G = i + 1) := by omega
  have hci : ¬ (n = i) := by omega
  have hin : i ≤ n := by omega
  have htn : ((i : Int) + 1).toNat = i + 1 := by omega
  have hb1 : (0 : Int) ≤ (i : Int) + 1 := by omega
  have hb3 : (i : Int) ≤ (n : Int) := by omega
  have cellSome : ∀ (W : World) (b n c : Nat) (xs : List Value), W.ownsRow base 52 3 (.slice (some ⟨b, 0, none⟩) n c) n xs → ∀ j, j < n * 3 → (W.cell? ⟨b, j, none⟩).isSome = true := fun W b n c xs h j hj => by
    rw [World.ownsRow.cellAt h j hj, List.getElem?_eq_getElem (by rw [h.1]; exact hj)]
    rfl
  obtain ⟨W1, hW1⟩ : ∃ W1, W1 = (w.alloc (.cells ROW 52)).drew := ⟨_, rfl⟩
  have B1 : Below w.heap.size w W1 := by rw [hW1]; exact ((Below.refl _ w).alloc (Nat.le_refl _) _).drew
  have R1 : W1.ownsRow base 52 3 (.slice (some ⟨w.heap.size, 0, none⟩) (n + 1) G) (n + 1) (ROW.toList.take ((n + 1) * 3)) := by rw [hW1]; exact hRow0
  obtain ⟨R2, G2⟩ := own_over vs (i * 3) W1 _ R1
  obtain ⟨R3, G3⟩ := own_over (cs.drop (i * 3)) ((i + 1) * 3) _ _ R2
  have hdl : (cs.drop (i * 3)).length = (n - i) * 3 := by rw [List.length_drop, hcl]; omega
  have hcpA : ∀ ty dc, (Builtin.copy_ #[22, 22] ty #[.slice (some ⟨w.heap.size, i * 3, none⟩) (n + 1 - i) dc, .slice (some ⟨b1, 0, none⟩) 1 1]).run Try.prog W1 = .ok (goInt ((1 : Nat) : Int)) (W1.setCells w.heap.size (i * 3) vs) := fun ty dc =>
    run_copy_wide W1 _ _ ty 52 i0 w.heap.size (i * 3) (n + 1 - i) dc ⟨b1, 0, none⟩ 1 1 1 vs Try.underlying22 hi0 (by simp only [Nat.min_def]; split <;> omega) (by rw [hzs, hv])
      (fun j v hj => by rw [add_plain, Nat.zero_add]; exact cell_kept (hnew.out j v hj) B1)
      (fun j hj => cellSome W1 _ _ _ _ R1 _ (by omega)) (fun j hj => World.ownsRow.frozenAt R1 _) h1v.out
  have hcpB : ∀ ty dc sc, (Builtin.copy_ #[22, 22] ty #[.slice (some ⟨w.heap.size, (i + 1) * 3, none⟩) (n + 1 - (i + 1)) dc, .slice (some ⟨g, i * 3, none⟩) (n - i) sc]).run Try.prog (W1.setCells w.heap.size (i * 3) vs).drew = .ok (goInt ((n - i : Nat) : Int)) ((W1.setCells w.heap.size (i * 3) vs).drew.setCells w.heap.size ((i + 1) * 3) (cs.drop (i * 3))) := fun ty dc sc =>
    run_copy_wide _ _ _ ty 52 i0 w.heap.size ((i + 1) * 3) (n + 1 - (i + 1)) dc ⟨g, i * 3, none⟩ (n - i) sc (n - i) (cs.drop (i * 3)) Try.underlying22 hi0 (by simp only [Nat.min_def]; split <;> omega) (by rw [hzs, hdl])
      (fun j v hj => by
        rw [add_plain]
        have h := cell_kept (hcs (i * 3 + j) v (by rwa [List.getElem?_drop] at hj)) B1
        have h2 := G2.block g (Nat.lt_of_lt_of_le hbw B1.size) (by simp; omega)
        exact (World.cell?_of_block (a := ⟨g, i * 3 + j, none⟩) h2).trans h)
      (fun j hj => cellSome _ _ _ _ _ R2 _ (by omega)) (fun j hj => World.ownsRow.frozenAt R2 _) (fun v hv => h1c.out v (List.mem_of_mem_drop hv))
  have hfin : Hid (over (over (ROW.toList.take ((n + 1) * 3)) (i * 3) vs) ((i + 1) * 3) (cs.drop (i * 3)) = cs.take (i * 3) ++ vs ++ cs.drop (i * 3)) := by
    rw [show (i + 1) * 3 = i * 3 + 3 by omega]
    exact over_ins hv (by omega) (by rw [List.length_take, Array.length_toList, hRs]; omega) (fun k hk => by
      rw [List.getElem?_take, if_pos (by omega), hROW]
      simp only [Array.toList_append, List.append_assoc]
      rw [List.getElem?_append_left (by simp; omega), List.getElem?_take, if_pos hk])
  have HR3 := (show Hid _ from R3)
  have HG : Hid (w.grownBy ((W1.setCells w.heap.size (i * 3) vs).setCells w.heap.size ((i + 1) * 3) (cs.drop (i * 3))) (some g)) :=
    ⟨G3.os.trans (G2.os.trans B1.os), G3.tape.trans (G2.tape.trans B1.tape), G3.output.trans (G2.output.trans B1.output), Nat.le_trans B1.size (Nat.le_trans G2.size G3.size), fun k hk _ => (G3.block k (Nat.lt_of_lt_of_le hk (Nat.le_trans B1.size G2.size)) (by simp; omega)).trans ((G2.block k (Nat.lt_of_lt_of_le hk B1.size) (by simp; omega)).trans (B1.block k hk))⟩
  clear R1 R2 R3 G2 G3 cellSome hRow0
  rw [hW1] at hcpA hcpB
  have HOW := (show Hid _ from hown.out)
  clear hown hkk hik hold hROW hG
  go_enter Try.func36, Try.ntmps36
  go_wp2_with (first
    | (at_builtin; refine Lib.wpList_append_run _ rfl _ _ _ _ rfl _ _ rfl rfl _ _ (hrz _) ?_)
    | (at_builtin; refine wpList_copy_runI _ rfl _ _ 22 22 rfl _ _ rfl rfl (hcpA _ _) ?_))
  go_region_law (refine step_copy_runI rfl _ _ 22 22 rfl (.slice (some ⟨w.heap.size, (i + 1) * 3, none⟩) (n + 1 - (i + 1)) (G - (i + 1))) (.slice (some ⟨g, i * 3, none⟩) (n - i) (n - i)) (by simp [Act.eval, Act.put]) (by simp [Act.eval, Act.put]) (hcpB 3 (G - (i + 1)) (n - i)) ?_)
  go_wp2
  go_ret
  rw [← drew_setCells, ← hW1]
  rw [hfin.out] at HR3
  exact ⟨_, rfl, HR3.out, ⟨HG.out.os, HG.out.tape, HG.out.output, HG.out.size, HG.out.block⟩, .inr rfl⟩
end Go.Proofs.Ytcpcnjblojoppaa
