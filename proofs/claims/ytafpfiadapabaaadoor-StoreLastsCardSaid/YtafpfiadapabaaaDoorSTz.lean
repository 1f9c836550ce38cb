/-
  STORELASTS: the state that a Save tells. Own work.
-/
import Derived.Test.YtafpfiadapabaaaDoorSTy
namespace Go.Proofs.YtafpfiadapabaaaDoor
open Go.ChangeShapes Go.WideShapes Go.ChangeAt Go.RowKit Go.Maps Go.Deep
set_option maxRecDepth 100000
attribute [local go_sem ↓] Go.wp_at_zero Go.wp_at_succ
theorem conv30 (c : Int) : ∃ k : Nat, k < 30 ∧ IntKind.i64.wrap ((IntKind.u64.wrap c).tmod 30) = k := by
  have h : 0 ≤ IntKind.u64.wrap c := Int.emod_nonneg _ (by decide)
  generalize IntKind.u64.wrap c = u at h
  rw [Int.tmod_eq_emod_of_nonneg h]
  refine ⟨(u % 30).toNat, by omega, ?_⟩
  rw [IntWalk.i64_in _ (by omega)]
  omega
theorem append_none {w : World} (base : Nat) (ty : TypeId) (v : Value) (n c : Nat) (xs : List Value) (hown : w.ownsRow base 5 1 v n xs) : (Builtin.append_ #[31, 31] ty #[v, .slice none 0 c]).run Tryd.prog w = .ok v w := by
  obtain ⟨i0, hi, hz0, hz1, hz2⟩ := info_parts (P := Tryd.prog) (e := 5) (z := .int .u8 0) (size := 1) (bytes := 1) (by kernel_rfl)
  have ht := Tryd.underlying31
  rcases hown.2 with ⟨rfl, rfl⟩ | ⟨g, cap, cur, rfl, _, _, hnc, _⟩
  · simp [Builtin.append_, run_underlying ht, sizeOf, typeInfo, hi, Builtin.lenOf, Builtin.firstCells]
  · simp [Builtin.append_, run_underlying ht, sizeOf, typeInfo, hi, Builtin.lenOf, Builtin.firstCells, hnc, storeCells]
section
attribute [-go_sem] Go.Builtin.append_
set_option maxHeartbeats 8000000 in
theorem state_of {w : World} (a : Sv) (hb : RdV w a.bv (a.bs.map (Value.int .u8))) (hl : a.bs.length ≤ 300) : Calls Tryd.prog 11 #[a.val] w fun e w' => ∃ v : Value, e = .returned v ∧ Below w.heap.size w w' ∧ ∃ Z : List Int, w'.ownsRow w.heap.size 5 1 v Z.length (Z.map (Value.int .u8)) ∧ Z.length ≤ 8000 := by
  obtain ⟨i0, hi, hz0, hz1, hz2⟩ := info_parts (P := Tryd.prog) (e := 5) (z := .int .u8 0) (size := 1) (bytes := 1) (by kernel_rfl)
  obtain ⟨bv, bs, ti, tr, kv, ks, t, av, zs0⟩ := a
  simp only [Sv.val] at hb hl ⊢
  obtain ⟨p, c, rfl⟩ := rdv_shape hb
  rw [List.length_map] at hb ⊢
  obtain ⟨q, hq, hconv⟩ := conv30 ti
  have hlI : (bs.length : Int) ≤ 300 := by omega
  have HB := (show Hid _ from hb)
  clear hb
  go_enter Tryd.func11, Tryd.ntmps11
  go_wp2
  have B1 := (Below.refl w.heap.size w).alloc (Nat.le_refl _) (.cells #[.slice p bs.length c, .int .i64 ti, .int .i64 tr, kv, .int .i64 t, av] 36)
  have k1 : (w.alloc (.cells #[.slice p bs.length c, .int .i64 ti, .int .i64 tr, kv, .int .i64 t, av] 36)).cell? ⟨w.heap.size, 0, none⟩ = some (.slice p bs.length c) := by simp
  have z1 : (w.alloc (.cells #[.slice p bs.length c, .int .i64 ti, .int .i64 tr, kv, .int .i64 t, av] 36)).heap.size = w.heap.size + 1 := by simp
  go_loopw [3, 4] (fun v k wq => ∃ (z : Int) (Z : List Int), k = .int .i64 z ∧ -1 ≤ z ∧ z < 30 ∧ Below w.heap.size w wq ∧ w.heap.size + 1 ≤ wq.heap.size ∧ wq.cell? ⟨w.heap.size, 0, none⟩ = some (.slice p bs.length c) ∧ wq.ownsRow (w.heap.size + 1) 5 1 v Z.length (Z.map (Value.int .u8)) ∧ Z.length ≤ 8000) (fun v k _ => (intOf k + 1).toNat)
  case atStart => exact ⟨(q : Int), [], rfl, by omega, by omega, B1, by omega, k1, World.ownsRow_nil _ _ _ _, by simp⟩
  case round =>
    obtain ⟨z, Z, rfl, hz1', hz2', Bq, hsz, kq, hr, hZ⟩ := hrel
    clear k1 B1 z1
    obtain ⟨pv, cv, rfl⟩ := row_slice hr
    have hZI : (Z.length : Int) ≤ 8000 := by omega
    by_cases hz : 0 ≤ z
    · by_cases hfit : Z.length + bs.length ≤ 8000
      · have hfitI : (Z.length : Int) + bs.length ≤ 8000 := by omega
        have hlow : wr.ownsRow w.heap.size 5 1 (.slice pv Z.length cv) Z.length (Z.map (Value.int .u8)) := row_lower hr (by omega)
        cases p with
        | none =>
          have hbs : bs = [] := by
            obtain ⟨p', c', e, h | ⟨b, o, h, _⟩⟩ := HB.out
            · exact List.map_eq_nil_iff.1 h
            · injection e with e1 _ _
              rw [h] at e1
              cases e1
          subst hbs
          have hap := append_none (w.heap.size + 1) 31 (.slice pv Z.length cv) Z.length c _ hr
          simp only [List.length_nil, Nat.add_zero] at *
          go_wp2
          exact ⟨⟨z - 1, Z, rfl, by omega, by omega, Bq, hsz, kq, hr, hZ⟩, by simp [intOf]; omega⟩
        | some ad =>
          have hnews := rdv_news HB.out
          have HNW : Hid (∀ j u, (bs.map (Value.int .u8))[j]? = some u → wr.cell? (ad.add j) = some u) := fun j u hj => by
            have h1 := hnews j u hj
            have hlt := World.block_lt_of_cell? w _ h1
            exact (Bq.cell hlt).trans h1
          have HR := (show Hid _ from hr)
          have HSZ := (show Hid _ from hsz)
          clear hnews
          go_wp2_with (at_builtin; refine wpList_append_own _ rfl (.tmp 23) (.tmp 25) 31 rfl (w.heap.size + 1) 5 i0 (.int .u8 0) 1 1 Tryd.underlying31 hi hz0 hz1 hz2 rfl (by decide) (.slice pv Z.length cv) Z.length (Z.map (Value.int .u8)) rfl HR.out ad bs.length c (bs.map (Value.int .u8)) rfl (by simp) HNW.out (one_map _ (fun _ => rfl) _) (by unfold maxLen; omega) (by omega) HSZ.out ?_; intro v' w4 hown4 hgrow4 _)
          rw [← List.map_append, ← List.length_append] at hown4
          have BG := Bq.grown hgrow4 Bq.size (fun q hq => by have := (row_base hr hq).1; omega)
          exact ⟨⟨z - 1, Z ++ bs, rfl, by omega, by omega, BG, Nat.le_trans hsz hgrow4.4, (World.cell?_of_block (hgrow4.5 _ (by show w.heap.size < _; omega) (fun he => by have := (row_base hr he.symm).1; simp at this; omega))).trans kq, hown4, by rw [List.length_append]; exact hfit⟩, by simp [intOf]; omega⟩
      · have hfitI : ¬ (Z.length : Int) + bs.length ≤ 8000 := by omega
        go_wp2
        go_ret
        exact ⟨_, rfl, Bq, Z, row_lower hr (by omega), hZ⟩
    · have hzz : z = -1 := by omega
      subst hzz
      go_wp2
      go_ret
      exact ⟨_, rfl, Bq, Z, row_lower hr (by omega), hZ⟩
end
end Go.Proofs.YtafpfiadapabaaaDoor
