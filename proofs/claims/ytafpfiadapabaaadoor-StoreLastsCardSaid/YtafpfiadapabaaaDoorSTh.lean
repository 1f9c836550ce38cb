/-
  STORE: the state is loaded. Own work.
-/
import Derived.Test.YtafpfiadapabaaaDoorSTg
namespace Go.Proofs.YtafpfiadapabaaaDoor
open Go.ChangeShapes Go.WideShapes Go.ChangeAt Go.RowKit Go.Maps Go.Deep
set_option maxRecDepth 100000
attribute [local go_sem ↓] Go.wp_at_zero Go.wp_at_succ
set_option maxHeartbeats 4000000 in
theorem place_ok {w : World} (a i : Nat) (ha : a ≤ 1) (hi : i ≤ 200) : Calls Tryd.prog 31 #[.int .i64 (a : Int), .int .i64 (i : Int)] w fun e w' => e = .returned (.int .i64 ((2 + a * 125 + i : Nat) : Int)) ∧ w' = w := by
  have haI : (a : Int) ≤ 1 := by omega
  have hiI : (i : Int) ≤ 200 := by omega
  go_enter Tryd.func31, Tryd.ntmps31
  go_wp2
  go_ret
  exact ⟨by simp, rfl⟩
theorem pad_get (l : List Int) (q : Nat) (h : q < 64) (h' : q < l.length) : (pad l)[q]? = l[q]? := by
  rw [pad, List.getElem?_append_left (by rw [List.length_take]; omega), List.getElem?_take, if_pos h]
section
variable {w0 w w' : World} {db n : Nat} {d : Dk} {vs vn vw vk : Value} {R : List RowD}
set_option maxHeartbeats 8000000 in
theorem load_ok (T : Dsk w0 w db n d vs vn vw vk R) {S : List Int} {h0 h1 : Hds} {a c : Nat} (H : Held d.now S h0 h1 a c) (hoff : d.off = false) : Calls Tryd.prog 23 #[.pointer (some ⟨db, 0, none⟩)] w fun e w' => ∃ v, e = .returned (.tuple #[v, .nilIface]) ∧ Below w.heap.size w w' ∧ w'.ownsRow w.heap.size 5 1 v S.length (S.map (Value.int .u8)) := by
  have HN := newest_ok T H.s0 H.s1 hoff
  rw [H.b] at HN
  simp only [hval] at HN
  have ha := H.le
  have hS := H.size.1
  obtain ⟨i0, hi, hz0, hz1, hz2⟩ := info_parts (P := Tryd.prog) (e := 5) (z := .int .u8 0) (size := 1) (bytes := 1) (by kernel_rfl)
  go_enter Tryd.func23, Tryd.ntmps23
  go_wp2_with (go_at_call 28; refine HN.mono ?_; rintro ev w1 ⟨rfl, B1⟩; have M1 := HdC.made w1 (a, c, S.length); have BM := B1.trans (((Below.refl _ w1).alloc (Nat.le_refl _) (.cells #[.int .i64 (a : Int), .int .i64 (c : Int), .int .i64 (S.length : Int)] 73)).mono B1.size))
  go_loopw [6, 7] (fun v i wq => ∃ j : Nat, i = .int .i64 j ∧ j ≤ 125 ∧ Below w.heap.size w wq ∧ HdC wq w1.heap.size (a, c, S.length) ∧ wq.ownsRow (w1.heap.size + 1) 5 1 v (min (64 * j) S.length) ((S.take (64 * j)).map (Value.int .u8))) (fun v i _ => 200 - (intOf i).toNat)
  case atStart => exact ⟨0, rfl, by omega, BM, M1, by simpa using World.ownsRow_nil _ _ _ _⟩
  case round =>
    obtain ⟨j, rfl, hj, Bq, Q, hrow⟩ := hrel
    obtain ⟨pq, cq, rfl⟩ := row_slice hrow
    have q0 := Q.c0
    have q2 := Q.c2
    by_cases hlt : 64 * j < S.length
    · have hmin : min (64 * j) S.length = 64 * j := by omega
      rw [hmin] at hrow ⊢
      have hltI : 64 * (j : Int) < S.length := by omega
      have hSI : (S.length : Int) ≤ 8000 := by omega
      have hjI : (j : Int) ≤ 125 := by omega
      have Tq := T.step Bq
      by_cases hge : 64 ≤ S.length - 64 * j
      · have hA : 64 ≤ (S.length : Int) - 64 * j := by omega
        have hcs : ((S.drop (j * 64)).take 64).length = 64 := by simp; omega
        go_wp2_with (first
          | (go_at_call 31; refine (place_ok a j ha (by omega)).mono ?_; rintro ev w2 ⟨rfl, rfl⟩)
          | (go_at_call 30; refine (read_okB Tq (2 + a * 125 + j) _ (H.area j (by omega)) hoff rfl).mono ?_; rintro ev w3 ⟨v3, rfl, B3, hr3⟩
             obtain ⟨p3, c3, rfl⟩ := row_slice hr3
             obtain ⟨g3, rfl, hg1, hg2, hg3, hg4⟩ := row_open hr3 (by omega)
             have Q3 := Q.below B3
             have q0 := Q3.c0
             have q2 := Q3.c2
             have hrow3 := row_keeps (F := fun _ => False) hrow (Keeps.of_below B3) (fun _ _ h => h)
             have BX := Bq.trans (B3.mono Bq.size)
             have hc64 : (64 : Int) ≤ c3 := by omega
             have hnews : ∀ q u, (((S.drop (j * 64)).take 64).map (Value.int .u8))[q]? = some u → w3.cell? ((⟨g3, 0, none⟩ : Addr).add q) = some u := fun q u hq => by
               have hq' := (List.getElem?_eq_some_iff.1 hq).1
               rw [List.length_map, hcs] at hq'
               rw [addr_mid, Nat.zero_add, hg4 q (by omega), ← hq, List.getElem?_map, List.getElem?_map, pad_get _ q (by omega) (by rw [List.length_drop]; omega), List.getElem?_take, if_pos hq']
             clear hg4 hr3 hrow)
          | (at_builtin; refine wpList_append_own _ rfl (.tmp 39) (.tmp 49) 31 rfl (w1.heap.size + 1) 5 i0 (.int .u8 0) 1 1 Tryd.underlying31 hi hz0 hz1 hz2 rfl (by decide) (.slice pq (64 * j) cq) (64 * j) ((S.take (64 * j)).map (Value.int .u8)) rfl hrow3 ⟨g3, 0, none⟩ 64 c3 (((S.drop (j * 64)).take 64).map (Value.int .u8)) rfl (by rw [List.length_map, hcs, Nat.mul_one]) hnews (one_map _ (fun _ => rfl) _) (by unfold maxLen; omega) (by omega) Q3.lt ?_; intro v' w4 hown4 hgrow4 _))
        have hj1 : (S.take (64 * j)).map (Value.int .u8) ++ ((S.drop (j * 64)).take 64).map (Value.int .u8) = (S.take (64 * (j + 1))).map (Value.int .u8) := by
          rw [← List.map_append, Nat.mul_comm j 64]
          congr 1
          rw [show 64 * (j + 1) = 64 * j + 64 by omega, List.take_add]
        have hn1 : 64 * j + 64 = min (64 * (j + 1)) S.length := by omega
        rw [hj1, hn1] at hown4
        have BG := (Below.refl w.heap.size w).trans (BX.grown hgrow4 BX.size (fun k hk => by have := (row_base hrow3 hk).1; have := B1.size; omega))
        refine ⟨⟨j + 1, by simp, by omega, BG, Q3.keep (Keeps.of_grown hgrow4 (fun k hk => hk)) (fun he => by have := (row_base hrow3 he).1; omega), hown4⟩, by simp [intOf]; omega⟩
      · have hA : ¬ 64 ≤ (S.length : Int) - 64 * j := by omega
        have hrN : ((S.length : Int) - 64 * j).toNat = S.length - 64 * j := by omega
        have hcs : ((S.drop (j * 64)).take (S.length - 64 * j)).length = (S.length - 64 * j) := by simp; omega
        go_wp2_with (first
          | (go_at_call 31; refine (place_ok a j ha (by omega)).mono ?_; rintro ev w2 ⟨rfl, rfl⟩)
          | (go_at_call 30; refine (read_okB Tq (2 + a * 125 + j) _ (H.area j (by omega)) hoff rfl).mono ?_; rintro ev w3 ⟨v3, rfl, B3, hr3⟩
             obtain ⟨p3, c3, rfl⟩ := row_slice hr3
             obtain ⟨g3, rfl, hg1, hg2, hg3, hg4⟩ := row_open hr3 (by omega)
             have Q3 := Q.below B3
             have q0 := Q3.c0
             have q2 := Q3.c2
             have hrow3 := row_keeps (F := fun _ => False) hrow (Keeps.of_below B3) (fun _ _ h => h)
             have BX := Bq.trans (B3.mono Bq.size)
             have hc64 : (64 : Int) ≤ c3 := by omega
             have hnews : ∀ q u, (((S.drop (j * 64)).take (S.length - 64 * j)).map (Value.int .u8))[q]? = some u → w3.cell? ((⟨g3, 0, none⟩ : Addr).add q) = some u := fun q u hq => by
               have hq' := (List.getElem?_eq_some_iff.1 hq).1
               rw [List.length_map, hcs] at hq'
               rw [addr_mid, Nat.zero_add, hg4 q (by omega), ← hq, List.getElem?_map, List.getElem?_map, pad_get _ q (by omega) (by rw [List.length_drop]; omega), List.getElem?_take, if_pos hq']
             clear hg4 hr3 hrow)
          | (at_builtin; refine wpList_append_own _ rfl (.tmp 39) (.tmp 49) 31 rfl (w1.heap.size + 1) 5 i0 (.int .u8 0) 1 1 Tryd.underlying31 hi hz0 hz1 hz2 rfl (by decide) (.slice pq (64 * j) cq) (64 * j) ((S.take (64 * j)).map (Value.int .u8)) rfl hrow3 ⟨g3, 0, none⟩ (S.length - 64 * j) c3 (((S.drop (j * 64)).take (S.length - 64 * j)).map (Value.int .u8)) rfl (by rw [List.length_map, hcs, Nat.mul_one]) hnews (one_map _ (fun _ => rfl) _) (by unfold maxLen; omega) (by omega) Q3.lt ?_; intro v' w4 hown4 hgrow4 _))
        have hj1 : (S.take (64 * j)).map (Value.int .u8) ++ ((S.drop (j * 64)).take (S.length - 64 * j)).map (Value.int .u8) = (S.take (64 * (j + 1))).map (Value.int .u8) := by
          rw [← List.map_append, Nat.mul_comm j 64]
          congr 1
          have h1 : (S.drop (64 * j)).take (S.length - 64 * j) = S.drop (64 * j) := List.take_of_length_le (by rw [List.length_drop]; omega)
          have h2 : S.take (64 * (j + 1)) = S := List.take_of_length_le (by omega)
          rw [h1, h2, List.take_append_drop]
        have hn1 : 64 * j + (S.length - 64 * j) = min (64 * (j + 1)) S.length := by omega
        rw [hj1, hn1] at hown4
        have BG := (Below.refl w.heap.size w).trans (BX.grown hgrow4 BX.size (fun k hk => by have := (row_base hrow3 hk).1; have := B1.size; omega))
        refine ⟨⟨j + 1, by simp, by omega, BG, Q3.keep (Keeps.of_grown hgrow4 (fun k hk => hk)) (fun he => by have := (row_base hrow3 he).1; omega), hown4⟩, by simp [intOf]; omega⟩
    · have hmin : min (64 * j) S.length = S.length := by omega
      rw [hmin] at hrow ⊢
      have hltI : ¬ 64 * (j : Int) < S.length := by omega
      have hall : S.take (64 * j) = S := List.take_of_length_le (by omega)
      rw [hall] at hrow
      go_wp2
      refine bodyPost_ret (v := .tuple #[.slice pq S.length cq, .nilIface]) (by simp [results, Tryd.results23, go_sem]) rfl ?_
      exact ⟨_, rfl, Bq, row_lower hrow (by have := B1.size; omega)⟩
end
end Go.Proofs.YtafpfiadapabaaaDoor
