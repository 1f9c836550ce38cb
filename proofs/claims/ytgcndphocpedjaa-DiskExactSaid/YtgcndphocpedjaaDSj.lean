/-
  DISKEXACT: the walk. Own work.
-/
import Derived.Test.YtgcndphocpedjaaDSi
namespace Go.Proofs.Ytgcndphocpedjaa
open Go.ChangeShapes Go.WideShapes Go.ChangeAt Go.RowKit Go.Maps Go.Deep
set_option maxRecDepth 100000
attribute [local go_sem ↓] Go.wp_at_zero Go.wp_at_succ
set_option maxHeartbeats 8000000 in
theorem exact_no (n : Int) (v : Value) (S : List Ac) (w : World) (H2 : Acts w v S) (hn : ¬ (1 ≤ n ∧ n ≤ 512)) : Calls Try.prog 3 #[.int .i64 n, v] w fun e w' => e = .returned (.bool true) ∧ Below w.heap.size w w' := by
  have HN := (show Hid _ from hn)
  clear hn
  go_enter Try.func3, Try.ntmps3
  go_wp2_with (first
    | (go_at_call 7; refine (heavy_ok H2).mono ?_; rintro ev w ⟨rfl, r, rfl, hr⟩; clear hr; cases r)
    | (go_at_call 8; refine (new_no n HN.out _).mono ?_; rintro ev w1 ⟨rfl, rfl⟩)
    | (go_at_call 9; refine (pnew_no n HN.out _).mono ?_; rintro ev w1 ⟨rfl, rfl⟩)
    | (go_at_call 10; refine (wakes13_ok _).mono ?_; rintro ev w11 ⟨rfl, B11⟩))
  all_goals go_ret
  all_goals first
    | exact ⟨by simp, Below.refl _ _⟩
    | exact ⟨by simp, B11⟩
set_option maxHeartbeats 8000000 in
theorem exact_yes (n : Nat) (h1 : 0 < n) (h2 : n ≤ 512) (v : Value) (S : List Ac) (w : World) (H2 : Acts w v S) : Calls Try.prog 3 #[.int .i64 (n : Int), v] w fun e w' => e = .returned (.bool true) ∧ Below w.heap.size w w' := by
  obtain ⟨p2, c2, rfl, _⟩ := id H2
  go_enter Try.func3, Try.ntmps3
  go_wp2_with (first
    | (go_at_call 7; refine (heavy_ok H2).mono ?_; rintro ev w ⟨rfl, r, rfl, hr⟩; have HR := (show Hid _ from hr); clear hr; cases r)
    | (go_at_call 8; refine (new_ok n h1 h2 _).mono ?_; rintro ev w1 ⟨db, vs, vn, rfl, D0⟩)
    | (go_at_call 9; refine (pnew_ok n h1 h2 _).mono ?_; rintro ev w2 ⟨pb, us, ut, sl, rfl, N0⟩; have X0 := both_start h1 h2 D0 N0; clear D0 N0))
  all_goals first
    | (go_ret; exact ⟨by simp, Below.refl _ _⟩)
    | skip
  go_loopw [8] (fun i wq => ∃ j : Nat, i = .int .i64 j ∧ j ≤ S.length ∧ j ≤ 100 ∧ Bx w wq db pb n j) (fun i _ => S.length - (intOf i).toNat)
  case atStart => exact ⟨0, rfl, by omega, by omega, X0⟩
  case round =>
    clear X0
    obtain ⟨j, rfl, hj, hj2, X⟩ := hrel
    by_cases hgo : j < S.length ∧ j < 100
    · obtain ⟨hlt, h100⟩ := hgo
      have hjI : (j : Int) < S.length := by omega
      have h100I : (j : Int) < 100 := by omega
      obtain ⟨b, o, rfl, hb, A⟩ := acts_nth H2 hlt
      obtain ⟨_, hlens⟩ := HR.out (by simp)
      have hlen := hlens j hlt h100
      have x0 := (X.below.cell (p := ⟨b, o + j * 6, none⟩) hb).trans A.c0
      have x1 := (X.below.cell (p := ⟨b, o + j * 6 + 1, none⟩) hb).trans A.c1
      have x2 := (X.below.cell (p := ⟨b, o + j * 6 + 2, none⟩) hb).trans A.c2
      have x3 := (X.below.cell (p := ⟨b, o + j * 6 + 3, none⟩) hb).trans A.c3
      have x4 := (X.below.cell (p := ⟨b, o + j * 6 + 4, none⟩) hb).trans A.c4
      have x5 := (X.below.cell (p := ⟨b, o + j * 6 + 5, none⟩) hb).trans A.c5
      have rb := A.rb
      have rk := A.rk
      have ii := A.ii
      clear A hlens
      generalize S[j] = a at *
      obtain ⟨ad, ai, abv, abs, ar, akv, aks, at'⟩ := a
      simp only at x0 x1 x2 x3 x4 x5 rb rk ii hlen
      obtain ⟨pb', cb, rfl⟩ := rdv_shape rb
      obtain ⟨pk', ck, rfl⟩ := rdv_shape rk
      simp only [List.length_map] at x2 x4 rb rk
      have SA := (show Hid _ from step_all X (by omega) ⟨ad, ai, .slice pb' abs.length cb, abs, ar, .slice pk' aks.length ck, aks, at'⟩ rfl rfl rb rk (by show abs.length ≤ 1000; omega) (by show aks.length ≤ 1000; omega) ii)
      clear rb rk ii
      by_cases h20 : (n : Int) ≤ 20
      · go_wp2_with (first
          | (go_at_call 11; refine Calls.mono SA.out ?_; rintro ev w5 ⟨rfl, X1⟩; clear SA)
          | (go_at_call 12; refine Calls.mono (X1.same (by omega)) ?_; rintro ev w6 ⟨rfl, X2⟩))
        exact ⟨⟨j + 1, by simp, by omega, by omega, X2⟩, by simp [intOf]; omega⟩
      · go_wp2_with (first
          | (go_at_call 11; refine Calls.mono SA.out ?_; rintro ev w5 ⟨rfl, X1⟩; clear SA))
        exact ⟨⟨j + 1, by simp, by omega, by omega, X1⟩, by simp [intOf]; omega⟩
    · have hcs : ¬ (j : Int) < S.length ∨ ((j : Int) < S.length ∧ ¬ (j : Int) < 100) := by omega
      rcases hcs with h1 | ⟨h1, h2⟩
      all_goals
        go_wp2_with (first
          | (go_at_call 12; refine Calls.mono (X.same (by omega)) ?_; rintro ev w6 ⟨rfl, X2⟩)
          | (go_at_call 10; refine (wakes13_ok _).mono ?_; rintro ev w11 ⟨rfl, B11⟩))
        go_ret
        exact ⟨by simp, X2.below.trans (B11.mono X2.below.size)⟩
theorem exact_low (n : Int) (v : Value) (S : List Ac) (w : World) (H2 : Acts w v S) : Calls Try.prog 3 #[.int .i64 n, v] w fun e w' => e = .returned (.bool true) ∧ Below w.heap.size w w' := by
  by_cases hn : 1 ≤ n ∧ n ≤ 512
  · obtain ⟨k, rfl⟩ : ∃ k : Nat, n = k := ⟨n.toNat, by omega⟩
    exact exact_yes k (by omega) (by omega) v S w H2
  · exact exact_no n v S w H2 hn
end Go.Proofs.Ytgcndphocpedjaa
