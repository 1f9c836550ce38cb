/-
  LAYER 25: LogsLong, the walk. Own work.
-/
import Derived.Test.YtgpcmblfcelijaaLXl
namespace Go.Proofs.Ytgpcmblfcelijaa
open Go.ChangeShapes Go.WideShapes Go.ChangeAt Go.RowKit Go.Maps
set_option maxRecDepth 100000
attribute [local go_sem ↓] Go.wp_at_zero Go.wp_at_succ
theorem u64_pos (c : Int) : 0 ≤ IntKind.u64.wrap c := Int.emod_nonneg _ (by decide)
theorem w64_small {z : Int} (h0 : 0 ≤ z) (h1 : z < 2000000) : wrap64 z = z := by
  exact IntWalk.wrap64_in _ (by omega)
theorem conv8 (c : Int) : ∃ k : Nat, k < 8 ∧ wrap64 ((IntKind.u64.wrap c).tmod 8) = k := by
  have h := u64_pos c
  generalize IntKind.u64.wrap c = u at h
  rw [Int.tmod_eq_emod_of_nonneg h]
  refine ⟨(u % 8).toNat, by omega, ?_⟩
  rw [w64_small (by omega) (by omega)]
  omega
theorem conv20 (c : Int) : 0 ≤ wrap64 ((IntKind.u64.wrap c).tmod 1048577) ∧ wrap64 ((IntKind.u64.wrap c).tmod 1048577) ≤ 1048576 := by
  have h := u64_pos c
  generalize IntKind.u64.wrap c = u at h
  rw [Int.tmod_eq_emod_of_nonneg h]
  rw [w64_small (by omega) (by omega)]
  omega
theorem One.bodies {S : List Lg} {cl : Nat} {ys : List Int} (h : One S cl ys) : ∀ i (h : i < S.length), S[i].xs.length ≤ 32 := by
  obtain ⟨_, hl, ⟨_, rfl⟩ | ⟨v, rfl⟩⟩ := h
  · exact fun i h => absurd h (Nat.not_lt_zero _)
  · intro i h
    obtain rfl : i = 0 := by simpa using h
    exact hl
def LgI (ws : World) (cl : Nat) (v u : Value) (j : Nat) (wr : World) : Prop := ∃ S T ys, One S cl ys ∧ One T cl ys ∧ Logs wr v S ∧ Logs wr u T ∧ ys.length = min j 32 ∧ Below ws.heap.size ws wr
set_option maxHeartbeats 16000000 in
theorem llong_low (c : Int) (pv : Option Addr) (n cv : Nat) (bs : List Int) (hn : bs.length = n) (ws : World) (HV : Hid (RdW ws (.slice pv n cv) bs)) : Calls Try.prog 7 #[.int .i64 c, .slice pv n cv] ws fun e w' => e = .returned (.bool true) ∧ Below ws.heap.size ws w' := by
  go_enter Try.func7, Try.ntmps7
  by_cases h100 : 100 < n
  · go_wp2
    go_ret
    exact ⟨rfl, Below.refl _ _⟩
  go_wp2
  obtain ⟨cl, hcl, hce⟩ := conv8 c
  rw [hce]
  clear hce
  go_loopw [5, 6, 7] (fun v u i wr => ∃ j : Nat, i = .int .i64 j ∧ j ≤ n ∧ LgI ws cl v u j wr) (fun _ _ i _ => n - (intOf i).toNat)
  case atStart => exact ⟨0, rfl, by omega, [], [], [], ⟨by simp, by simp, .inl ⟨rfl, rfl⟩⟩, ⟨by simp, by simp, .inl ⟨rfl, rfl⟩⟩, ⟨none, 0, rfl, .inl rfl⟩, ⟨none, 0, rfl, .inl rfl⟩, by simp, Below.refl _ _⟩
  case round =>
    obtain ⟨j, rfl, hj, S, T, ys, hoS, hoT, hlS, hlT, hyl, hB⟩ := hrel
    have OS := (show Hid _ from hoS)
    have OT := (show Hid _ from hoT)
    have LS := (show Hid (Logs wr u5 S) from hlS)
    have LT := (show Hid (Logs wr u6 T) from hlT)
    clear hoS hoT hlS hlT
    by_cases hlt : j < n
    · obtain ⟨bv, ov, rfl, hbv, hcv0⟩ := rdw_at HV.out (t := j) (by omega)
      have hcv := (hB.cell (p := ⟨bv, ov + j, none⟩) hbv).trans hcv0
      have hbv' := Nat.lt_of_lt_of_le hbv hB.size
      clear hcv0
      generalize bs.getD j 0 = z at hcv
      obtain ⟨hz0, hz1⟩ := conv20 z
      generalize hze : wrap64 ((IntKind.u64.wrap z).tmod 1048577) = y at hz0 hz1
      by_cases h32 : j < 32
      · have hyj : ys.length = j := by omega
        have hj1 : ((j : Nat) : Int) < 32 := by omega
        have hfin : Hid (∀ (v' u' : Value) (S' T' : List Lg) (w4 : World), One S' cl (ys ++ [y]) → One T' cl (ys ++ [y]) → Logs w4 v' S' → Logs w4 u' T' → Below ws.heap.size ws w4 → LgI ws cl v' u' (j + 1) w4) := fun v' u' S' T' w4 a b c d e => ⟨S', T', ys ++ [y], a, b, c, d, by rw [List.length_append]; simp; omega, e⟩
        have hne : Hid (ys ++ [y] ≠ []) := fun e => by simp at e
        have hyI : ((ys.length : Nat) : Int) = j := by omega
        clear hyl
        go_wp2_with (first
          | (go_at_call 16; rw [hze]; refine (say_more LS.out OS.out hcl (by omega) hz0 hz1).mono ?_; rintro ev w1 ⟨v', S', rfl, ho1, hl1, B1⟩; rw [hyI]
             have O1 := (show Hid (One S' cl (ys ++ [y])) from ho1)
             have L1 := (show Hid (Logs w1 v' S') from hl1)
             clear ho1 hl1)
          | (go_at_call 20; refine (put_more (Logs.below LT.out B1) OT.out hcl (by omega) hz0 hz1 (by omega)).mono ?_; rintro ev w2 ⟨u', T', rfl, ho2, hl2, B2⟩
             have O2 := (show Hid (One T' cl (ys ++ [y])) from ho2)
             have L2 := (show Hid (Logs w2 u' T') from hl2)
             clear ho2 hl2)
          | (go_at_call 18; refine (klogs_ok (Logs.below L1.out B2) L2.out (One.alike O1.out O2.out hne.out) (by have := One.len O1.out; omega) (fun i h => by have := One.bodies O1.out i h; omega)).mono ?_; rintro ev w3 ⟨rfl, B3⟩
             have B5 : Below ws.heap.size ws w3 := ((hB.trans (B1.mono hB.size)).trans (B2.mono (Nat.le_trans hB.size B1.size))).trans (B3.mono (Nat.le_trans hB.size (Nat.le_trans B1.size B2.size)))
             have HN := (show Hid (LgI ws cl v' u' (j + 1) w3) from hfin.out v' u' S' T' w3 O1.out O2.out (Logs.below (Logs.below L1.out B2) B3) (Logs.below L2.out B3) B5)))
        exact ⟨⟨j + 1, by simp, by omega, HN.out⟩, by simp [intOf]; omega⟩
      · have hyj : ys.length = 32 := by omega
        have hj1 : (32 : Int) ≤ ((j : Nat) : Int) := by omega
        have hfin : Hid (∀ (w4 : World), Below wr.heap.size wr w4 → LgI ws cl u5 u6 (j + 1) w4) := fun w4 e => ⟨S, T, ys, OS.out, OT.out, Logs.below LS.out e, Logs.below LT.out e, by omega, hB.trans (e.mono hB.size)⟩
        clear hyl
        by_cases h33 : j = 32
        · subst h33
          go_wp2_with (first
            | (go_at_call 16; rw [hze]; refine (say_full LS.out OS.out hcl hyj hz0 hz1).mono ?_; rintro ev w1 ⟨rfl, B1⟩)
            | (go_at_call 20; refine (put_thirty (Logs.below LT.out B1) OT.out hcl hyj hz0 hz1 (by first | omega | rfl | decide)).mono ?_; rintro ev w2 ⟨rfl, B2⟩
               have HN := (show Hid (LgI ws cl u5 u6 (32 + 1) w2) from hfin.out w2 (B1.trans (B2.mono B1.size)))))
          exact ⟨⟨32 + 1, by simp, by omega, HN.out⟩, by simp [intOf]; omega⟩
        · have hj2 : (32 : Int) < ((j : Nat) : Int) := by omega
          go_wp2_with (first
            | (go_at_call 16; rw [hze]; refine (say_full LS.out OS.out hcl hyj hz0 hz1).mono ?_; rintro ev w1 ⟨rfl, B1⟩)
            | (go_at_call 20; refine (put_late (Logs.below LT.out B1) OT.out hcl hyj hz0 hz1 (by omega)).mono ?_; rintro ev w2 ⟨rfl, B2⟩
               have HN := (show Hid (LgI ws cl u5 u6 (j + 1) w2) from hfin.out w2 (B1.trans (B2.mono B1.size)))))
          exact ⟨⟨j + 1, by simp, by omega, HN.out⟩, by simp [intOf]; omega⟩
    · obtain rfl : j = n := by omega
      have hcl8 : ((cl : Nat) : Int) < 8 := by omega
      go_wp2_with (first
        | (go_at_call 14; refine (have_at LS.out (by have := One.len OS.out; omega) (One.right OS.out hcl) hcl (One.had OS.out hcl)).mono ?_; rintro ev w1 ⟨g1, c1, rfl, hv1, B1⟩)
        | (go_at_call 27; refine (wakes25_ok _).mono ?_; rintro ev w2 ⟨rfl, B2⟩))
      all_goals (go_ret
                 exact ⟨rfl, (hB.trans (B1.mono hB.size)).trans (B2.mono (Nat.le_trans hB.size B1.size))⟩)
end Go.Proofs.Ytgpcmblfcelijaa
