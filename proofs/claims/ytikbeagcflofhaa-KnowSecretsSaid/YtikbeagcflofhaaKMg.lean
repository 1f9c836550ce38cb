/-
  KNOWSECRETS: the walk. Own work.
-/
import Derived.Test.YtikbeagcflofhaaKMf
import Derived.Test.YtikbeagcflofhaaSQc
namespace Go.Proofs.Ytikbeagcflofhaa
open Go.RowKit Go.Maps
set_option maxRecDepth 100000
attribute [local go_sem ↓] Go.wp_at_zero Go.wp_at_succ
/-- A number that is not below 0. -/
def pos (z : Int) : Int := if z < 0 then 0 else z
set_option maxHeartbeats 32000000 in
theorem secrets_low (n : Int) (p1 : Option Addr) (n1 c1 : Nat) (ks : List Int) (p2 : Option Addr) (n2 c2 : Nat) (hs : List Int) (w : World) (hnM : n < 9223372036854775808) (hn1 : ks.length = n1) (hn2 : hs.length = n2) (H1 : Hid (RdW w (.slice p1 n1 c1) ks)) (I1 : Hid (∀ z ∈ ks, In64 z)) (H2 : Hid (RdW w (.slice p2 n2 c2) hs)) : Calls Try.prog 3 #[.int .i64 n, .slice p1 n1 c1, .slice p2 n2 c2] w fun e w' => e = .returned (.bool true) ∧ Below w.heap.size w w' := by
  obtain ⟨i0, hi', hz0, hz1, hz2⟩ := info_parts (P := Try.prog) (e := 3) (z := .int .i64 0) (size := 1) (bytes := 8) (by kernel_rfl)
  by_cases hneg : n < 0
  · go_enter Try.func3, Try.ntmps3
    go_wp2
    go_ret
    exact ⟨rfl, Below.refl _ _⟩
  by_cases hbig : 20 < n1
  · have hI : (20 : Int) < n1 := by omega
    go_enter Try.func3, Try.ntmps3
    go_wp2
    go_ret
    exact ⟨rfl, Below.refl _ _⟩
  by_cases hbig2 : 30 < n2
  · have hI : ¬ (20 : Int) < n1 := by omega
    have hI2 : (30 : Int) < n2 := by omega
    go_enter Try.func3, Try.ntmps3
    go_wp2
    go_ret
    exact ⟨rfl, Below.refl _ _⟩
  have hI : ¬ (20 : Int) < n1 := by omega
  have hI2 : ¬ (30 : Int) < n2 := by omega
  have hp0 : put ([] : List Tm) (1, n, []) = (0, 0, [(1, n, [])]) := put_new (sh_atom n (by omega)) (fun z hz => by cases hz) (by simp) (by simp)
  have HP0 := (show Hid _ from hp0)
  clear hp0
  go_enter Try.func3, Try.ntmps3
  go_wp2_with (first
    | (go_at_call 13; refine (new_ar _).mono ?_; rintro ev w1 ⟨aa, F0, rfl, A0, hF0, B0⟩; have T0 := on_fresh A0 hF0 B0; clear A0 hF0 B0)
    | (go_at_call 14; refine (make_on T0 1 n (v := .slice none 0 0) (xs := []) (.inl ⟨rfl, rfl⟩) hnM HP0.out).mono ?_; rintro ev w2 ⟨rfl, T1, _⟩; clear T0))
  have R0 := T1.row0
  have S0 := Sec.start n
  go_loopw [10, 11] (fun v i wq => ∃ (j : Nat) (L : List Tm) (p : Option Addr) (c : Nat) (xs : List Int), v = .slice p xs.length c ∧ i = .int .i64 j ∧ j ≤ n1 ∧ OnRow w w2 wq aa L (fun _ => False) (.slice p xs.length c) xs ∧ Sec L n [] ∧ Wds L xs ∧ L.length ≤ 1 + j ∧ xs.length ≤ j) (fun _ i _ => n1 - (intOf i).toNat)
  case atStart => exact ⟨0, _, none, 0, [], rfl, rfl, by omega, R0, S0, ⟨fun y hy => by cases hy⟩, by simp, by simp⟩
  case round =>
    clear R0 S0 T1 HP0
    obtain ⟨j, L, p, c, xs, rfl, rfl, hj, T, S, W, hL, hxl⟩ := hrel
    have HS := (show Hid (Sec L n []) from S)
    have HW := (show Hid (Wds L xs) from W)
    clear S W
    by_cases hlt : j < n1
    · obtain ⟨ba, oa, rfl, hba, hcell⟩ := rdw_pos H1.out (t := j) (by omega)
      have hzb : In64 (ks.getD j 0) := I1.out _ (by rw [List.getD_eq_getElem?_getD, List.getElem?_eq_getElem (by omega)]; exact List.getElem_mem _)
      generalize ks.getD j 0 = z at hcell hzb
      have hc1 := (T.on.below.cell (p := ⟨ba, oa + j, none⟩) hba).trans hcell
      obtain ⟨m, hm⟩ : ∃ m, m = pos z := ⟨_, rfl⟩
      have hm0 : 0 ≤ m := by rw [hm]; unfold pos; split <;> omega
      have hmM : m < 9223372036854775808 := by rw [hm]; unfold pos; have := hzb.2; split <;> omega
      obtain ⟨k, L1, K1⟩ := mk_ex (L := L) (t := (2, m, [])) (by unfold shape rightOf leastOf mostOf; simp; omega) (fun z hz => by cases hz) (by omega)
      have P1 := (show Hid _ from K1.put)
      have hS1 := HS.out.word K1
      have hW1 : Wds L1 (xs ++ [(k : Int)]) := ⟨fun y hy => by
        rcases List.mem_append.1 hy with hy | hy
        · exact (HW.out.keep K1.keep K1.le).w y hy
        · rw [List.mem_singleton.1 hy]
          exact ⟨by omega, by simpa using (List.getElem?_eq_some_iff.1 K1.at').1, by simpa using (at_kd K1.at').1⟩⟩
      have hL1 : L1.length ≤ 1 + (j + 1) := by have := K1.le1; omega
      have HS1 := (show Hid (Sec L1 n []) from hS1)
      have HW1 := (show Hid (Wds L1 (xs ++ [(k : Int)])) from hW1)
      have HM := (show Hid (m = pos z) from hm)
      clear K1 hS1 hW1 hm
      have hlen : (xs ++ [(k : Int)]).length = xs.length + 1 := by simp
      have hjI : (j : Int) < n1 := by omega
      by_cases hzn : z < 0
      · have hm2 : m = 0 := by rw [HM.out]; unfold pos; rw [if_pos hzn]
        subst hm2
        go_wp2_with (first
          | (go_at_call 14; refine (T.calls (fun G' _ O => make_on O 2 0 (v := .slice none 0 0) (xs := []) (.inl ⟨rfl, rfl⟩) (by omega) P1.out)).mono ?_; rintro ev w3 ⟨rfl, T3⟩; clear T)
          | (at_builtin; have hsz := T3.on.below.size; refine wpList_append_own_at _ rfl (.tmp 66) (.tmp 68) 22 rfl w.heap.size 3 i0 (.int .i64 0) 1 8 Try.underlying22 hi' hz0 hz1 hz2 rfl (by decide) (.slice p xs.length c) xs.length _ rfl (T3.row.alloc _) ⟨w3.heap.size, 0, none⟩ 1 1 [.int .i64 (k : Int)] rfl rfl (news1 _ _ _) (fun u hu => by simp at hu; subst hu; rfl) (by unfold maxLen; omega) (by omega) (by simp; omega) ?_; intro v7 w7 hown7 hgrow7 _ hat7; obtain ⟨p7, c7, rfl, T7⟩ := T3.append hown7 hgrow7 hat7; clear T3 hown7 hgrow7 hat7))
        exact ⟨⟨j + 1, L1, p7, c7, xs ++ [(k : Int)], by rw [hlen], by simp, by omega, T7, HS1.out, HW1.out, by omega, by simp; omega⟩, by simp [intOf]; omega⟩
      · have hm2 : m = z := by rw [HM.out]; unfold pos; rw [if_neg hzn]
        subst hm2
        go_wp2_with (first
          | (go_at_call 14; refine (T.calls (fun G' _ O => make_on O 2 m (v := .slice none 0 0) (xs := []) (.inl ⟨rfl, rfl⟩) hmM P1.out)).mono ?_; rintro ev w3 ⟨rfl, T3⟩; clear T)
          | (at_builtin; have hsz := T3.on.below.size; refine wpList_append_own_at _ rfl (.tmp 66) (.tmp 68) 22 rfl w.heap.size 3 i0 (.int .i64 0) 1 8 Try.underlying22 hi' hz0 hz1 hz2 rfl (by decide) (.slice p xs.length c) xs.length _ rfl (T3.row.alloc _) ⟨w3.heap.size, 0, none⟩ 1 1 [.int .i64 (k : Int)] rfl rfl (news1 _ _ _) (fun u hu => by simp at hu; subst hu; rfl) (by unfold maxLen; omega) (by omega) (by simp; omega) ?_; intro v7 w7 hown7 hgrow7 _ hat7; obtain ⟨p7, c7, rfl, T7⟩ := T3.append hown7 hgrow7 hat7; clear T3 hown7 hgrow7 hat7))
        exact ⟨⟨j + 1, L1, p7, c7, xs ++ [(k : Int)], by rw [hlen], by simp, by omega, T7, HS1.out, HW1.out, by omega, by simp; omega⟩, by simp [intOf]; omega⟩
    · obtain rfl : j = n1 := by omega
      obtain ⟨ws, hws⟩ : ∃ ws, ws = wr := ⟨_, rfl⟩
      subst hws
      obtain ⟨F, O, hv⟩ := T.ex
      have hrow : ws.ownsRow w.heap.size 3 1 (.slice p xs.length c) xs.length (xs.map (Value.int .i64)) := T.row
      have HR := (show Hid (ws.ownsRow w.heap.size 3 1 (.slice p xs.length c) xs.length (xs.map (Value.int .i64))) from hrow)
      have O2 : On w ws aa L (fun k => (Value.slice p xs.length c).ownBlock = some k) := O.mono (fun k hk => .inr (hv k hk).1)
      have R2 := O2.row0
      clear O hv hrow T H1 I1
      have hx20 : xs.length ≤ 20 := by omega
      have hL20 : L.length ≤ 21 := by omega
      go_wp2
      go_loopw [14, 15] (fun v i wq => ∃ (j : Nat) (L2 : List Tm) (p2 : Option Addr) (c2 : Nat) (zs : List Int), v = .slice p2 zs.length c2 ∧ i = .int .i64 j ∧ j ≤ n2 ∧ OnRow w ws wq aa L2 (fun k => (Value.slice p xs.length c).ownBlock = some k) (.slice p2 zs.length c2) zs ∧ Sec L2 n zs ∧ Wds L2 xs ∧ L2.length ≤ 21 + j ∧ zs.length ≤ j) (fun _ i _ => n2 - (intOf i).toNat)
      case atStart => exact ⟨0, L, none, 0, [], rfl, rfl, by omega, R2, HS.out, HW.out, by omega, by simp⟩
      case round =>
        clear R2 O2 HS HW
        obtain ⟨j, L2, p2, c2, zs, rfl, rfl, hj2, T, S, W, hL2, hzl⟩ := hrel
        have HS := (show Hid (Sec L2 n zs) from S)
        have HW := (show Hid (Wds L2 xs) from W)
        clear S W
        have hrow : wr.ownsRow w.heap.size 3 1 (.slice p xs.length c) xs.length (xs.map (Value.int .i64)) := row_keeps HR.out T.stay (fun k hk hn => hn hk)
        have hL0 : 0 < L2.length := (List.getElem?_eq_some_iff.1 HS.out.s).1
        by_cases hlt : j < n2
        · obtain ⟨ba, oa, rfl, hba, hcell⟩ := rdw_pos H2.out (t := j) (by omega)
          generalize hs.getD j 0 = z at hcell
          have hjI : (j : Int) < n2 := by omega
          have HRW := (show Hid (wr.ownsRow w.heap.size 3 1 (.slice p xs.length c) xs.length (xs.map (Value.int .i64))) from hrow)
          clear hrow
          have hfit : fitsIn L2.length (3, 0, (0 : Int) :: xs) := fun y hy => by
            rcases List.mem_cons.1 hy with rfl | hy
            · omega
            · have := HW.out.w y hy
              omega
          rcases (show ((IntKind.u64.wrap z).tmod 5 == 0) = true ∨ (((IntKind.u64.wrap z).tmod 5 == 0) = false ∧ ((IntKind.u64.wrap z).tmod 5 == 1) = true) ∨ (((IntKind.u64.wrap z).tmod 5 == 0) = false ∧ ((IntKind.u64.wrap z).tmod 5 == 1) = false ∧ ((IntKind.u64.wrap z).tmod 5 == 2) = true) ∨ (((IntKind.u64.wrap z).tmod 5 == 0) = false ∧ ((IntKind.u64.wrap z).tmod 5 == 1) = false ∧ ((IntKind.u64.wrap z).tmod 5 == 2) = false ∧ ((IntKind.u64.wrap z).tmod 5 == 3) = true) ∨ (((IntKind.u64.wrap z).tmod 5 == 0) = false ∧ ((IntKind.u64.wrap z).tmod 5 == 1) = false ∧ ((IntKind.u64.wrap z).tmod 5 == 2) = false ∧ ((IntKind.u64.wrap z).tmod 5 == 3) = false) by
              cases ((IntKind.u64.wrap z).tmod 5 == 0) <;> cases ((IntKind.u64.wrap z).tmod 5 == 1) <;> cases ((IntKind.u64.wrap z).tmod 5 == 2) <;> cases ((IntKind.u64.wrap z).tmod 5 == 3) <;> simp) with e0 | ⟨e0, e1⟩ | ⟨e0, e1, e2⟩ | ⟨e0, e1, e2, e3⟩ | ⟨e0, e1, e2, e3⟩
          · obtain ⟨k, L3, K3⟩ := mk_ex (L := L2) (t := (3, 0, 0 :: xs)) (sh_hash _ (by simp; omega)) hfit (by omega)
            have P3 := (show Hid _ from K3.put)
            have HS3 := (show Hid (Sec L3 n (zs ++ [(k : Int)])) from HS.out.more (ys := xs) K3 (.inl rfl) (by omega) HW.out)
            have HW3 := (show Hid (Wds L3 xs) from HW.out.keep K3.keep K3.le)
            have hL3 : L3.length ≤ 21 + (j + 1) := by have := K3.le1; omega
            have hlen : (zs ++ [(k : Int)]).length = zs.length + 1 := by simp
            clear K3 hfit
            go_wp2_with (first
              | (at_builtin; refine wpList_append_any rfl (.tmp 77) (.tmp 78) 22 rfl wr.heap.size 3 i0 (.int .i64 0) 8 Try.underlying22 hi' hz0 hz1 hz2 rfl (.slice (some ⟨wr.heap.size, 0, none⟩) 1 1) 1 [.int .i64 0] rfl (World.ownsRow_lit wr #[.int .i64 0] 1 (Nat.le_refl _) (by unfold maxLen; omega) rfl) (.slice p xs.length c) w.heap.size xs.length (xs.map (Value.int .i64)) rfl (HRW.out.alloc _) (fun u hu => by obtain ⟨y, _, rfl⟩ := List.mem_map.1 hu; rfl) (by unfold maxLen; omega) (by omega) (by simp) ?_; intro v8 w8 hown8 hgrow8 _
                 obtain ⟨p8, c8, rfl⟩ := row_slice hown8
                 have B8 : Below wr.heap.size wr w8 := ((Below.refl _ wr).alloc (Nat.le_refl _) _).grown hgrow8 (by simp) (fun k hk => by simp only [Value.ownBlock, Option.some.injEq] at hk; omega)
                 have R8 : Reads w8 (.slice p8 (1 + xs.length) c8) (0 :: xs) := (irow_of (xs := 0 :: xs) hown8).reads
                 have T8 := T.step B8
                 have hc8 := (T8.on.below.cell (p := ⟨ba, oa + j, none⟩) hba).trans hcell
                 clear T hown8 hgrow8 B8)
              | (go_at_call 14; refine (T8.calls (fun G' _ O => make_on O 3 0 (xs := 0 :: xs) R8 (by omega) P3.out)).mono ?_; rintro ev w9 ⟨rfl, T9⟩; clear T8 R8)
              | (at_builtin; have hsz := T9.on.below.size; refine wpList_append_own_at _ rfl (.tmp 129) (.tmp 131) 22 rfl w.heap.size 3 i0 (.int .i64 0) 1 8 Try.underlying22 hi' hz0 hz1 hz2 rfl (by decide) (.slice p2 zs.length c2) zs.length _ rfl (T9.row.alloc _) ⟨w9.heap.size, 0, none⟩ 1 1 [.int .i64 (k : Int)] rfl rfl (news1 _ _ _) (fun u hu => by simp at hu; subst hu; rfl) (by unfold maxLen; omega) (by omega) (by simp; omega) ?_; intro v7 w7 hown7 hgrow7 _ hat7; obtain ⟨p7, c7, rfl, T7⟩ := T9.append hown7 hgrow7 hat7; clear T9 hown7 hgrow7 hat7))
            exact ⟨⟨j + 1, L3, p7, c7, zs ++ [(k : Int)], by rw [hlen], by simp, by omega, T7, HS3.out, HW3.out, by omega, by simp; omega⟩, by simp [intOf]; omega⟩
          · obtain ⟨k, L3, K3⟩ := mk_ex (L := L2) (t := (4, (j : Int), [0])) (sh_kdf _ _ (by omega)) (fun y hy => by simp at hy; omega) (by omega)
            have P3 := (show Hid _ from K3.put)
            have HS3 := (show Hid (Sec L3 n (zs ++ [(k : Int)])) from HS.out.more (ys := []) K3 (.inr (.inl rfl)) (by omega) ⟨fun y hy => by cases hy⟩)
            have HW3 := (show Hid (Wds L3 xs) from HW.out.keep K3.keep K3.le)
            have hL3 : L3.length ≤ 21 + (j + 1) := by have := K3.le1; omega
            have hlen : (zs ++ [(k : Int)]).length = zs.length + 1 := by simp
            clear K3 hfit
            go_wp2_with (first
              | (at_builtin; refine wpList_append_any rfl (.tmp 77) (.tmp 78) 22 rfl wr.heap.size 3 i0 (.int .i64 0) 8 Try.underlying22 hi' hz0 hz1 hz2 rfl (.slice (some ⟨wr.heap.size, 0, none⟩) 1 1) 1 [.int .i64 0] rfl (World.ownsRow_lit wr #[.int .i64 0] 1 (Nat.le_refl _) (by unfold maxLen; omega) rfl) (.slice p xs.length c) w.heap.size xs.length (xs.map (Value.int .i64)) rfl (HRW.out.alloc _) (fun u hu => by obtain ⟨y, _, rfl⟩ := List.mem_map.1 hu; rfl) (by unfold maxLen; omega) (by omega) (by simp) ?_; intro v8 w8 hown8 hgrow8 _
                 obtain ⟨p8, c8, rfl⟩ := row_slice hown8
                 have B8 : Below wr.heap.size wr w8 := ((Below.refl _ wr).alloc (Nat.le_refl _) _).grown hgrow8 (by simp) (fun k hk => by simp only [Value.ownBlock, Option.some.injEq] at hk; omega)
                 have R8 : Reads w8 (.slice p8 (1 + xs.length) c8) (0 :: xs) := (irow_of (xs := 0 :: xs) hown8).reads
                 have T8 := T.step B8
                 have hc8 := (T8.on.below.cell (p := ⟨ba, oa + j, none⟩) hba).trans hcell
                 clear T hown8 hgrow8 B8)
              | (go_at_call 14; refine ((T8.alloc _).calls (fun G' _ O => make_on O 4 (j : Int) (xs := [0]) (reads_lit [0] rfl rfl _) (by omega) P3.out)).mono ?_; rintro ev w9 ⟨rfl, T9⟩; clear T8 R8)
              | (at_builtin; have hsz := T9.on.below.size; refine wpList_append_own_at _ rfl (.tmp 129) (.tmp 131) 22 rfl w.heap.size 3 i0 (.int .i64 0) 1 8 Try.underlying22 hi' hz0 hz1 hz2 rfl (by decide) (.slice p2 zs.length c2) zs.length _ rfl (T9.row.alloc _) ⟨w9.heap.size, 0, none⟩ 1 1 [.int .i64 (k : Int)] rfl rfl (news1 _ _ _) (fun u hu => by simp at hu; subst hu; rfl) (by unfold maxLen; omega) (by omega) (by simp; omega) ?_; intro v7 w7 hown7 hgrow7 _ hat7; obtain ⟨p7, c7, rfl, T7⟩ := T9.append hown7 hgrow7 hat7; clear T9 hown7 hgrow7 hat7))
            exact ⟨⟨j + 1, L3, p7, c7, zs ++ [(k : Int)], by rw [hlen], by simp, by omega, T7, HS3.out, HW3.out, by omega, by simp; omega⟩, by simp [intOf]; omega⟩
          · obtain ⟨k, L3, K3⟩ := mk_ex (L := L2) (t := (5, 0, [0])) (sh_pub _) (fun y hy => by simp at hy; omega) (by omega)
            have P3 := (show Hid _ from K3.put)
            have HS3 := (show Hid (Sec L3 n (zs ++ [(k : Int)])) from HS.out.more (ys := []) K3 (.inr (.inr (.inl rfl))) (by omega) ⟨fun y hy => by cases hy⟩)
            have HW3 := (show Hid (Wds L3 xs) from HW.out.keep K3.keep K3.le)
            have hL3 : L3.length ≤ 21 + (j + 1) := by have := K3.le1; omega
            have hlen : (zs ++ [(k : Int)]).length = zs.length + 1 := by simp
            clear K3 hfit
            go_wp2_with (first
              | (at_builtin; refine wpList_append_any rfl (.tmp 77) (.tmp 78) 22 rfl wr.heap.size 3 i0 (.int .i64 0) 8 Try.underlying22 hi' hz0 hz1 hz2 rfl (.slice (some ⟨wr.heap.size, 0, none⟩) 1 1) 1 [.int .i64 0] rfl (World.ownsRow_lit wr #[.int .i64 0] 1 (Nat.le_refl _) (by unfold maxLen; omega) rfl) (.slice p xs.length c) w.heap.size xs.length (xs.map (Value.int .i64)) rfl (HRW.out.alloc _) (fun u hu => by obtain ⟨y, _, rfl⟩ := List.mem_map.1 hu; rfl) (by unfold maxLen; omega) (by omega) (by simp) ?_; intro v8 w8 hown8 hgrow8 _
                 obtain ⟨p8, c8, rfl⟩ := row_slice hown8
                 have B8 : Below wr.heap.size wr w8 := ((Below.refl _ wr).alloc (Nat.le_refl _) _).grown hgrow8 (by simp) (fun k hk => by simp only [Value.ownBlock, Option.some.injEq] at hk; omega)
                 have R8 : Reads w8 (.slice p8 (1 + xs.length) c8) (0 :: xs) := (irow_of (xs := 0 :: xs) hown8).reads
                 have T8 := T.step B8
                 have hc8 := (T8.on.below.cell (p := ⟨ba, oa + j, none⟩) hba).trans hcell
                 clear T hown8 hgrow8 B8)
              | (go_at_call 14; refine ((T8.alloc _).calls (fun G' _ O => make_on O 5 0 (xs := [0]) (reads_lit [0] rfl rfl _) (by omega) P3.out)).mono ?_; rintro ev w9 ⟨rfl, T9⟩; clear T8 R8)
              | (at_builtin; have hsz := T9.on.below.size; refine wpList_append_own_at _ rfl (.tmp 129) (.tmp 131) 22 rfl w.heap.size 3 i0 (.int .i64 0) 1 8 Try.underlying22 hi' hz0 hz1 hz2 rfl (by decide) (.slice p2 zs.length c2) zs.length _ rfl (T9.row.alloc _) ⟨w9.heap.size, 0, none⟩ 1 1 [.int .i64 (k : Int)] rfl rfl (news1 _ _ _) (fun u hu => by simp at hu; subst hu; rfl) (by unfold maxLen; omega) (by omega) (by simp; omega) ?_; intro v7 w7 hown7 hgrow7 _ hat7; obtain ⟨p7, c7, rfl, T7⟩ := T9.append hown7 hgrow7 hat7; clear T9 hown7 hgrow7 hat7))
            exact ⟨⟨j + 1, L3, p7, c7, zs ++ [(k : Int)], by rw [hlen], by simp, by omega, T7, HS3.out, HW3.out, by omega, by simp; omega⟩, by simp [intOf]; omega⟩
          · obtain ⟨k, L3, K3⟩ := mk_ex (L := L2) (t := (6, 0, 0 :: xs)) (sh_seal _ _ (by omega)) hfit (by omega)
            have P3 := (show Hid _ from K3.put)
            have HS3 := (show Hid (Sec L3 n (zs ++ [(k : Int)])) from HS.out.more (ys := xs) K3 (.inr (.inr (.inr (.inl rfl)))) (by omega) HW.out)
            have HW3 := (show Hid (Wds L3 xs) from HW.out.keep K3.keep K3.le)
            have hL3 : L3.length ≤ 21 + (j + 1) := by have := K3.le1; omega
            have hlen : (zs ++ [(k : Int)]).length = zs.length + 1 := by simp
            clear K3 hfit
            go_wp2_with (first
              | (at_builtin; refine wpList_append_any rfl (.tmp 77) (.tmp 78) 22 rfl wr.heap.size 3 i0 (.int .i64 0) 8 Try.underlying22 hi' hz0 hz1 hz2 rfl (.slice (some ⟨wr.heap.size, 0, none⟩) 1 1) 1 [.int .i64 0] rfl (World.ownsRow_lit wr #[.int .i64 0] 1 (Nat.le_refl _) (by unfold maxLen; omega) rfl) (.slice p xs.length c) w.heap.size xs.length (xs.map (Value.int .i64)) rfl (HRW.out.alloc _) (fun u hu => by obtain ⟨y, _, rfl⟩ := List.mem_map.1 hu; rfl) (by unfold maxLen; omega) (by omega) (by simp) ?_; intro v8 w8 hown8 hgrow8 _
                 obtain ⟨p8, c8, rfl⟩ := row_slice hown8
                 have B8 : Below wr.heap.size wr w8 := ((Below.refl _ wr).alloc (Nat.le_refl _) _).grown hgrow8 (by simp) (fun k hk => by simp only [Value.ownBlock, Option.some.injEq] at hk; omega)
                 have R8 : Reads w8 (.slice p8 (1 + xs.length) c8) (0 :: xs) := (irow_of (xs := 0 :: xs) hown8).reads
                 have T8 := T.step B8
                 have hc8 := (T8.on.below.cell (p := ⟨ba, oa + j, none⟩) hba).trans hcell
                 clear T hown8 hgrow8 B8)
              | (go_at_call 14; refine (T8.calls (fun G' _ O => make_on O 6 0 (xs := 0 :: xs) R8 (by omega) P3.out)).mono ?_; rintro ev w9 ⟨rfl, T9⟩; clear T8 R8)
              | (at_builtin; have hsz := T9.on.below.size; refine wpList_append_own_at _ rfl (.tmp 129) (.tmp 131) 22 rfl w.heap.size 3 i0 (.int .i64 0) 1 8 Try.underlying22 hi' hz0 hz1 hz2 rfl (by decide) (.slice p2 zs.length c2) zs.length _ rfl (T9.row.alloc _) ⟨w9.heap.size, 0, none⟩ 1 1 [.int .i64 (k : Int)] rfl rfl (news1 _ _ _) (fun u hu => by simp at hu; subst hu; rfl) (by unfold maxLen; omega) (by omega) (by simp; omega) ?_; intro v7 w7 hown7 hgrow7 _ hat7; obtain ⟨p7, c7, rfl, T7⟩ := T9.append hown7 hgrow7 hat7; clear T9 hown7 hgrow7 hat7))
            exact ⟨⟨j + 1, L3, p7, c7, zs ++ [(k : Int)], by rw [hlen], by simp, by omega, T7, HS3.out, HW3.out, by omega, by simp; omega⟩, by simp [intOf]; omega⟩
          · obtain ⟨k, L3, K3⟩ := mk_ex (L := L2) (t := (8, 0, 0 :: xs)) (sh_sig _ _ (by omega)) hfit (by omega)
            have P3 := (show Hid _ from K3.put)
            have HS3 := (show Hid (Sec L3 n (zs ++ [(k : Int)])) from HS.out.more (ys := xs) K3 (.inr (.inr (.inr (.inr rfl)))) (by omega) HW.out)
            have HW3 := (show Hid (Wds L3 xs) from HW.out.keep K3.keep K3.le)
            have hL3 : L3.length ≤ 21 + (j + 1) := by have := K3.le1; omega
            have hlen : (zs ++ [(k : Int)]).length = zs.length + 1 := by simp
            clear K3 hfit
            go_wp2_with (first
              | (at_builtin; refine wpList_append_any rfl (.tmp 77) (.tmp 78) 22 rfl wr.heap.size 3 i0 (.int .i64 0) 8 Try.underlying22 hi' hz0 hz1 hz2 rfl (.slice (some ⟨wr.heap.size, 0, none⟩) 1 1) 1 [.int .i64 0] rfl (World.ownsRow_lit wr #[.int .i64 0] 1 (Nat.le_refl _) (by unfold maxLen; omega) rfl) (.slice p xs.length c) w.heap.size xs.length (xs.map (Value.int .i64)) rfl (HRW.out.alloc _) (fun u hu => by obtain ⟨y, _, rfl⟩ := List.mem_map.1 hu; rfl) (by unfold maxLen; omega) (by omega) (by simp) ?_; intro v8 w8 hown8 hgrow8 _
                 obtain ⟨p8, c8, rfl⟩ := row_slice hown8
                 have B8 : Below wr.heap.size wr w8 := ((Below.refl _ wr).alloc (Nat.le_refl _) _).grown hgrow8 (by simp) (fun k hk => by simp only [Value.ownBlock, Option.some.injEq] at hk; omega)
                 have R8 : Reads w8 (.slice p8 (1 + xs.length) c8) (0 :: xs) := (irow_of (xs := 0 :: xs) hown8).reads
                 have T8 := T.step B8
                 have hc8 := (T8.on.below.cell (p := ⟨ba, oa + j, none⟩) hba).trans hcell
                 clear T hown8 hgrow8 B8)
              | (go_at_call 14; refine (T8.calls (fun G' _ O => make_on O 8 0 (xs := 0 :: xs) R8 (by omega) P3.out)).mono ?_; rintro ev w9 ⟨rfl, T9⟩; clear T8 R8)
              | (at_builtin; have hsz := T9.on.below.size; refine wpList_append_own_at _ rfl (.tmp 129) (.tmp 131) 22 rfl w.heap.size 3 i0 (.int .i64 0) 1 8 Try.underlying22 hi' hz0 hz1 hz2 rfl (by decide) (.slice p2 zs.length c2) zs.length _ rfl (T9.row.alloc _) ⟨w9.heap.size, 0, none⟩ 1 1 [.int .i64 (k : Int)] rfl rfl (news1 _ _ _) (fun u hu => by simp at hu; subst hu; rfl) (by unfold maxLen; omega) (by omega) (by simp; omega) ?_; intro v7 w7 hown7 hgrow7 _ hat7; obtain ⟨p7, c7, rfl, T7⟩ := T9.append hown7 hgrow7 hat7; clear T9 hown7 hgrow7 hat7))
            exact ⟨⟨j + 1, L3, p7, c7, zs ++ [(k : Int)], by rw [hlen], by simp, by omega, T7, HS3.out, HW3.out, by omega, by simp; omega⟩, by simp [intOf]; omega⟩
        · obtain rfl : j = n2 := by omega
          obtain ⟨d, L3, K3⟩ := mk_ex (L := L2) (t := (4, 1048576, [0])) (sh_kdf _ _ (by omega)) (fun y hy => by simp at hy; omega) (by omega)
          have P3 := (show Hid _ from K3.put)
          have nS := (show Hid (¬ Kn L3 (· ∈ zs.map Int.toNat) 0) from HS.out.noS K3)
          have nD := (show Hid (¬ Kn L3 (· ∈ zs.map Int.toNat) d) from HS.out.noD K3)
          have yD := (show Hid (Kn L3 (· ∈ (zs ++ [(0 : Int)]).map Int.toNat) d) from Sec.yesD K3 hL0 zs)
          have hL3 : L3.length ≤ 100 := by have := K3.le1; omega
          have h03 : 0 < L3.length := by have := K3.le; omega
          have hd3 : d < L3.length := (List.getElem?_eq_some_iff.1 K3.at').1
          have hin : allIn L3 zs := fun y hy => by have := HS.out.in' y hy; have := K3.le; omega
          have HIN := (show Hid (allIn L3 zs) from hin)
          have HIN2 := (show Hid (allIn L3 (zs ++ [(0 : Int)])) from fun y hy => by
            rcases List.mem_append.1 hy with hy | hy
            · exact hin y hy
            · rw [List.mem_singleton.1 hy]; omega)
          have hlen : (zs ++ [(0 : Int)]).length = zs.length + 1 := by simp
          clear K3 hin hrow
          go_wp2_with (first
            | (go_at_call 14; refine ((T.alloc _).calls (fun G' _ O => make_on O 4 1048576 (xs := [0]) (reads_lit [0] rfl rfl _) (by omega) P3.out)).mono ?_; rintro ev w9 ⟨rfl, T9⟩; clear T)
            | (go_at_call 15; refine (know_is (show Hid _ from T9.on) (show Hid _ from T9.reads.rdw) (by omega) (by omega) HIN 0 h03).mono ?_; rintro ev w10 ⟨b10, rfl, B10, h10⟩; obtain rfl : b10 = false := Bool.eq_false_iff.2 (fun e => nS.out (h10.1 e)); have T10 := T9.step B10; clear T9 h10)
            | (go_at_call 15; refine (know_is (show Hid _ from T10.on) (show Hid _ from T10.reads.rdw) (by omega) (by omega) HIN d hd3).mono ?_; rintro ev w11 ⟨b11, rfl, B11, h11⟩; obtain rfl : b11 = false := Bool.eq_false_iff.2 (fun e => nD.out (h11.1 e)); have T11 := T10.step B11; clear T10 h11)
            | (at_builtin; have hsz := T11.on.below.size; refine wpList_append_own_at _ rfl (.tmp 158) (.tmp 160) 22 rfl w.heap.size 3 i0 (.int .i64 0) 1 8 Try.underlying22 hi' hz0 hz1 hz2 rfl (by decide) (.slice p2 zs.length c2) zs.length _ rfl (T11.row.alloc _) ⟨w11.heap.size, 0, none⟩ 1 1 [.int .i64 0] rfl rfl (news1 _ _ _) (fun u hu => by simp at hu; subst hu; rfl) (by unfold maxLen; omega) (by omega) (by simp; omega) ?_; intro v7 w7 hown7 hgrow7 _ hat7; obtain ⟨p7, c7, rfl, T7⟩ := T11.append hown7 hgrow7 hat7; have O7 := (show Hid (On w w7 aa L3 (fun k => (Value.slice p xs.length c).ownBlock = some k)) from T7.on); have R7 := (show Hid (RdW w7 (.slice p7 (zs.length + 1) c7) (zs ++ [(0 : Int)])) from by have := T7.reads.rdw; rwa [hlen] at this); clear T11 T7 hown7 hgrow7 hat7)
            | (go_at_call 15; refine (know_is_n O7 hlen R7 (by omega) (by omega) HIN2 d hd3).mono ?_; rintro ev w12 ⟨b12, rfl, B12, h12⟩; obtain rfl := h12.2 yD.out; have hB12 := O7.out.below.trans (B12.mono O7.out.below.size); clear h12)
            | (go_at_call 16; refine (wakes11_ok _).mono ?_; rintro ev w13 ⟨rfl, B13⟩))
          go_ret
          exact ⟨rfl, hB12.trans (B13.mono hB12.size)⟩
end Go.Proofs.Ytikbeagcflofhaa
