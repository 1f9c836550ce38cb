/-
  KNOWMADE: the walk. Own work.
-/
import Derived.Test.YtikbeagcflofhaaKMw
namespace Go.Proofs.Ytikbeagcflofhaa
open Go.RowKit Go.Maps
set_option maxRecDepth 100000
attribute [local go_sem ↓] Go.wp_at_zero Go.wp_at_succ
/-- The atoms among the first. -/
def atsL (L : List Tm) : Nat → List Int
  | 0 => []
  | j + 1 => if kd L j = 1 then atsL L j ++ [(j : Int)] else atsL L j
theorem atsL_mem (L : List Tm) : ∀ n x, x ∈ atsL L n ↔ ∃ i : Nat, i < n ∧ kd L i = 1 ∧ x = (i : Int) := by
  intro n
  induction n with
  | zero => intro x; simp [atsL]
  | succ n ih =>
    intro x
    rw [atsL]
    by_cases hk : kd L n = 1
    · rw [if_pos hk, List.mem_append, ih x, List.mem_singleton]
      constructor
      · rintro (⟨i, h1, h2, h3⟩ | rfl)
        · exact ⟨i, by omega, h2, h3⟩
        · exact ⟨n, by omega, hk, rfl⟩
      · rintro ⟨i, h1, h2, h3⟩
        rcases Nat.lt_or_ge i n with h | h
        · exact .inl ⟨i, h, h2, h3⟩
        · obtain rfl : i = n := by omega
          exact .inr h3
    · rw [if_neg hk, ih x]
      constructor
      · rintro ⟨i, h1, h2, h3⟩
        exact ⟨i, by omega, h2, h3⟩
      · rintro ⟨i, h1, h2, h3⟩
        rcases Nat.lt_or_ge i n with h | h
        · exact ⟨i, h, h2, h3⟩
        · obtain rfl : i = n := by omega
          exact absurd h2 hk
theorem atsL_len (L : List Tm) : ∀ n, (atsL L n).length ≤ n := by
  intro n
  induction n with
  | zero => simp [atsL]
  | succ n ih =>
    rw [atsL]
    split
    · simp; omega
    · omega
theorem atsL_in (L : List Tm) : allIn L (atsL L L.length) := by
  intro x hx
  obtain ⟨i, h1, _, rfl⟩ := (atsL_mem L _ x).1 hx
  omega
theorem atsL_all {L : List Tm} (hW : Wf L) {i : Nat} (hi : i < L.length) : Kn L (· ∈ (atsL L L.length).map Int.toNat) i :=
  kn_atoms hW (fun i hl hk => List.mem_map.2 ⟨(i : Int), (atsL_mem L _ _).2 ⟨i, hl, hk, rfl⟩, by simp⟩) (i + 1) i (Nat.lt_succ_self i) hi
theorem nil_none (L : List Tm) (i : Nat) : Kn L (· ∈ ([] : List Int).map Int.toNat) i ↔ Kn L (fun _ => False) i := by
  have : (fun x => x ∈ ([] : List Int).map Int.toNat) = fun _ : Nat => False := by funext x; simp
  rw [this]
set_option maxHeartbeats 8000000 in
theorem made_low (v : Value) (S : List St) (w : World) (H1 : Hid (Steps w v S)) : Calls Try.prog 4 #[v] w fun e w' => e = .returned (.bool true) ∧ Below w.heap.size w w' := by
  obtain ⟨b0, hb, hb0, hb1, hb2⟩ := info_parts (P := Try.prog) (e := 4) (z := .bool false) (size := 1) (bytes := 1) (by kernel_rfl)
  obtain ⟨i0, hi', hz0, hz1, hz2⟩ := info_parts (P := Try.prog) (e := 3) (z := .int .i64 0) (size := 1) (bytes := 8) (by kernel_rfl)
  go_enter Try.func4, Try.ntmps4
  go_wp2_with (first
    | (go_at_call 17; refine (heavy_ok H1.out).mono ?_; rintro ev w ⟨rfl, r1, rfl, hr⟩; have R1 := (show Hid _ from hr); clear hr)
    | (go_at_call 18; refine (build_ok H1.out (R1.out (by first | assumption | simpa using ‹¬ r1 = true›)).2).mono ?_; rintro ev w1 ⟨aa, bb, L, rfl, T, hL⟩; obtain ⟨np, cp, x4, hbb⟩ := T.head; clear R1)
    | (at_make; refine wpList_make_full _ rfl _ _ 38 rfl w1.heap.size 4 b0 (.bool false) 1 Try.underlying38 hb hb0 hb1 .i64 .i64 _ _ L.length rfl rfl rfl rfl (by rw [hb2]; omega) (by unfold maxLen; omega) (Nat.le_refl _) ?_; intro w2 hown2 hgrow2
       have hm : (madeCells (Value.bool false).cells (L.length * 1)).toList = (List.replicate L.length false).map Value.bool := by
         rw [Nat.mul_one]
         exact (toList_madeCells_one (.bool false) L.length).trans (by simp)
       rw [hm] at hown2
       clear hm))
  · go_ret
    exact ⟨rfl, Below.refl _ _⟩
  have hB1 : Below w1.heap.size w1 w2 := (Below.refl _ w1).grown hgrow2 (Nat.le_refl _) (fun _ h => by cases h)
  have HS1 := (show Hid (w2.ownsRow w1.heap.size 4 1 (.slice (some ⟨w1.heap.size, 0, none⟩) L.length L.length) L.length ((plL L 0 ++ List.replicate (L.length - 0) false).map Value.bool)) from hown2)
  have HWF := (show Hid (Wf L) from T.wf)
  clear hown2 hgrow2
  go_loopw [6, 8] (fun v i wr => ∃ (j : Nat) (p : Option Addr) (c : Nat), i = .int .i64 j ∧ j ≤ L.length ∧ v = .slice p (atsL L j).length c ∧ wr.ownsRow w1.heap.size 4 1 (.slice (some ⟨w1.heap.size, 0, none⟩) L.length L.length) L.length ((plL L j ++ List.replicate (L.length - j) false).map Value.bool) ∧ wr.ownsRow (w1.heap.size + 1) 3 1 (.slice p (atsL L j).length c) (atsL L j).length ((atsL L j).map (Value.int .i64)) ∧ Below w1.heap.size w1 wr) (fun _ i _ => L.length - (intOf i).toNat)
  case atStart => exact ⟨0, none, 0, rfl, by omega, rfl, HS1.out, World.ownsRow_nil _ _ _ _, hB1⟩
  case round =>
    clear HS1
    obtain ⟨j, p, c, rfl, hj, rfl, hrow, hats, hB⟩ := hrel
    have HR := (show Hid (wr.ownsRow w1.heap.size 4 1 (.slice (some ⟨w1.heap.size, 0, none⟩) L.length L.length) L.length ((plL L j ++ List.replicate (L.length - j) false).map Value.bool)) from hrow)
    have HA := (show Hid (wr.ownsRow (w1.heap.size + 1) 3 1 (.slice p (atsL L j).length c) (atsL L j).length ((atsL L j).map (Value.int .i64))) from hats)
    clear hrow hats
    by_cases hlt : j < L.length
    · obtain ⟨⟨k, m, xs⟩, hat⟩ : ∃ t, L[j]? = some t := ⟨_, List.getElem?_eq_getElem hlt⟩
      obtain ⟨g, cp', p4, c4, z0, _, hg, z1, z2, z3, hRd, hal, _⟩ := T.pnode hat
      have z0 := (hB.cell (p := ⟨bb, 0, none⟩) hbb).trans z0
      have z1 := (hB.cell (p := ⟨g, j * 3, none⟩) hg).trans z1
      have z2 := (hB.cell (p := ⟨g, j * 3 + 1, none⟩) hg).trans z2
      have z3 := (hB.cell (p := ⟨g, j * 3 + 2, none⟩) hg).trans z3
      have HAT := (show Hid (L[j]? = some (k, m, xs)) from hat)
      have HRD := (show Hid (RdW w1 (.slice p4 xs.length c4) xs) from hRd)
      have q1 : (wr.alloc (.cells #[.int .i64 k, .int .i64 m, .slice p4 xs.length c4] 43)).cell? ⟨w1.heap.size, j, none⟩ = some (.bool false) := (World.ownsRow.cellAt (HR.out.alloc _) j (by omega)).trans (pl0_at L hlt)
      have q2 := World.ownsRow.frozenAt (HR.out.alloc (.cells #[.int .i64 k, .int .i64 m, .slice p4 xs.length c4] 43)) j
      have hjL : (j : Int) < L.length := by omega
      clear hat hRd
      go_wp2
      have hkx : (k != 1) = plx L (plL L j) j (xs.take 0) := by
        unfold plx
        rw [(at_kd HAT.out).1]
        by_cases h : k = 1 <;> simp [h]
      obtain ⟨s1, s2⟩ := World.ownsRow.stored (HR.out.alloc (.cells #[.int .i64 k, .int .i64 m, .slice p4 xs.length c4] 43)) j (.bool (k != 1))
      rw [← List.map_set, pl0_set L _ hlt, hkx] at s1
      have hsz := hB.size
      have hK : Keeps (fun k => k = w1.heap.size) (wr.alloc (.cells #[.int .i64 k, .int .i64 m, .slice p4 xs.length c4] 43)) _ := Keeps.of_grown s2 (fun k hk => by cases hk; rfl)
      have hsw : w1.heap.size < wr.heap.size := (row_base HR.out (k := w1.heap.size) rfl).2
      have e0 := (hK.cell (p := ⟨wr.heap.size, 0, none⟩) (by simp) (by simp; omega)).trans (show _ = some (.int .i64 k) by simp [go_sem])
      have e2 := (hK.cell (p := ⟨wr.heap.size, 2, none⟩) (by simp) (by simp; omega)).trans (show _ = some (.slice p4 xs.length c4) by simp [go_sem])
      have hB3 := (hB.alloc hB.size (.cells #[.int .i64 k, .int .i64 m, .slice p4 xs.length c4] 43)).setCell (p := ⟨w1.heap.size, j, none⟩) (Nat.le_refl _) (.bool (k != 1))
      have hA3 := row_keeps (HA.out.alloc (.cells #[.int .i64 k, .int .i64 m, .slice p4 xs.length c4] 43)) hK (fun k hk he => by have := (row_base HA.out hk).1; omega)
      have h83 : wr.heap.size < ((wr.alloc (.cells #[.int .i64 k, .int .i64 m, .slice p4 xs.length c4] 43)).setCell ⟨w1.heap.size, j, none⟩ (.bool (k != 1))).heap.size := by simp
      rw [hkx] at e0 e2 hB3 hA3 h83 ⊢
      clear s2 hK q1 q2 hkx z0 z1 z2 z3
      generalize ((wr.alloc (.cells #[.int .i64 k, .int .i64 m, .slice p4 xs.length c4] 43)).setCell ⟨w1.heap.size, j, none⟩ (.bool (plx L (plL L j) j (xs.take 0)))) = w3 at *
      have h8lo : w1.heap.size < wr.heap.size := hsw
      generalize wr.heap.size = h8 at *
      go_loopw [10] (fun q wq => ∃ t : Nat, q = .int .i64 t ∧ t ≤ xs.length ∧ wq.ownsRow w1.heap.size 4 1 (.slice (some ⟨w1.heap.size, 0, none⟩) L.length L.length) L.length ((plR L j (plx L (plL L j) j (xs.take t)) L.length).map Value.bool) ∧ wq.ownsRow (w1.heap.size + 1) 3 1 (.slice p (atsL L j).length c) (atsL L j).length ((atsL L j).map (Value.int .i64)) ∧ Below w1.heap.size w1 wq ∧ h8 < wq.heap.size ∧ wq.cell? ⟨h8, 0, none⟩ = some (.int .i64 k) ∧ wq.cell? ⟨h8, 2, none⟩ = some (.slice p4 xs.length c4)) (fun q _ => xs.length - (intOf q).toNat)
      case atStart => exact ⟨0, rfl, by omega, s1, hA3, hB3, h83, e0, e2⟩
      case round =>
        clear s1 hA3 hB3 e0 e2 HR HA
        obtain ⟨t, rfl, ht, hr5, ho5, hB5, h85, e0, e2⟩ := hrel
        have H6 := (show Hid (wr.ownsRow w1.heap.size 4 1 (.slice (some ⟨w1.heap.size, 0, none⟩) L.length L.length) L.length ((plR L j (plx L (plL L j) j (xs.take t)) L.length).map Value.bool)) from hr5)
        have H7 := (show Hid (wr.ownsRow (w1.heap.size + 1) 3 1 (.slice p (atsL L j).length c) (atsL L j).length ((atsL L j).map (Value.int .i64))) from ho5)
        clear hr5 ho5
        by_cases htl : t < xs.length
        · obtain ⟨ba, oa, rfl, hcell⟩ := rdw_nth (HRD.out.below hB5) htl
          have hx := arg_in HWF.out HAT.out htl
          obtain ⟨xn, hxn⟩ : ∃ xn : Nat, xs.getD t 0 = xn := ⟨(xs.getD t 0).toNat, by omega⟩
          rw [hxn] at hcell hx
          have hxj : xn < j := by omega
          have hsn := plx_snoc L (plL L j) j xs htl
          rw [hxn, Int.toNat_natCast] at hsn
          have HSN := (show Hid _ from hsn)
          have y1 := (World.ownsRow.cellAt H6.out j (by omega)).trans (kn_at (by rw [plR_len L _ hlt]; exact hlt))
          have y2 := (World.ownsRow.cellAt H6.out xn (by omega)).trans (kn_at (by rw [plR_len L _ hlt]; omega))
          have y3 := World.ownsRow.frozenAt H6.out j
          rw [plR_self] at y1
          rw [plR_low L _ _ hxj] at y2
          have hxL : (xn : Int) < L.length := by omega
          have hjL : (j : Int) < L.length := by omega
          have hnext := fun b => World.ownsRow.stored H6.out j (.bool b)
          have HN := (show Hid _ from hnext)
          clear hsn hxn hx hnext
          generalize hcur : plx L (plL L j) j (xs.take t) = cur at y1 HSN
          have HC := (show Hid _ from hcur)
          clear hcur
          cases cur with
          | true =>
            generalize hval : bt (plL L j) xn = val at y2 HSN
            go_wp2
            obtain ⟨u1, u2⟩ := HN.out val
            rw [← List.map_set, plR_set] at u1
            have K : Keeps (fun k => k = w1.heap.size) wr _ := Keeps.of_grown u2 (fun k hk => by cases hk; rfl)
            exact ⟨⟨t + 1, by simp, by omega, by rw [HSN.out, Bool.true_and]; exact u1, row_keeps H7.out K (fun k hk he => by have := (row_base H7.out hk).1; omega), hB5.setCell (p := ⟨w1.heap.size, j, none⟩) (Nat.le_refl _) _, by simp; omega, (K.cell (p := ⟨h8, 0, none⟩) h85 (by simp; omega)).trans e0, (K.cell (p := ⟨h8, 2, none⟩) h85 (by simp; omega)).trans e2⟩, by simp [intOf]; omega⟩
          | false =>
            go_wp2
            obtain ⟨u1, u2⟩ := HN.out false
            rw [← List.map_set, plR_set] at u1
            have K : Keeps (fun k => k = w1.heap.size) wr _ := Keeps.of_grown u2 (fun k hk => by cases hk; rfl)
            exact ⟨⟨t + 1, by simp, by omega, by rw [HSN.out, Bool.false_and]; exact u1, row_keeps H7.out K (fun k hk he => by have := (row_base H7.out hk).1; omega), hB5.setCell (p := ⟨w1.heap.size, j, none⟩) (Nat.le_refl _) _, by simp; omega, (K.cell (p := ⟨h8, 0, none⟩) h85 (by simp; omega)).trans e0, (K.cell (p := ⟨h8, 2, none⟩) h85 (by simp; omega)).trans e2⟩, by simp [intOf]; omega⟩
        · obtain rfl : t = xs.length := by omega
          have hr6 := H6.out
          rw [List.take_length, plx_ar L _ HAT.out, plR_next L hlt] at hr6
          have H8 := (show Hid (wr.ownsRow w1.heap.size 4 1 (.slice (some ⟨w1.heap.size, 0, none⟩) L.length L.length) L.length ((plL L (j + 1) ++ List.replicate (L.length - (j + 1)) false).map Value.bool)) from hr6)
          clear hr6 H6
          have hkd := (at_kd HAT.out).1
          have HKD := (show Hid (kd L j = k) from hkd)
          clear hkd
          by_cases hk1 : k = 1
          · have hs1 := (hB5.size)
            have hal2 := atsL_len L j
            have hbase : w1.heap.size + 1 ≤ (wr.alloc (.cells #[.int .i64 (j : Int)] 3)).heap.size := by simp; omega
            go_wp2_with (at_builtin; refine wpList_append_own _ rfl (.tmp 81) (.tmp 83) 22 rfl (w1.heap.size + 1) 3 i0 (.int .i64 0) 1 8 Try.underlying22 hi' hz0 hz1 hz2 rfl (by decide) (.slice p (atsL L j).length c) (atsL L j).length _ rfl (H7.out.alloc _) ⟨wr.heap.size, 0, none⟩ 1 1 [.int .i64 (j : Int)] rfl rfl (news1 _ _ _) (fun u hu => by simp at hu; subst hu; rfl) (by unfold maxLen; omega) (by omega) hbase ?_; intro v7 w7 hown7 hgrow7 _)
            obtain ⟨p7, c7, rfl⟩ := row_slice hown7
            have e7 : atsL L (j + 1) = atsL L j ++ [(j : Int)] := by rw [atsL, HKD.out, if_pos hk1]
            have l7 : (atsL L (j + 1)).length = (atsL L j).length + 1 := by rw [e7]; simp
            refine ⟨⟨j + 1, p7, c7, by simp, by omega, by rw [l7], ?_, ?_, (hB5.alloc hB5.size _).grown hgrow7 (by omega) (fun k hk => by have := (row_base H7.out hk).1; omega)⟩, by simp [intOf]; omega⟩
            · exact (H8.out.alloc _).kept hgrow7 (.inr (fun e => by have := (row_base H7.out (k := w1.heap.size) e.symm).1; omega))
            · rw [l7, e7, List.map_append]
              exact hown7
          · go_wp2
            have e7 : atsL L (j + 1) = atsL L j := by rw [atsL, HKD.out, if_neg hk1]
            exact ⟨⟨j + 1, p, c, by simp, by omega, by rw [e7], H8.out, by rw [e7]; exact H7.out, hB5⟩, by simp [intOf]; omega⟩
    · have y4 := (hB.cell (p := ⟨bb, 0, none⟩) hbb).trans x4
      obtain rfl : j = L.length := by omega
      rw [Nat.sub_self, List.replicate_zero, List.append_nil] at HR
      have hO := (T.step hB).tw.on
      have HO := (show Hid (On w wr aa L (fun _ => False)) from hO)
      have HRD := (show Hid (RdW wr (.slice p (atsL L L.length).length c) (atsL L L.length)) from (irow_of HA.out).reads.rdw)
      have HIN := (show Hid (allIn L (atsL L L.length)) from atsL_in L)
      have HNIL := (show Hid (allIn L ([] : List Int)) from fun x hx => by cases hx)
      clear hO
      go_wp2_with (first
        | (go_at_call 19; refine (know_all HO HRD (by have := atsL_len L L.length; omega) (by omega) HIN).mono ?_; rintro ev w5 ⟨kb, ck, kn, rfl, hown5, hbel5, hkn5⟩
           have HO5 := (show Hid (On w w5 aa L (fun _ => False)) from HO.out.step hbel5)
           have HB5 := (show Hid (Below wr.heap.size wr w5) from hbel5)
           have HX5 := (show Hid (w5.ownsRow wr.heap.size 4 1 (.slice (some ⟨kb, 0, none⟩) L.length ck) L.length (kn.map Value.bool)) from hown5)
           have HK5 := (show Hid (∀ i, bt kn i = true ↔ Kn L (· ∈ (atsL L L.length).map Int.toNat) i) from hkn5)
           have y5 := (hbel5.cell (p := ⟨bb, 0, none⟩) (Nat.lt_of_lt_of_le hbb hB.size)).trans y4
           clear HO hown5 hbel5 hkn5)
        | (go_at_call 19; refine (know_all (p := none) (c := 0) (xs := []) HO5 (show Hid _ from ⟨none, 0, rfl, .inl rfl⟩) (by simp) (by omega) HNIL).mono ?_; rintro ev w6 ⟨kc, cl, kn2, rfl, hown6, hbel6, hkn6⟩
           have HB6 := (show Hid (Below w5.heap.size w5 w6) from hbel6)
           have HX6 := (show Hid (w6.ownsRow w5.heap.size 4 1 (.slice (some ⟨kc, 0, none⟩) L.length cl) L.length (kn2.map Value.bool)) from hown6)
           have HK6 := (show Hid (∀ i, bt kn2 i = true ↔ Kn L (· ∈ ([] : List Int).map Int.toNat) i) from hkn6)
           have y6 := (hbel6.cell (p := ⟨bb, 0, none⟩) (Nat.lt_of_lt_of_le (Nat.lt_of_lt_of_le hbb hB.size) HB5.out.size)).trans y5
           clear HO5 hown6 hbel6 hkn6))
      have HP := (show Hid (w6.ownsRow w1.heap.size 4 1 (.slice (some ⟨w1.heap.size, 0, none⟩) L.length L.length) L.length ((plL L L.length).map Value.bool)) from row_keeps (F := fun _ => False) (row_keeps (F := fun _ => False) HR.out (Keeps.of_below HB5.out) (fun _ _ h => h)) (Keeps.of_below HB6.out) (fun _ _ h => h))
      have HX7 := (show Hid (w6.ownsRow wr.heap.size 4 1 (.slice (some ⟨kb, 0, none⟩) L.length ck) L.length (kn.map Value.bool)) from row_keeps (F := fun _ => False) HX5.out (Keeps.of_below HB6.out) (fun _ _ h => h))
      have HBW := (show Hid (Below w1.heap.size w1 w6) from hB.trans ((HB5.out.mono hB.size).trans (HB6.out.mono (Nat.le_trans hB.size HB5.out.size))))
      clear y6 y4 HR HA HB5 HB6 HX5 HRD HIN HNIL
      go_loopw [15] (fun i wq => ∃ t : Nat, i = .int .i64 t ∧ t ≤ L.length ∧ w6.heap.size ≤ wq.heap.size ∧ Below w6.heap.size w6 wq) (fun i _ => L.length - (intOf i).toNat)
      case atStart => exact ⟨0, rfl, by omega, Nat.le_refl _, Below.refl _ _⟩
      case round =>
        obtain ⟨t, rfl, ht, hws, hBq⟩ := hrel
        by_cases htl : t < L.length
        · have l1 : kn.length = L.length := by have := HX7.out.1; simpa using this
          have l2 : kn2.length = L.length := by have := HX6.out.1; simpa using this
          have y1 := (hBq.cell (p := ⟨kb, t, none⟩) (row_base HX7.out (k := kb) rfl).2).trans ((World.ownsRow.cellAt HX7.out t (by omega)).trans (kn_at (by omega)))
          have y2 := (hBq.cell (p := ⟨kc, t, none⟩) (row_base HX6.out (k := kc) rfl).2).trans ((World.ownsRow.cellAt HX6.out t (by omega)).trans (kn_at (by omega)))
          have y3 := (hBq.cell (p := ⟨w1.heap.size, t, none⟩) (row_base HP.out (k := w1.heap.size) rfl).2).trans ((World.ownsRow.cellAt HP.out t (by omega)).trans (kn_at (by rw [plL_len]; omega)))
          have e1 : bt kn t = true := (HK5.out t).2 (atsL_all HWF.out htl)
          have e2 : bt kn2 t = bt (plL L L.length) t := Bool.eq_iff_iff.2 ((HK6.out t).trans ((nil_none L t).trans (pl_spec HWF.out htl htl).symm))
          rw [e1] at y1
          rw [e2] at y2
          have htL : (t : Int) < L.length := by omega
          clear e1 e2 l1 l2
          generalize bt (plL L L.length) t = b at y2 y3
          go_wp2
          go_quiet (fail)
          try simp only [Exit.then]
          go_wp2
          exact ⟨⟨t + 1, by simp, by omega, by simpa using hws, below_drewN hBq _⟩, by simp [intOf]; omega⟩
        · go_wp2_with (go_at_call 16; refine (wakes11_ok _).mono ?_; rintro ev w10 ⟨rfl, B10⟩)
          go_ret
          exact ⟨rfl, T.below.trans ((HBW.out.trans ((hBq.mono HBW.out.size).trans (B10.mono (Nat.le_trans HBW.out.size hws)))).mono T.below.size)⟩
end Go.Proofs.Ytikbeagcflofhaa
