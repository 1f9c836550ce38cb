/-
  MIXDROPS: the walk. Own work.
-/
import Derived.Test.YtenllpaochcjfaaMXg
namespace Go.Proofs.Ytenllpaochcjfaa
open Go.ChangeShapes Go.WideShapes Go.ChangeAt Go.RowKit Go.Maps Go.Deep
set_option maxRecDepth 100000
attribute [local go_sem ↓] Go.wp_at_zero Go.wp_at_succ
/-- The drop of a number. -/
def dr (z : Int) : Int := IntKind.u64.wrap z % 12
theorem dr_in (z : Int) : 0 ≤ dr z ∧ dr z < 12 := ⟨Int.emod_nonneg _ (by decide), Int.emod_lt_of_pos _ (by decide)⟩
theorem dr_walk (z : Int) : wrap64 ((IntKind.u64.wrap z).tmod 12) = dr z := by
  have h0 : 0 ≤ IntKind.u64.wrap z := Int.emod_nonneg _ (by decide)
  have h := dr_in z
  rw [Int.tmod_eq_emod_of_nonneg h0]
  exact IntWalk.wrap64_in _ (by unfold dr at h; omega)
theorem dr_tmod (z : Int) : (IntKind.u64.wrap z).tmod 12 = dr z := Int.tmod_eq_emod_of_nonneg (Int.emod_nonneg _ (by decide))
/-- What the law says who is met: how many so far, and the last one's. -/
def lastX (xs : List Int) (l : List Nat) : Int := match l.getLast? with
  | some q => xs.getD q 0
  | none => 1
theorem lastX_snoc (xs : List Int) (l : List Nat) (q : Nat) : lastX xs (l ++ [q]) = xs.getD q 0 := by
  unfold lastX
  rw [List.getLast?_concat]
/-- What was made of j drops. -/
structure Drp (L : List Tm) (ds : List Int) (j : Nat) (As : List Pl) (ys xs : List Int) : Prop where
  w : L[0]? = some (2, 73, [])
  n : L[1]? = some (2, 0, [])
  la : As.length = j
  ly : ys.length = j
  lx : xs.length = j
  all : ∀ t, t < j → ∃ y d x : Nat, ys[t]? = some (y : Int) ∧ xs[t]? = some (x : Int) ∧ As[t]? = some (73, (d : Int), (x : Int)) ∧ L[y]? = some (9, 0, [0, (d : Int), (x : Int)]) ∧ L[d]? = some (1, dr (ds.getD t 0), [])
theorem Drp.keep {L L' : List Tm} {ds ys xs : List Int} {j : Nat} {As : List Pl} (D : Drp L ds j As ys xs) (hm : ∀ (j : Nat) (u : Tm), L[j]? = some u → L'[j]? = some u) : Drp L' ds j As ys xs :=
  ⟨hm _ _ D.w, hm _ _ D.n, D.la, D.ly, D.lx, fun t ht => by
    obtain ⟨y, d, x, h1, h2, h3, h4, h5⟩ := D.all t ht
    exact ⟨y, d, x, h1, h2, h3, hm _ _ h4, hm _ _ h5⟩⟩
theorem Drp.more {L : List Tm} {ds ys xs : List Int} {j : Nat} {As : List Pl} (D : Drp L ds j As ys xs) {y d x : Nat} (h4 : L[y]? = some (9, 0, [0, (d : Int), (x : Int)])) (h5 : L[d]? = some (1, dr (ds.getD j 0), [])) : Drp L ds (j + 1) (As ++ [(73, (d : Int), (x : Int))]) (ys ++ [(y : Int)]) (xs ++ [(x : Int)]) := by
  refine ⟨D.w, D.n, by simp [D.la], by simp [D.ly], by simp [D.lx], fun t ht => ?_⟩
  rcases Nat.lt_or_ge t j with h | h
  · obtain ⟨y', d', x', h1, h2, h3, h4', h5'⟩ := D.all t h
    exact ⟨y', d', x', by rw [List.getElem?_append_left (by rw [D.ly]; exact h)]; exact h1, by rw [List.getElem?_append_left (by rw [D.lx]; exact h)]; exact h2, by rw [List.getElem?_append_left (by rw [D.la]; exact h)]; exact h3, h4', h5'⟩
  · obtain rfl : t = j := by omega
    refine ⟨y, d, x, ?_, ?_, ?_, h4, h5⟩
    · rw [List.getElem?_append_right (by rw [D.ly]; omega), D.ly]; simp
    · rw [List.getElem?_append_right (by rw [D.lx]; omega), D.lx]; simp
    · rw [List.getElem?_append_right (by rw [D.la]; omega), D.la]; simp
section
variable {L : List Tm} {ds ys xs : List Int} {n : Nat} {As : List Pl}
theorem Drp.word (D : Drp L ds n As ys xs) : ∀ p ∈ As, p.1 = 73 := by
  intro p hp
  obtain ⟨t, ht, rfl⟩ := List.getElem_of_mem hp
  obtain ⟨y, d, x, _, _, h3, _⟩ := D.all t (by rw [← D.la]; exact ht)
  rw [List.getElem?_eq_getElem ht] at h3
  rw [Option.some.inj h3]
theorem Drp.cnd (D : Drp L ds n As ys xs) (hW : Wf L) {i k : Nat} (hi : i < n) (hk : k < n) : cnd As i k = (decide (k ≠ i) && decide (dr (ds.getD k 0) = dr (ds.getD i 0))) := by
  obtain ⟨_, d1, x1, _, _, a1, _, e1⟩ := D.all i hi
  obtain ⟨_, d2, x2, _, _, a2, _, e2⟩ := D.all k hk
  unfold Proofs.Ytenllpaochcjfaa.cnd
  rw [List.getD_eq_getElem?_getD, List.getD_eq_getElem?_getD, a1, a2]
  simp only [Option.getD_some]
  have : ((d2 : Int) = (d1 : Int)) ↔ dr (ds.getD k 0) = dr (ds.getD i 0) := by
    constructor
    · intro e
      obtain rfl : d2 = d1 := by omega
      have := same_at e1 e2
      simp only [Prod.mk.injEq] at this
      exact this.2.1.symm
    · intro e
      rw [e] at e2
      rw [one_at hW e2 e1]
  simp [this]
theorem Drp.ans (D : Drp L ds n As ys xs) {i : Nat} (h1 : (mtL As i n).length = 1) : ansD As 1 i = lastX xs (mtL As i n) := by
  obtain ⟨q, hq⟩ := List.length_eq_one_iff.1 h1
  have hl := D.la
  have hqn : q < n := by
    have : q ∈ mtL As i n := by rw [hq]; simp
    unfold mtL at this
    exact List.mem_range.1 (List.mem_filter.1 this).1
  obtain ⟨_, d, x, _, a2, a3, _⟩ := D.all q hqn
  rw [ansD_one (j := q) (by rw [hl]; exact hq), hq]
  unfold lastX
  simp only [List.getLast?_singleton]
  rw [List.getD_eq_getElem?_getD, List.getD_eq_getElem?_getD, a2, a3]
  rfl
end
set_option maxHeartbeats 16000000 in
theorem drops_main (p : Option Addr) (n c : Nat) (ds : List Int) (w : World) (hn : ds.length = n) (h60 : n ≤ 60) (H1 : Hid (RdW w (.slice p n c) ds)) : Calls Try.prog 4 #[.slice p n c] w fun e w' => e = .returned (.bool true) ∧ Below w.heap.size w w' := by
  obtain ⟨i0, hi', hz0, hz1, hz2⟩ := info_parts (P := Try.prog) (e := 3) (z := .int .i64 0) (size := 1) (bytes := 8) (by kernel_rfl)
  have hnI : ¬ (60 : Int) < n := by omega
  have d1 : put [(2, 73, [])] (2, 0, []) = (1, 0, [(2, 73, []), (2, 0, [])]) := by decide +kernel
  have HD1 := (show Hid _ from d1)
  clear d1
  go_enter Try.func4, Try.ntmps4
  go_wp2_with (first
    | (go_at_call 5; refine (new_ar _).mono ?_; rintro ev w1 ⟨ab, F0, rfl, A0, hF0, B0⟩; have T0 := on_fresh A0 hF0 B0; clear A0 hF0 B0)
    | (go_at_call 6; refine (make_on T0 2 73 (v := .slice none 0 0) (xs := []) (.inl ⟨rfl, rfl⟩) (by omega) wm0).mono ?_; rintro ev w2 ⟨rfl, T1, _⟩; clear T0)
    | (go_at_call 6; refine (make_on T1 2 0 (v := .slice none 0 0) (xs := []) (.inl ⟨rfl, rfl⟩) (by omega) HD1.out).mono ?_; rintro ev w3 ⟨rfl, T2, _⟩; clear T1))
  have R2 := Rw2.start T2
  have D0 : Drp [(2, 73, []), (2, 0, [])] ds 0 [] [] [] := ⟨rfl, rfl, rfl, rfl, rfl, fun t h => by omega⟩
  clear T2
  go_loopw [8, 9, 10] (fun v u i wq => ∃ (j : Nat) (L : List Tm) (As : List Pl) (ys xs : List Int) (p1 : Option Addr) (c1 : Nat) (p2 : Option Addr) (c2 : Nat), v = .slice p1 ys.length c1 ∧ u = .slice p2 xs.length c2 ∧ i = .int .i64 j ∧ j ≤ n ∧ Rw2 w wq ab L (.slice p1 ys.length c1) ys (.slice p2 xs.length c2) xs ∧ Drp L ds j As ys xs ∧ L.length ≤ 2 + 3 * j) (fun _ _ i _ => n - (intOf i).toNat)
  case atStart => exact ⟨0, _, [], [], [], none, 0, none, 0, rfl, rfl, rfl, by omega, R2, D0, by simp⟩
  case round =>
    clear R2 D0
    obtain ⟨j, L, As, ys, xs, p1, c1, p2, c2, rfl, rfl, rfl, hj, T, D, hL⟩ := hrel
    by_cases hlt : j < n
    · obtain ⟨bd, od, rfl, hbd, hcd⟩ := rdw_pos H1.out (t := j) (by omega)
      have hjI : (j : Int) < n := by omega
      have hzj : ∃ zj, zj = ds.getD j 0 := ⟨_, rfl⟩
      obtain ⟨zj, hzj⟩ := hzj
      rw [← hzj] at hcd
      have HZ := (show Hid (zj = ds.getD j 0) from hzj)
      clear hzj
      have hdi := dr_in zj
      have HDR := (show Hid _ from dr_walk zj)
      obtain ⟨d, L2, K1⟩ := mk_ex (L := L) (sh_atom (dr zj) hdi.1) (fun z hz => by cases hz) (by omega)
      have b1 := K1.le1
      have b1' := K1.le
      obtain ⟨x, L3, K2⟩ := mk_ex (L := L2) (sh_atom (100 + (j : Int)) (by omega)) (fun z hz => by cases hz) (by omega)
      have b2 := K2.le1
      have b2' := K2.le
      have hd2 := (List.getElem?_eq_some_iff.1 K1.at').1
      have hx3 := (List.getElem?_eq_some_iff.1 K2.at').1
      have hL0 := (List.getElem?_eq_some_iff.1 D.n).1
      obtain ⟨y, L4, K3⟩ := mk_ex (L := L3) (t := (9, 0, [0, (d : Int), (x : Int)])) (sh_list _ (by simp)) (fun z hz => by simp at hz; omega) (by omega)
      have b3 := K3.le1
      have hL4 : L4.length ≤ 2 + 3 * (j + 1) := by clear hdi hcd; omega
      have P1 := (show Hid _ from K1.put)
      have P2 := (show Hid _ from K2.put)
      have P3 := (show Hid _ from K3.put)
      have hD4 := (D.keep (fun i u h => K3.keep i u (K2.keep i u (K1.keep i u h)))).more K3.at' (by rw [← HZ.out]; exact K3.keep _ _ (K2.keep _ _ K1.at'))
      have HD4 := (show Hid (Drp L4 ds (j + 1) (As ++ [(73, (d : Int), (x : Int))]) (ys ++ [(y : Int)]) (xs ++ [(x : Int)])) from hD4)
      have hly : ys.length ≤ 60 := by have := D.ly; omega
      have hlx : xs.length ≤ 60 := by have := D.lx; omega
      have HLY := (show Hid (ys.length ≤ 60) from hly)
      have HLX := (show Hid (xs.length ≤ 60) from hlx)
      clear hly hlx
      have hcd2 := (T.on.below.cell (p := ⟨bd, od + j, none⟩) hbd).trans hcd
      have hw : wrap64 (100 + (j : Int)) = 100 + j := IntWalk.wrap64_in _ (by omega)
      have HW := (show Hid _ from hw)
      clear hw
      have hl1 : (ys ++ [(y : Int)]).length = ys.length + 1 := by simp
      have hl2 : (xs ++ [(x : Int)]).length = xs.length + 1 := by simp
      have HL1 := (show Hid _ from hl1)
      have HL2 := (show Hid _ from hl2)
      clear K1 K2 K3 hD4 D hl1 hl2 hcd
      go_wp2_with (first
        | (go_at_call 6; rw [HDR.out]; refine (T.calls (fun G' O => make_on O 1 (dr zj) (v := .slice none 0 0) (xs := []) (.inl ⟨rfl, rfl⟩) (by omega) P1.out)).mono ?_; rintro ev w4 ⟨rfl, T4⟩; clear T HDR)
        | (go_at_call 6; refine (T4.calls (fun G' O => make_on O 1 (100 + (j : Int)) (v := .slice none 0 0) (xs := []) (.inl ⟨rfl, rfl⟩) (by omega) P2.out)).mono ?_; rintro ev w5 ⟨rfl, T5⟩; clear T4)
        | (go_at_call 6; refine ((T5.step ((Below.refl _ w5).alloc (Nat.le_refl _) _)).calls (fun G' O => make_on O 9 0 (xs := [0, (d : Int), (x : Int)]) (reads_lit [0, (d : Int), (x : Int)] rfl rfl _) (by omega) P3.out)).mono ?_; rintro ev w6 ⟨rfl, T6⟩; clear T5)
        | (at_builtin; have hsz := T6.on.below.size; have hlen := HLY.out; refine wpList_append_own_at _ rfl (.tmp 89) (.tmp 91) 29 rfl w.heap.size 3 i0 (.int .i64 0) 1 8 Try.underlying29 hi' hz0 hz1 hz2 rfl (by decide) (.slice p1 ys.length c1) ys.length _ rfl (World.ownsRow.alloc T6.r1 _) ⟨w6.heap.size, 0, none⟩ 1 1 [.int .i64 (y : Int)] rfl rfl (World.news_of_block (heap_alloc_new w6 _)) (by simp [Value.oneCell']) (by unfold maxLen; omega) (by omega) (by simp; omega) ?_; clear hlen; intro v7 w7 hown7 hgrow7 _ hat7; obtain ⟨p7, c7, rfl, T7⟩ := T6.app hown7 hgrow7 hat7; clear T6 hown7 hgrow7 hat7)
        | (at_builtin; have hsz := T7.on.below.size; have hlen := HLX.out; refine wpList_append_own_at _ rfl (.tmp 93) (.tmp 95) 29 rfl w.heap.size 3 i0 (.int .i64 0) 1 8 Try.underlying29 hi' hz0 hz1 hz2 rfl (by decide) (.slice p2 xs.length c2) xs.length _ rfl (World.ownsRow.alloc T7.r2 _) ⟨w7.heap.size, 0, none⟩ 1 1 [.int .i64 (x : Int)] rfl rfl (World.news_of_block (heap_alloc_new w7 _)) (by simp [Value.oneCell']) (by unfold maxLen; omega) (by omega) (by simp; omega) ?_; clear hlen; intro v8 w8 hown8 hgrow8 _ hat8; obtain ⟨p8, c8, rfl, T8⟩ := T7.swap.app hown8 hgrow8 hat8; have T9 := T8.swap; clear T7 T8 hown8 hgrow8 hat8))
      exact ⟨⟨j + 1, L4, _, _, _, p7, c7, p8, c8, by rw [HL1.out], by rw [HL2.out], by simp, by omega, T9, HD4.out, hL4⟩, by simp [intOf]; omega⟩
    · obtain rfl : j = n := by omega
      have hle : L.length ≤ 200 := by omega
      have hL2 : 1 < L.length := (List.getElem?_eq_some_iff.1 D.n).1
      have hM := mk_in T.on.wf (sh_word 0 (by omega)) (fun z hz => by cases hz) D.n
      have HM := (show Hid (MkT L (2, 0, []) 1 L) from hM)
      have HDR := (show Hid (Drp L ds j As ys xs) from D)
      have HY := (show Hid (ys.length = j) from D.ly)
      have HX := (show Hid (xs.length = j) from D.lx)
      have HA := (show Hid (∀ q : Nat, q < j → ∃ (x : Nat) (u y b : Int), ys[q]? = some (x : Int) ∧ As[q]? = some (u, y, b) ∧ IsAsk L x (u, y, b)) from fun q hq => by
        obtain ⟨y, d, x, h1, h2, h3, h4, h5⟩ := HDR.out.all q hq
        exact ⟨y, 73, d, x, h1, h3, .three 73 0 d x h4 D.w (.inr rfl)⟩)
      have HC := (show Hid (xs.length = j) from D.lx)
      rw [D.ly, D.lx] at T
      rw [D.ly, D.lx]
      obtain ⟨wb, hwb⟩ : ∃ wb, wb = wr := ⟨_, rfl⟩
      subst hwb
      have HT := (show Hid (Rw2 w wb ab L (.slice p1 j c1) ys (.slice p2 j c2) xs) from T)
      have HRW := (show Hid (RdW wb (.slice p1 j c1) ys) from (irow_of T.r1).reads.rdw)
      have hwl := T.on.below.size
      clear T D hM hL hlt hj
      have HO := (show Hid (On w wb ab L (fun k => (Value.slice p1 j c1).ownBlock = some k ∨ (Value.slice p2 j c2).ownBlock = some k)) from HT.out.on)
      have HN := (show Hid (RdK wb (.slice none 0 0) []) from (⟨none, 0, rfl, .inl rfl⟩ : RdK wb (.slice none 0 0) []))
      have HG0 := (show Hid (∀ k, (Value.slice none 0 0).ownBlock = some k → ((Value.slice p1 j c1).ownBlock = some k ∨ (Value.slice p2 j c2).ownBlock = some k)) from fun k hk => by simp [Value.ownBlock] at hk)
      have HG1 := (show Hid (∀ k, (Value.slice p1 j c1).ownBlock = some k → ((Value.slice p1 j c1).ownBlock = some k ∨ (Value.slice p2 j c2).ownBlock = some k)) from fun k hk => .inl hk)
      have HI0 := (show Hid (∀ k ∈ ([] : List Ky), allIn L [k.1, k.2]) from fun k hk => by cases hk)
      go_wp2_with (go_at_call 7; refine (mixdo_ok HO HM none 0 0 [] rfl (by omega) HN HG0 HI0 p1 j c1 ys As HY.out HDR.out.la (by omega) HRW HG1 HA).mono ?_; rintro ev w4 ⟨pn, cn, po, co, R, out, rfl, k1, k2, k3, k4, k5, k6⟩
                   obtain ⟨rfl, hol, hans⟩ := drops_done HDR.out.word k1
                   rw [hol] at k5 ⊢
                   have HK2 := (show Hid (Below w.heap.size w w4) from k2.below)
                   have HC4 := (show Hid (w4.ownsRow w.heap.size 3 1 (.slice p2 j c2) j (xs.map (Value.int .i64))) from by have h := row_keeps HT.out.r2 k3 (fun k hk hn => hn (.inr hk)); rwa [HX.out] at h)
                   have HU4 := (show Hid (w4.ownsRow wb.heap.size 3 1 (.slice po j co) j (out.map (Value.int .i64))) from k5)
                   have HANS := (show Hid (∀ t, t < j → out[t]? = some (ansD As 1 t)) from hans)
                   clear k1 k2 k3 k4 k5 k6 hans hol)
      have HWF := (show Hid (Wf L) from HT.out.on.wf)
      have h4s := HK2.out.size
      clear HA HO HM HN HG0 HG1 HI0 HRW hwl hL2 hle
      go_loopw [19] (fun i wq => ∃ t : Nat, i = .int .i64 t ∧ t ≤ j ∧ Below w4.heap.size w4 wq) (fun i _ => j - (intOf i).toNat)
      case atStart => exact ⟨0, rfl, by omega, Below.refl _ _⟩
      case round =>
        obtain ⟨t, rfl, ht, hB⟩ := hrel
        by_cases htl : t < j
        · have htI : (t : Int) < j := by omega
          go_wp2
          go_loopw [20, 21, 22] (fun n o k wq => ∃ q : Nat, n = .int .i64 ((mtL As t q).length : Int) ∧ o = .int .i64 (lastX xs (mtL As t q)) ∧ k = .int .i64 q ∧ q ≤ j ∧ Below w4.heap.size w4 wq) (fun _ _ k _ => j - (intOf k).toNat)
          case atStart => exact ⟨0, rfl, rfl, rfl, by omega, hB⟩
          case round =>
            clear hB
            obtain ⟨q, rfl, rfl, rfl, hq, hB⟩ := hrel
            have hBw := HK2.out.trans (hB.mono h4s)
            by_cases hql : q < j
            · obtain ⟨bd, od, rfl, hbd, hcq⟩ := rdw_pos H1.out (t := q) (by omega)
              obtain ⟨bd2, od2, he, _, hct⟩ := rdw_pos H1.out (t := t) (by omega)
              obtain ⟨rfl, rfl⟩ : bd = bd2 ∧ od = od2 := by simpa using he
              have x1 := (hBw.cell (p := ⟨bd, od + q, none⟩) hbd).trans hcq
              have x2 := (hBw.cell (p := ⟨bd, od + t, none⟩) hbd).trans hct
              have hcn := HDR.out.cnd HWF.out htl hql
              obtain ⟨zq, hzq⟩ : ∃ z, z = ds.getD q 0 := ⟨_, rfl⟩
              obtain ⟨zt, hzt⟩ : ∃ z, z = ds.getD t 0 := ⟨_, rfl⟩
              rw [← hzq] at x1 hcn
              rw [← hzt] at x2 hcn
              have HCN := (show Hid _ from hcn)
              have HS := (show Hid _ from mtL_succ As t q)
              have hqI : (q : Int) < j := by omega
              obtain ⟨g, rfl, _, _, _, hcx⟩ := row_open HC4.out (by omega)
              clear hcq hct he hzq hzt hcn
              have hmle : (mtL As t q).length ≤ 60 := Nat.le_trans (List.length_filter_le _ _) (by simp; omega)
              obtain ⟨xq, hxq⟩ : ∃ xq, xs[q]? = some xq := ⟨_, List.getElem?_eq_getElem (by have := HX.out; omega)⟩
              have x3 : wr.cell? ⟨g, q, none⟩ = some (.int .i64 xq) := (hB.cell (p := ⟨g, q, none⟩) (row_base HC4.out rfl).2).trans (by rw [hcx q (by omega), List.getElem?_map, hxq]; rfl)
              have HXQ := (show Hid (xs.getD q 0 = xq) from by rw [List.getD_eq_getElem?_getD, hxq]; rfl)
              obtain ⟨m, hm⟩ : ∃ m : Nat, m = (mtL As t q).length := ⟨_, rfl⟩
              obtain ⟨ox, hox⟩ : ∃ ox, ox = lastX xs (mtL As t q) := ⟨_, rfl⟩
              rw [← hm, ← hox]
              rw [← hm] at hmle
              have HM := (show Hid _ from hm)
              have HOX := (show Hid _ from hox)
              clear hm hox hcx hxq
              by_cases hqt : q = t
              · have e : mtL As t (q + 1) = mtL As t q := by rw [HS.out, HCN.out]; simp [hqt]
                have hqI2 : (q : Int) = t := by omega
                have E1' : (m : Int) = ((mtL As t (q + 1)).length : Int) := by rw [e, HM.out]
                have E1 := (show Hid _ from E1')
                clear E1'
                have E2' : ox = lastX xs (mtL As t (q + 1)) := by rw [e, HOX.out]
                have E2 := (show Hid _ from E2')
                clear E2'
                clear e HS HCN HM HOX
                subst hqt
                go_wp2
                go_quiet (fail)
                go_wp2
                exact ⟨⟨q + 1, by rw [E1.out], by rw [E2.out], by simp, by omega, below_drewN hB _⟩, by simp [intOf]; omega⟩
              · have hne1 : ¬ (q : Int) = t := by omega
                by_cases hz : dr zq = dr zt
                · have e : mtL As t (q + 1) = mtL As t q ++ [q] := by rw [HS.out, HCN.out]; simp [hqt, hz]
                  have hze : ((IntKind.u64.wrap zq).tmod 12 == (IntKind.u64.wrap zt).tmod 12) = true := by rw [dr_tmod, dr_tmod, hz]; simp
                  have hl : (mtL As t (q + 1)).length = m + 1 := by rw [e, HM.out]; simp
                  have E1' : ((m : Int) + 1) = ((mtL As t (q + 1)).length : Int) := by rw [hl]; omega
                  have E1 := (show Hid _ from E1')
                  clear E1'
                  have E2' : xq = lastX xs (mtL As t (q + 1)) := by rw [e, lastX_snoc, HXQ.out]
                  have E2 := (show Hid _ from E2')
                  clear E2'
                  clear e HS HCN HM HOX hl hz
                  go_wp2
                  go_quiet (fail)
                  have hwm : IntKind.i64.wrap ((m : Int) + 1) = m + 1 := IntWalk.i64_in _ (by omega)
                  go_wp2
                  go_quiet (fail)
                  go_wp2
                  clear hwm
                  exact ⟨⟨q + 1, by rw [E1.out], by rw [E2.out], by simp, by omega, below_drewN hB _⟩, by simp [intOf]; omega⟩
                · have e : mtL As t (q + 1) = mtL As t q := by rw [HS.out, HCN.out]; simp [hz]
                  have hze : ((IntKind.u64.wrap zq).tmod 12 == (IntKind.u64.wrap zt).tmod 12) = false := by rw [dr_tmod, dr_tmod]; simp [hz]
                  have E1' : (m : Int) = ((mtL As t (q + 1)).length : Int) := by rw [e, HM.out]
                  have E1 := (show Hid _ from E1')
                  clear E1'
                  have E2' : ox = lastX xs (mtL As t (q + 1)) := by rw [e, HOX.out]
                  have E2 := (show Hid _ from E2')
                  clear E2'
                  clear e HS HCN HM HOX hz
                  go_wp2
                  go_quiet (fail)
                  go_wp2
                  exact ⟨⟨q + 1, by rw [E1.out], by rw [E2.out], by simp, by omega, below_drewN hB _⟩, by simp [intOf]; omega⟩
            · have eqj : (q : Int) = j := by omega
              rw [eqj]
              clear eqj
              obtain rfl : q = j := by omega
              obtain ⟨m, hm⟩ : ∃ m : Nat, m = (mtL As t q).length := ⟨_, rfl⟩
              obtain ⟨ox, hox⟩ : ∃ ox, ox = lastX xs (mtL As t q) := ⟨_, rfl⟩
              rw [← hm, ← hox]
              obtain ⟨g, rfl, _, _, _, hcx⟩ := row_open HU4.out (by omega)
              have hla := HDR.out.la
              have ho := HANS.out t htl
              by_cases hm1 : m = 1
              · have e : ansD As 1 t = ox := by rw [HDR.out.ans (by omega), hox]
                rw [e] at ho
                have x3 : wr.cell? ⟨g, t, none⟩ = some (.int .i64 ox) := (hB.cell (p := ⟨g, t, none⟩) (row_base HU4.out rfl).2).trans (by rw [hcx t (by omega), List.getElem?_map, ho]; rfl)
                clear e ho hcx hla hox hm
                subst hm1
                go_wp2
                exact ⟨⟨t + 1, by simp, by omega, hB⟩, by simp [intOf]; omega⟩
              · have e : ansD As 1 t = 1 := ansD_not (by rw [hla]; omega)
                rw [e] at ho
                have x3 : wr.cell? ⟨g, t, none⟩ = some (.int .i64 1) := (hB.cell (p := ⟨g, t, none⟩) (row_base HU4.out rfl).2).trans (by rw [hcx t (by omega), List.getElem?_map, ho]; rfl)
                have hmI : ¬ (m : Int) = 1 := by omega
                clear e ho hcx hla hox hm
                go_wp2
                exact ⟨⟨t + 1, by simp, by omega, hB⟩, by simp [intOf]; omega⟩
        · have etj : (t : Int) = j := by omega
          rw [etj]
          clear etj
          obtain rfl : t = j := by omega
          have hB2 := HK2.out.trans (hB.mono h4s)
          go_wp2_with (go_at_call 9; refine (wakes24_ok _).mono ?_; rintro ev w9 ⟨rfl, B9⟩)
          go_ret
          exact ⟨rfl, hB2.trans (B9.mono hB2.size)⟩
end Go.Proofs.Ytenllpaochcjfaa
