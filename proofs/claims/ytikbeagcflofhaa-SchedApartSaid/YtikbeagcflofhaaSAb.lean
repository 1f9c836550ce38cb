/-
  SCHEDAPART: the walk. Own work.
-/
import Derived.Test.YtikbeagcflofhaaSAa
import Derived.Deep.AppendLies
import Derived.Deep.RegionHeld3
namespace Go.Proofs.Ytikbeagcflofhaa
open Go.ChangeShapes Go.WideShapes Go.ChangeAt Go.RowKit Go.Maps Go.Deep
set_option maxRecDepth 100000
section
variable {w w0 wr w' : World} {aa : Nat} {L L2 : List Tm} {G : Nat → Prop} {v : Value} {xs ys : List Int} {h : Nat}
/-- Some more behind it. -/
theorem OnRow.appends (T : OnRow w w0 wr aa L G v xs) {o : Obj} {m : Nat} {v' : Value} (hm : ys.length = m) (hown : w'.ownsRow w.heap.size 3 1 v' (xs.length + m) (xs.map (Value.int .i64) ++ ys.map (Value.int .i64))) (hg : (wr.alloc o).grownBy w' v.ownBlock) (hat : v'.ownBlock = v.ownBlock ∨ v'.ownBlock = some (wr.alloc o).heap.size) : ∃ p c, v' = .slice p (xs.length + m) c ∧ OnRow w w0 w' aa L G (.slice p (xs ++ ys).length c) (xs ++ ys) := by
  subst hm
  obtain ⟨p, c, rfl⟩ := row_slice hown
  obtain ⟨H, O, hv⟩ := T.ex
  have O2 := O.alloc o
  have hlen : (xs ++ ys).length = xs.length + ys.length := by simp
  have hK : Keeps (fun k => v.ownBlock = some k) (wr.alloc o) w' := Keeps.of_grown hg (fun k hk => hk)
  have O3 := O2.more (P := fun k => k = (wr.alloc o).heap.size ∧ k < w'.heap.size) hK (fun k hk => .inl ⟨.inr (hv k hk).1, (row_base T.row hk).1⟩) (fun k hk => ⟨by omega, hk.2⟩)
  refine ⟨p, c, rfl, ⟨fun k => H k ∨ (k = (wr.alloc o).heap.size ∧ k < w'.heap.size), O3.mono (fun k hk => ?_), fun k hk => ?_⟩, ?_, ?_⟩
  · rcases hk with h | h | h
    · exact .inl (.inl h)
    · exact .inl (.inr h)
    · exact .inr h
  · rw [hlen] at hk
    have hlt := (row_base hown hk).2
    rcases hat with h | h
    · rw [h] at hk
      exact ⟨.inl (hv k hk).1, (hv k hk).2⟩
    · rw [h] at hk
      cases hk
      exact ⟨.inr ⟨rfl, hlt⟩, fun hg => by have := O.lt _ (.inl hg); simp at this; omega⟩
  · rw [hlen, List.map_append]
    exact hown
  · exact T.stay.trans ((stay_below ((Below.refl _ wr).alloc (Nat.le_refl _) o)).trans (hK.mono (fun k _ hk hgk => (hv k hk).2 hgk)))
theorem tag_at (T : On w wr aa L G) {y : Int} (hy : y = (h : Int)) (h0 : 0 < L.length) (hh : h < L.length) (hr : L.length + 20 < 1048576) {a : Nat} (ha : plc (tagL L 0) (tagT L 0 h) = a) (hL : ext (tagL L 0) (tagT L 0 h) = L2) : Calls Try.prog 27 #[.pointer (some ⟨aa, 0, none⟩), .int .i64 0, .int .i64 y] wr fun e w' => e = .returned (.tuple #[.int .i64 a, .int .i64 0]) ∧ On w w' aa L2 G ∧ Stay G wr w' := by
  subst ha hL hy
  exact tag_on T 0 h h0 hh hr
theorem chain_at (T : On w wr aa L G) (i : Nat) (h1 : i < 8) (h0 : 0 < L.length) (hr : L.length + 20 < 1048576) {a : Nat} (ha : plc (boundL L 0 23 [(i : Int)]) (boundT L 0 23 [(i : Int)]) = a) (hL : ext (boundL L 0 23 [(i : Int)]) (boundT L 0 23 [(i : Int)]) = L2) : Calls Try.prog 36 #[.pointer (some ⟨aa, 0, none⟩), .int .i64 0, .int .i64 i] wr fun e w' => e = .returned (.tuple #[.int .i64 a, .int .i64 0]) ∧ On w w' aa L2 G ∧ Stay G wr w' := by
  subst ha hL
  exact chain_on T 0 i (by omega) h0 hr
theorem meet_at (T : On w wr aa L G) (x : Nat) (i j round : Int) (h1 : 0 ≤ i ∧ i < 8) (h2 : 0 ≤ j ∧ j < 8) (h3 : 0 ≤ round) (h4 : round < 9223372036854775808) (hx : x < L.length) (hr : L.length + 20 < 1048576) {lo hi : Int} (hlo : (if j < i then j else i) = lo) (hhi : (if i < j then j else i) = hi) {a : Nat} {L2 : List Tm} (ha : plc (boundL L x 24 [lo, hi, round]) (boundT L x 24 [lo, hi, round]) = a) (hL : ext (boundL L x 24 [lo, hi, round]) (boundT L x 24 [lo, hi, round]) = L2) :
    Calls Try.prog 39 #[.pointer (some ⟨aa, 0, none⟩), .int .i64 x, .int .i64 i, .int .i64 j, .int .i64 round] wr fun e w' => e = .returned (.tuple #[.int .i64 a, .int .i64 0]) ∧ On w w' aa L2 G ∧ Stay G wr w' := by
  subst hlo hhi ha hL
  exact meet_on T x i j round h1 h2 h3 h4 hx hr
theorem start_at (T : On w wr aa L G) {a : Nat} (hp : put L (4, 21, [0]) = ((a : Int), 0, L2)) : Calls Try.prog 31 #[.pointer (some ⟨aa, 0, none⟩), .int .i64 0] wr fun e w' => e = .returned (.tuple #[.int .i64 a, .int .i64 0]) ∧ On w w' aa L2 G ∧ Stay G wr w' := start_on T 0 hp
theorem register_at (T : On w wr aa L G) {a : Nat} (hp : put L (4, 25, [0]) = ((a : Int), 0, L2)) : Calls Try.prog 33 #[.pointer (some ⟨aa, 0, none⟩), .int .i64 0] wr fun e w' => e = .returned (.tuple #[.int .i64 a, .int .i64 0]) ∧ On w w' aa L2 G ∧ Stay G wr w' := register_on T 0 hp
end
theorem flag_cell {w : World} {base kb n ck i : Nat} {kn : List Bool} (h : w.ownsRow base 4 1 (.slice (some ⟨kb, 0, none⟩) n ck) n (kn.map Value.bool)) (hi : i < n) : w.cell? ⟨kb, i, none⟩ = some (.bool (bt kn i)) := by
  obtain ⟨g, e, _, _, _, hc⟩ := row_open h (by omega)
  obtain rfl : kb = g := by simpa using e
  have hl : kn.length = n := by have := h.1; simpa using this
  rw [hc i (by omega), List.getElem?_map, List.getElem?_eq_getElem (by omega)]
  unfold bt
  rw [List.getD_eq_getElem?_getD, List.getElem?_eq_getElem (by omega)]
  rfl
theorem wk0 : put [] (1, 1, []) = (0, 0, [(1, 1, [])]) := by decide +kernel
def wkL : List Tm := [(1, 1, []), (4, 24, [0]), (2, 1, []), (2, 3, []), (2, 5, []), (3, 0, [1, 2, 3, 4])]
theorem wk1 : plc (boundL [(1, 1, [])] 0 24 [1, 3, 5]) (boundT [(1, 1, [])] 0 24 [1, 3, 5]) = 5 := by decide +kernel
theorem wk2 : ext (boundL [(1, 1, [])] 0 24 [1, 3, 5]) (boundT [(1, 1, [])] 0 24 [1, 3, 5]) = wkL := by decide +kernel
theorem wk3 : plc (boundL wkL 0 24 [1, 3, 5]) (boundT wkL 0 24 [1, 3, 5]) = 5 := by decide +kernel
theorem wk4 : ext (boundL wkL 0 24 [1, 3, 5]) (boundT wkL 0 24 [1, 3, 5]) = wkL := by decide +kernel
theorem wk5 : plc (boundL wkL 0 24 [1, 3, 6]) (boundT wkL 0 24 [1, 3, 6]) = 7 := by decide +kernel
attribute [local go_sem ↓] Go.wp_at_zero Go.wp_at_succ
set_option maxHeartbeats 4000000 in
theorem wakes18_ok (ws : World) : Calls Try.prog 35 #[] ws fun e w' => e = .returned (.bool true) ∧ Below ws.heap.size ws w' := by
  go_enter Try.func35, Try.ntmps35
  go_wp2_with (first
    | (go_at_call 13; refine (new_ar _).mono ?_; rintro ev w1 ⟨ab, F0, rfl, A0, hF0, B0⟩; have T0 := on_fresh A0 hF0 B0; clear A0 hF0 B0)
    | (go_at_call 14; refine (make_on T0 1 1 (v := .slice none 0 0) (xs := []) (.inl ⟨rfl, rfl⟩) (by omega) wk0).mono ?_; rintro ev w2 ⟨rfl, T1, _⟩; clear T0)
    | (go_at_call 39; refine (meet_at T1 0 3 1 5 (by omega) (by omega) (by omega) (by omega) (by simp) (by simp) (by decide) (by decide) wk1 wk2).mono ?_; rintro ev w3 ⟨rfl, T2, _⟩; clear T1)
    | (go_at_call 39; refine (meet_at T2 0 1 3 5 (by omega) (by omega) (by omega) (by omega) (by simp [wkL]) (by simp [wkL]) (by decide) (by decide) wk3 wk4).mono ?_; rintro ev w4 ⟨rfl, T3, _⟩; clear T2)
    | (go_at_call 39; refine (meet_at T3 0 1 3 6 (by omega) (by omega) (by omega) (by omega) (by simp [wkL]) (by simp [wkL]) (by decide) (by decide) wk5 rfl).mono ?_; rintro ev w5 ⟨rfl, T4, _⟩; clear T3))
  go_ret
  exact ⟨rfl, T4.below⟩
set_option maxHeartbeats 16000000 in
theorem apart_main (n r : Int) (hn0 : 0 ≤ n) (hnM : n < 9223372036854775808) (hr0 : 0 ≤ r) (hr1 : r ≤ 1073741824) (pf : Option Addr) (m cf : Nat) (hs : List Bool) (hm : hs.length = m) (hm5 : m ≤ 50) (w : World) (H2 : Hid (RdB w (.slice pf m cf) hs)) : Calls Try.prog 8 #[.int .i64 n, .int .i64 r, .slice pf m cf] w fun e w' => e = .returned (.bool true) ∧ Below w.heap.size w w' := by
  obtain ⟨i0, hi', hz0, hz1, hz2⟩ := info_parts (P := Try.prog) (e := 3) (z := .int .i64 0) (size := 1) (bytes := 8) (by kernel_rfl)
  have hA : ¬ n < 0 := by omega
  have hB : ¬ r < 0 := by omega
  have hC : ¬ (1073741824 : Int) < r := by omega
  have hD : ¬ (50 : Int) < m := by omega
  have hp0 : put ([] : List Tm) (1, n, []) = (0, 0, [(1, n, [])]) := put_new (sh_atom n (by omega)) (fun z hz => by cases hz) (by simp) (by simp)
  have HP0 := (show Hid _ from hp0)
  obtain ⟨b, hbe⟩ : ∃ b : Int, n / 2 + 1099511627776 = b := ⟨_, rfl⟩
  have hb0 : 0 ≤ b := by omega
  have hbM : b < 9223372036854775808 := by omega
  obtain ⟨h, L1, K1⟩ := mk_ex (L := [(1, n, [])]) (sh_atom b hb0) (fun z hz => by cases hz) (by simp)
  have HK1 := (show Hid _ from K1.put)
  obtain ⟨s1, s2, s3⟩ := apart_start (r := r) K1
  obtain ⟨x1, L2, x2, L3, x3, L4, q1, q2, q3, q4, S4, q5, q6, q7, q8⟩ := apart_pre s1 s2 s3
  have Q1 := (show Hid _ from q1)
  have Q2 := (show Hid _ from q2)
  have Q3 := (show Hid _ from q3)
  have Q4 := (show Hid _ from q4)
  have HS4 := (show Hid (SInv L4 h r n b [(x1 : Int), (x2 : Int), (x3 : Int)]) from S4)
  have HBE := (show Hid _ from hbe)
  clear hp0 K1 s1 s2 s3 q1 q2 q3 q4 S4 hbe
  go_enter Try.func8, Try.ntmps8
  go_wp2_with (first
    | (go_at_call 13; refine (new_ar _).mono ?_; rintro ev w1 ⟨aa, F0, rfl, A0, hF0, B0⟩; have T0 := on_fresh A0 hF0 B0; clear A0 hF0 B0)
    | (go_at_call 14; refine (make_on T0 1 n (v := .slice none 0 0) (xs := []) (.inl ⟨rfl, rfl⟩) hnM HP0.out).mono ?_; rintro ev w2 ⟨rfl, T1, _⟩; clear T0)
    | (go_at_call 14; rw [HBE.out]; refine (make_on T1 1 b (v := .slice none 0 0) (xs := []) (.inl ⟨rfl, rfl⟩) hbM HK1.out).mono ?_; rintro ev w3 ⟨rfl, T2, _⟩; clear T1)
    | (go_at_call 31; refine (start_at T2 Q1.out).mono ?_; rintro ev w4 ⟨rfl, T3, _⟩; clear T2)
    | (go_at_call 27; refine (tag_at T3 rfl q6 q7 (by omega) Q2.out Q3.out).mono ?_; rintro ev w5 ⟨rfl, T4, _⟩; clear T3)
    | (go_at_call 33; refine (register_at T4 Q4.out).mono ?_; rintro ev w6 ⟨rfl, T5, _⟩; have R5 := T5.row0; clear T4 T5)
    | (at_builtin; have hsz := R5.on.below.size; refine wpList_append_own_at _ rfl (.tmp 91) (.tmp 95) 22 rfl w.heap.size 3 i0 (.int .i64 0) 1 8 Try.underlying22 hi' hz0 hz1 hz2 rfl (by decide) (.slice none 0 0) 0 _ rfl (R5.row.alloc _) ⟨w6.heap.size, 0, none⟩ 3 3 [.int .i64 (x1 : Int), .int .i64 (x2 : Int), .int .i64 (x3 : Int)] rfl rfl (World.news_of_block (heap_alloc_new w6 _)) (by simp [Value.oneCell']) (by unfold maxLen; omega) (by omega) (by simp; omega) ?_; intro v7 w7 hown7 hgrow7 _ hat7
       obtain ⟨p7, c7, rfl, T7⟩ := R5.appends (ys := [(x1 : Int), (x2 : Int), (x3 : Int)]) (m := 3) rfl hown7 hgrow7 hat7
       clear R5 hown7 hgrow7 hat7))
  have HT7 := (show Hid (OnRow w w6 w7 aa L4 (fun _ => False) (.slice p7 [(x1 : Int), (x2 : Int), (x3 : Int)].length c7) [(x1 : Int), (x2 : Int), (x3 : Int)]) from T7)
  clear T7
  go_loopw [9, 11, 12, 13, 14, 17] (fun e f v x y i wq => ∃ (j : Nat) (L : List Tm) (p : Option Addr) (c : Nat) (xs : List Int) (x' y' : Int), e = .int .i64 0 ∧ f = .int .i64 0 ∧ v = .slice p xs.length c ∧ x = .int .i64 x' ∧ y = .int .i64 y' ∧ i = .int .i64 j ∧ j ≤ 8 ∧ xs.length = 3 + 2 * j ∧ OnRow w w6 wq aa L (fun _ => False) (.slice p xs.length c) xs ∧ SInv L h r n b xs ∧ L.length ≤ 17 + 10 * j) (fun _ _ _ _ _ i _ => 8 - (intOf i).toNat)
  case atStart => exact ⟨0, L4, p7, c7, _, (x1 : Int), (x2 : Int), rfl, rfl, rfl, rfl, rfl, rfl, by omega, rfl, HT7.out, HS4.out, q5⟩
  case round =>
    clear HT7 HS4 q5 q6 q7 q8 Q1 Q2 Q3 Q4 HBE HK1 HP0
    obtain ⟨j, L, p, c, xs, x', y', rfl, rfl, rfl, rfl, rfl, rfl, hj, hxl, T, S, hL⟩ := hrel
    have HXL := (show Hid (xs.length = 3 + 2 * j) from hxl)
    have HS := (show Hid (SInv L h r n b xs) from S)
    by_cases hlt : j < 8
    · obtain ⟨y1, M2, y2, M3, e1, e2, e3, e4, S3, hL3, g1, g2, g3⟩ := apart_round S hr0 hlt hxl hL
      have E1 := (show Hid _ from e1)
      have E2 := (show Hid _ from e2)
      have E3 := (show Hid _ from e3)
      have E4 := (show Hid _ from e4)
      have HS3 := (show Hid (SInv M3 h r n b (xs ++ [(y1 : Int), (y2 : Int)])) from S3)
      have hjI : (j : Int) < 8 := by omega
      have hlen : (xs ++ [(y1 : Int), (y2 : Int)]).length = xs.length + 2 := by simp
      have HLEN := (show Hid _ from hlen)
      have hm8 : ((j : Int) + 1) % 8 = (((j + 1) % 8 : Nat) : Int) := by omega
      have HM8 := (show Hid _ from hm8)
      clear hm8
      clear e1 e2 e3 e4 S S3 hlen hxl
      go_wp2_with (first
        | (go_at_call 36; refine (T.calls (fun G' _ O => chain_at O j hlt g1 (by omega) E1.out E2.out)).mono ?_; rintro ev w8 ⟨rfl, T8⟩; clear T)
        | (go_at_call 39; rw [HM8.out]; refine (T8.calls (fun G' _ O => meet_at O 0 j (((j + 1) % 8 : Nat) : Int) r (by omega) (by omega) hr0 (by omega) g2 (by omega) rfl rfl E3.out E4.out)).mono ?_; rintro ev w9 ⟨rfl, T9⟩; clear T8)
        | (at_builtin; have hsz := T9.on.below.size; have hxb := HXL.out; refine wpList_append_own_at _ rfl (.tmp 125) (.tmp 128) 22 rfl w.heap.size 3 i0 (.int .i64 0) 1 8 Try.underlying22 hi' hz0 hz1 hz2 rfl (by decide) (.slice p xs.length c) xs.length _ rfl (T9.row.alloc _) ⟨w9.heap.size, 0, none⟩ 2 2 [.int .i64 (y1 : Int), .int .i64 (y2 : Int)] rfl rfl (World.news_of_block (heap_alloc_new w9 _)) (by simp [Value.oneCell']) (by unfold maxLen; omega) (by omega) (by simp; omega) ?_; clear hxb; intro v7 w7 hown7 hgrow7 _ hat7
           obtain ⟨p10, c10, rfl, T10⟩ := T9.appends (ys := [(y1 : Int), (y2 : Int)]) (m := 2) rfl hown7 hgrow7 hat7
           clear T9 hown7 hgrow7 hat7))
      exact ⟨⟨j + 1, M3, p10, c10, _, (y1 : Int), (y2 : Int), rfl, rfl, by rw [HLEN.out], rfl, rfl, by simp, by omega, by rw [HLEN.out, HXL.out]; omega, T10, HS3.out, hL3⟩, by simp [intOf]; omega⟩
    · have e8 : (j : Int) = 8 := by omega
      rw [e8]
      clear e8
      obtain rfl : j = 8 := by omega
      have hN : xs.length = 19 := hxl
      rw [hN] at T ⊢
      clear HXL hxl S hlt hj
      have hL97 : L.length ≤ 97 := by omega
      clear hL
      have HT0 := (show Hid (Tlk hs xs 0 []) from Tlk.start)
      have hrow := T.row
      rw [hN] at hrow
      obtain ⟨g, rfl, _, _, _, _⟩ := row_open hrow (by omega)
      obtain ⟨wb, hwb⟩ : ∃ wb, wb = wr := ⟨_, rfl⟩
      subst hwb
      have HRW := (show Hid (wb.ownsRow w.heap.size 3 1 (.slice (some ⟨g, 0, none⟩) 19 c) 19 (xs.map (Value.int .i64))) from hrow)
      obtain ⟨HH, O, hv⟩ := T.ex
      have R0 := (O.mono (G' := fun k => (Value.slice (some ⟨g, 0, none⟩) 19 c).ownBlock = some k) (fun k hk => .inr (hv k hk).1)).row0
      have HN := (show Hid (xs.length = 19) from hN)
      have hsz0 := T.on.below.size
      clear T O hv hrow hN
      go_wp2
      go_loopw [18, 19] (fun v i wq => ∃ (j : Nat) (p2 : Option Addr) (c2 : Nat) (zs : List Int), v = .slice p2 zs.length c2 ∧ i = .int .i64 j ∧ j ≤ 19 ∧ OnRow w wb wq aa L (fun k => (Value.slice (some ⟨g, 0, none⟩) 19 c).ownBlock = some k) (.slice p2 zs.length c2) zs ∧ Tlk hs xs j zs) (fun _ i _ => 19 - (intOf i).toNat)
      case atStart => exact ⟨0, none, 0, [], rfl, rfl, by omega, R0, HT0.out⟩
      case round =>
        clear R0 HT0
        obtain ⟨j, p2, c2, zs, rfl, rfl, hj, T, K⟩ := hrel
        have HK := (show Hid (Tlk hs xs j zs) from K)
        clear K
        by_cases hlt : j < 19
        · obtain ⟨x, hx, _⟩ := HS.out.keys j (by rw [HN.out]; exact hlt)
          have HX := (show Hid _ from hx)
          have hjI : (j : Int) < 19 := by omega
          clear hx
          have hTb := T.on.below.size
          go_wp2
          go_loopw [20] (fun k wq => ∃ t : Nat, k = .int .i64 t ∧ t ≤ j ∧ OnRow w wb wq aa L (fun k => (Value.slice (some ⟨g, 0, none⟩) 19 c).ownBlock = some k) (.slice p2 zs.length c2) zs) (fun k _ => j - (intOf k).toNat)
          case atStart => exact ⟨0, rfl, by omega, T⟩
          case round =>
            clear T hTb
            obtain ⟨t, rfl, ht, T⟩ := hrel
            by_cases htl : t < j
            · obtain ⟨y, hy, _⟩ := HS.out.keys t (by rw [HN.out]; omega)
              have hne : ¬ (x : Int) = (y : Int) := fun e => by
                have := HS.out.ne HX.out (by rw [hy, e] : xs[t]? = some (x : Int))
                omega
              obtain ⟨g2, hg2, _, _, _, hc⟩ := row_open (row_keeps HRW.out T.stay (fun k hk hn => hn hk)) (by omega)
              obtain rfl : g = g2 := by simpa using hg2
              have y1 := hc t (by omega)
              have y2 := hc j (by omega)
              rw [List.getElem?_map, hy] at y1
              rw [List.getElem?_map, HX.out] at y2
              simp only [Option.map_some] at y1 y2
              have htI : (t : Int) < j := by omega
              clear hc hy hg2
              go_wp2
              go_quiet (fail)
              go_wp2
              exact ⟨⟨t + 1, by simp, by omega, T.step (below_drewN (Below.refl _ _) _)⟩, by simp [intOf]; omega⟩
            · obtain rfl : j = t := by omega
              have hbt : (bt hs j = true ∧ j < m) ∨ (bt hs j = false ∧ j < m) ∨ (bt hs j = false ∧ ¬ j < m) := by
                rcases Nat.lt_or_ge j m with h | h
                · cases h2 : bt hs j with
                  | true => exact .inl ⟨rfl, h⟩
                  | false => exact .inr (.inl ⟨rfl, h⟩)
                · refine .inr (.inr ⟨?_, by omega⟩)
                  unfold bt
                  rw [List.getD_eq_getElem?_getD, List.getElem?_eq_none (by omega)]
                  rfl
              rcases hbt with ⟨f1, f2⟩ | ⟨f1, f2⟩ | ⟨f1, f2⟩
              · obtain ⟨bh, oh, rfl, hbh, hfl⟩ := rdb_pos H2.out (t := j) (by omega)
                rw [f1] at hfl
                have hfc := (T.on.below.cell (p := ⟨bh, oh + j, none⟩) hbh).trans hfl
                obtain ⟨g2, hg2, _, _, _, hc⟩ := row_open (row_keeps HRW.out T.stay (fun k hk hn => hn hk)) (by omega)
                obtain rfl : g = g2 := by simpa using hg2
                have y2 := hc j (by omega)
                rw [List.getElem?_map, HX.out] at y2
                simp only [Option.map_some] at y2
                have hzl := HK.out.len
                have hfI : (j : Int) < m := by omega
                have hlen : (zs ++ [(x : Int)]).length = zs.length + 1 := by simp
                clear hc hg2
                go_wp2_with (at_builtin; have hsz := T.on.below.size; refine wpList_append_own_at _ rfl (.tmp 160) (.tmp 165) 22 rfl w.heap.size 3 i0 (.int .i64 0) 1 8 Try.underlying22 hi' hz0 hz1 hz2 rfl (by decide) (.slice p2 zs.length c2) zs.length _ rfl (T.row.alloc _) ⟨wr.heap.size, 0, none⟩ 1 1 [.int .i64 (x : Int)] rfl rfl (World.news_of_block (heap_alloc_new wr _)) (by simp [Value.oneCell']) (by unfold maxLen; omega) (by omega) (by simp; omega) ?_; intro v7 w7 hown7 hgrow7 _ hat7; obtain ⟨p7, c7, rfl, T7⟩ := T.append hown7 hgrow7 hat7; clear T hown7 hgrow7 hat7)
                exact ⟨⟨j + 1, p7, c7, zs ++ [(x : Int)], by rw [hlen], by simp, by omega, T7, HK.out.yes HX.out f1⟩, by simp [intOf]; omega⟩
              · obtain ⟨bh, oh, rfl, hbh, hfl⟩ := rdb_pos H2.out (t := j) (by omega)
                rw [f1] at hfl
                have hfc := (T.on.below.cell (p := ⟨bh, oh + j, none⟩) hbh).trans hfl
                have hfI : (j : Int) < m := by omega
                go_wp2
                exact ⟨⟨j + 1, p2, c2, zs, rfl, by simp, by omega, T, HK.out.no f1⟩, by simp [intOf]; omega⟩
              · have hfI : ¬ (j : Int) < m := by omega
                go_wp2
                exact ⟨⟨j + 1, p2, c2, zs, rfl, by simp, by omega, T, HK.out.no f1⟩, by simp [intOf]; omega⟩
        · have e19 : (j : Int) = 19 := by omega
          rw [e19]
          clear e19
          obtain rfl : j = 19 := by omega
          have HIN := (show Hid (allIn L zs) from HS.out.told_in HK.out)
          have hTl := (show Tlk hs xs xs.length zs from by rw [HN.out]; exact HK.out)
          have HTL := (show Hid (Tlk hs xs xs.length zs) from hTl)
          have hL0 : 0 < L.length := (List.getElem?_eq_some_iff.1 HS.out.s).1
          have hzl := HK.out.len
          clear hTl HK hlt hj
          go_wp2_with (first
           | (go_at_call 19; refine (know_all (show Hid _ from T.on) (show Hid _ from T.reads.rdw) (by omega) (by omega) HIN).mono ?_; rintro ev w10 ⟨kb, ck, kn, rfl, hown, B10, hkn⟩
              have T10 := T.step B10
              clear T
              have k0 := flag_cell hown hL0
              have hb0 : bt kn 0 = false := Bool.eq_false_iff.2 (fun e => HS.out.not0 HTL.out ((hkn 0).1 e))
              rw [hb0] at k0
              clear hb0)
           | (go_at_call 41; refine (len_on T10.on).mono ?_; rintro ev w10 ⟨rfl, rfl⟩))
          have h10 := T10.on.below.size
          have HKB := (show Hid (w10.ownsRow wr.heap.size 4 1 (.slice (some ⟨kb, 0, none⟩) L.length ck) L.length (kn.map Value.bool)) from hown)
          have HKN := (show Hid (∀ i, bt kn i = true ↔ Kn L (· ∈ zs.map Int.toNat) i) from hkn)
          have HR10 := (show Hid (w10.ownsRow w.heap.size 3 1 (.slice (some ⟨g, 0, none⟩) 19 c) 19 (xs.map (Value.int .i64))) from row_keeps HRW.out T10.stay (fun k hk hn => hn hk))
          have HO10 := (show Hid (On w w10 aa L (fun k => (Value.slice (some ⟨g, 0, none⟩) 19 c).ownBlock = some k)) from T10.on)
          clear hown hkn T10 k0 B10
          go_loopw [22] (fun i wq => ∃ j : Nat, i = .int .i64 j ∧ j ≤ 19 ∧ Below w10.heap.size w10 wq) (fun i _ => 19 - (intOf i).toNat)
          case atStart => exact ⟨0, rfl, by omega, Below.refl _ _⟩
          case round =>
            obtain ⟨j, rfl, hj, B⟩ := hrel
            by_cases hlt : j < 19
            · obtain ⟨x, hx, kx⟩ := HS.out.keys j (by rw [HN.out]; exact hlt)
              have hxL := kx.lt
              have hxI : (x : Int) < L.length := by omega
              have hjI : (j : Int) < 19 := by omega
              have hval : bt kn x = bt hs j := Bool.eq_iff_iff.2 ((HKN.out x).trans (HS.out.iff HTL.out hx))
              obtain ⟨g2, hg2, _, _, _, hc⟩ := row_open (row_keeps (F := fun _ => False) HR10.out (Keeps.of_below B) (fun _ _ h => h)) (by omega)
              obtain rfl : g = g2 := by simpa using hg2
              have y2 := hc j (by omega)
              rw [List.getElem?_map, hx] at y2
              simp only [Option.map_some] at y2
              have y3 := flag_cell (row_keeps (F := fun _ => False) HKB.out (Keeps.of_below B) (fun _ _ h => h)) hxL
              rw [hval] at y3
              have hbt : (bt hs j = true ∧ j < m) ∨ (bt hs j = false ∧ j < m) ∨ (bt hs j = false ∧ ¬ j < m) := by
                rcases Nat.lt_or_ge j m with h | h
                · cases h2 : bt hs j with
                  | true => exact .inl ⟨rfl, h⟩
                  | false => exact .inr (.inl ⟨rfl, h⟩)
                · refine .inr (.inr ⟨?_, by omega⟩)
                  unfold bt
                  rw [List.getD_eq_getElem?_getD, List.getElem?_eq_none (by omega)]
                  rfl
              have hBw := HO10.out.below.trans (B.mono HO10.out.below.size)
              clear hc hg2 hval hx kx
              rcases hbt with ⟨f1, f2⟩ | ⟨f1, f2⟩ | ⟨f1, f2⟩
              · obtain ⟨bh, oh, rfl, hbh, hfl⟩ := rdb_pos H2.out (t := j) (by omega)
                rw [f1] at hfl y3
                have hfc := (hBw.cell (p := ⟨bh, oh + j, none⟩) hbh).trans hfl
                have hfI : (j : Int) < m := by omega
                go_wp2
                go_quiet (fail)
                go_wp2
                exact ⟨⟨j + 1, by simp, by omega, below_drewN B _⟩, by simp [intOf]; omega⟩
              · obtain ⟨bh, oh, rfl, hbh, hfl⟩ := rdb_pos H2.out (t := j) (by omega)
                rw [f1] at hfl y3
                have hfc := (hBw.cell (p := ⟨bh, oh + j, none⟩) hbh).trans hfl
                have hfI : (j : Int) < m := by omega
                go_wp2
                go_quiet (fail)
                go_wp2
                exact ⟨⟨j + 1, by simp, by omega, below_drewN B _⟩, by simp [intOf]; omega⟩
              · rw [f1] at y3
                have hfI : ¬ (j : Int) < m := by omega
                go_wp2
                go_quiet (fail)
                go_wp2
                exact ⟨⟨j + 1, by simp, by omega, below_drewN B _⟩, by simp [intOf]; omega⟩
            · have e19 : (j : Int) = 19 := by omega
              rw [e19]
              clear e19
              obtain rfl : j = 19 := by omega
              have T11 := HO10.out.step B
              have HIN2 := (show Hid (allIn L [(0 : Int), (h : Int)]) from fun z hz => by
                have := (List.getElem?_eq_some_iff.1 HS.out.hh).1
                simp at hz
                omega)
              have HR11 := (show Hid _ from row_keeps (F := fun _ => False) HR10.out (Keeps.of_below B) (fun _ _ h => h))
              clear HKB HKN HTL HIN HR10 HO10
              go_wp2_with (go_at_call 19; refine (know_all (show Hid _ from T11.alloc _) (xs := [(0 : Int), (h : Int)]) (show Hid _ from (reads_lit [(0 : Int), (h : Int)] rfl rfl _).rdw) (by simp) (by omega) HIN2).mono ?_; rintro ev w12 ⟨kb2, ck2, kn2, rfl, hown2, B12, hkn2⟩)
              have HBW := (show Hid (Below w.heap.size w w12) from (T11.alloc _).below.trans (B12.mono (T11.alloc _).below.size))
              have HKB2 := (show Hid _ from hown2)
              have HKN2 := (show Hid (∀ i, bt kn2 i = true ↔ Kn L (· ∈ [(0 : Int), (h : Int)].map Int.toNat) i) from hkn2)
              have HR12 := (show Hid _ from row_keeps (F := fun _ => False) HR11.out (Keeps.of_below (((Below.refl _ wr).alloc (Nat.le_refl _) _).trans (B12.mono (by simp)))) (fun _ _ h => h))
              clear hown2 hkn2 B12 T11 HR11 HIN2 B
              go_loopw [23] (fun i wq => ∃ j : Nat, i = .int .i64 j ∧ j ≤ 19 ∧ Below w12.heap.size w12 wq) (fun i _ => 19 - (intOf i).toNat)
              case atStart => exact ⟨0, rfl, by omega, Below.refl _ _⟩
              case round =>
                obtain ⟨j, rfl, hj, B⟩ := hrel
                by_cases hlt : j < 19
                · obtain ⟨x, hx, kx⟩ := HS.out.keys j (by rw [HN.out]; exact hlt)
                  have hxL := kx.lt
                  have hxI : (x : Int) < L.length := by omega
                  have hjI : (j : Int) < 19 := by omega
                  have hval : bt kn2 x = true := (HKN2.out x).2 (HS.out.all hx)
                  obtain ⟨g2, hg2, _, _, _, hc⟩ := row_open (row_keeps (F := fun _ => False) HR12.out (Keeps.of_below B) (fun _ _ h => h)) (by omega)
                  obtain rfl : g = g2 := by simpa using hg2
                  have y2 := hc j (by omega)
                  rw [List.getElem?_map, hx] at y2
                  simp only [Option.map_some] at y2
                  have y3 := flag_cell (row_keeps (F := fun _ => False) HKB2.out (Keeps.of_below B) (fun _ _ h => h)) hxL
                  rw [hval] at y3
                  clear hc hg2 hval hx kx
                  go_wp2
                  exact ⟨⟨j + 1, by simp, by omega, B⟩, by simp [intOf]; omega⟩
                · have e19 : (j : Int) = 19 := by omega
                  rw [e19]
                  clear e19
                  obtain rfl : j = 19 := by omega
                  have hB2 := HBW.out.trans (B.mono HBW.out.size)
                  go_wp2_with (go_at_call 35; refine (wakes18_ok _).mono ?_; rintro ev w13 ⟨rfl, B13⟩)
                  go_ret
                  exact ⟨rfl, hB2.trans (B13.mono hB2.size)⟩
end Go.Proofs.Ytikbeagcflofhaa
