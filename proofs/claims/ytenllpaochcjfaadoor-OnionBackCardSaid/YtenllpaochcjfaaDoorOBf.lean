/-
  ONIONBACK: the walk. Own work.
-/
import Derived.Test.YtenllpaochcjfaaDoorOBe
namespace Go.Proofs.YtenllpaochcjfaaDoor
open Go.ChangeShapes Go.WideShapes Go.ChangeAt Go.RowKit Go.Maps Go.Deep
set_option maxRecDepth 100000
attribute [local go_sem ↓] Go.wp_at_zero Go.wp_at_succ
theorem mod_in (x : Int) {n : Nat} (hn : 0 < n) : ∃ k : Nat, x % (n : Int) = k ∧ k < n := by
  have h0 := Int.emod_nonneg x (b := (n : Int)) (by omega)
  have h1 := Int.emod_lt_of_pos x (b := (n : Int)) (by omega)
  exact ⟨(x % (n : Int)).toNat, by omega, by omega⟩
/-- The servers' secrets and their Pubs. -/
structure Prs (L : List Tm) (ss ps : List Int) (t : Nat) : Prop where
  ls : ss.length = t
  lp : ps.length = t
  all : ∀ q, q < t → ∃ a b : Nat, ss[q]? = some (a : Int) ∧ ps[q]? = some (b : Int) ∧ L[b]? = some (5, 0, [(a : Int)]) ∧ a < L.length
theorem Prs.more {x0 : Int} {L L2 L3 : List Tm} {ss ps : List Int} {t a b : Nat} (h : Prs L ss ps t) (K1 : MkT L (1, x0, []) a L2) (K2 : MkT L2 (5, 0, [(a : Int)]) b L3) : Prs L3 (ss ++ [(a : Int)]) (ps ++ [(b : Int)]) (t + 1) := by
  refine ⟨by simp [h.ls], by simp [h.lp], fun q hq => ?_⟩
  by_cases hqt : q < t
  · obtain ⟨a', b', h1, h2, h3, h4⟩ := h.all q hqt
    have l1 := K1.le
    have l2 := K2.le
    exact ⟨a', b', by rw [List.getElem?_append_left (by have := h.ls; omega)]; exact h1, by rw [List.getElem?_append_left (by have := h.lp; omega)]; exact h2, K2.keep _ _ (K1.keep _ _ h3), by omega⟩
  · obtain rfl : q = t := by omega
    have l1 := K1.lt
    have l2 := K2.le
    refine ⟨a, b, ?_, ?_, K2.at', by omega⟩
    · rw [List.getElem?_append_right (by have := h.ls; omega)]; simp [h.ls]
    · rw [List.getElem?_append_right (by have := h.lp; omega)]; simp [h.lp]
theorem lay_next {L : List Tm} {ps : List Int} {sec pay r x : Nat} {ks : List Int} (h : Lay L ps sec pay r x ks) (hr : r < 3) : ∃ (i k e : Nat) (ks' : List Int), ks = (k : Int) :: ks' ∧ Lay L ps sec pay (r + 1) i ks' ∧ ∃ p : Nat, ps[r]? = some (p : Int) ∧ L[x]? = some (7, 0, [(p : Int), (e : Int), (i : Int), (k : Int)]) := by
  cases h with
  | base => omega
  | step _ i ks k e b p h0 h1 h2 h3 h4 => exact ⟨i, k, e, ks, rfl, h0, p, h3, h4⟩
theorem lay_end {L : List Tm} {ps : List Int} {sec pay x : Nat} {ks : List Int} (h : Lay L ps sec pay 3 x ks) : x = pay := by
  cases h with
  | base => rfl
  | step _ i ks k e b p h0 h1 h2 h3 h4 =>
    have := h0.le.1
    omega
theorem lay_keys {L : List Tm} {ps : List Int} {sec pay x : Nat} {ks : List Int} (h : Lay L ps sec pay 0 x ks) : ks.length = 3 ∧ ∀ t, t < 3 → ∃ q : Nat, ks[t]? = some (q : Int) ∧ q < L.length := by
  obtain ⟨k0, e0, p0, b1, k1, e1, p1, b2, k2, e2, p2, rfl, _, _, _, _, _, _, h0, h1, h2⟩ := h.three
  refine ⟨rfl, fun t ht => ?_⟩
  have : t = 0 ∨ t = 1 ∨ t = 2 := by omega
  rcases this with rfl | rfl | rfl
  · exact ⟨k0, rfl, at_lt h0⟩
  · exact ⟨k1, rfl, at_lt h1⟩
  · exact ⟨k2, rfl, at_lt h2⟩
theorem Two.head2 {w wr : World} {aa bb : Nat} {L L' : List Tm} (T : Two w wr aa bb L L') : ∃ np cp, wr.cell? ⟨bb, 0, none⟩ = some (.slice np L'.length cp) ∧ bb < wr.heap.size := by
  obtain ⟨_, _, _, B, _⟩ := T.ex
  exact B.head
set_option maxHeartbeats 16000000 in
theorem back_low (v : Value) (sec pay ans oth : Int) (S : List St) (w : World) (H1 : Hid (Steps w v S)) : Calls Tryd.prog 4 #[v, .int .i64 sec, .int .i64 pay, .int .i64 ans, .int .i64 oth] w fun e w' => e = .returned (.bool true) ∧ Below w.heap.size w w' := by
  go_enter Tryd.func4, Tryd.ntmps4
  go_wp2_with (first
    | (go_at_call 6; refine (heavy_ok H1.out).mono ?_; rintro ev w ⟨rfl, r1, rfl, hr⟩; have R1 := (show Hid _ from hr); clear hr)
    | (go_at_call 25; refine (build_ok H1.out (R1.out (by first | assumption | simpa using ‹¬ r1 = true›)).2).mono ?_; rintro ev w1 ⟨aa, bb, L, rfl, T, hL⟩; obtain ⟨np, cp, x0, hbl⟩ := T.head2; have O := T.tw.on; have hbb := O.below; clear R1 T)
    | (go_at_call 23; refine (wakes23_ok _).mono ?_; rintro ev w6 ⟨rfl, B6⟩))
  all_goals first
    | (go_ret; exact ⟨rfl, Below.refl _ _⟩)
    | (go_ret; exact ⟨rfl, hbb.trans (B6.mono hbb.size)⟩)
    | skip
  have hne : L ≠ [] := by first | assumption | (intro h; simp_all)
  have hpos : 0 < L.length := List.length_pos_iff.2 hne
  obtain ⟨k1, hk1, hk2⟩ := mod_in sec hpos
  obtain ⟨y1, hy1, hy2⟩ := mod_in pay hpos
  obtain ⟨n1, hn1, hn2⟩ := mod_in ans hpos
  obtain ⟨o1, ho1, ho2⟩ := mod_in oth hpos
  have hsec : 0 ≤ sec := by first | assumption | (simp_all; omega)
  have hpay : 0 ≤ pay := by first | assumption | (simp_all; omega)
  have hans : 0 ≤ ans := by first | assumption | (simp_all; omega)
  have hoth : 0 ≤ oth := by first | assumption | (simp_all; done) | (simp_all; omega)
  have hpi : (0 : Int) < (L.length : Int) := by omega
  go_quiet (fail)
  try simp only [Exit.then]
  simp only [hk1, hy1, hn1, ho1]
  have O1 := O.step (below_drewN (Below.refl _ _) nq)
  clear O x0 hbl hsec hpay hans hoth hk1 hy1 hn1 ho1 hpi
  generalize w1.drewN nq = w2 at *
  have HL := (show Hid (L.length ≤ 150) from hL)
  have R2 := Rw2.start O1
  have P0 : Prs L [] [] 0 := ⟨rfl, rfl, fun q h => by omega⟩
  clear O1
  obtain ⟨i0, hi, hz0, hz1, hz2⟩ := info_parts (P := Tryd.prog) (e := 3) (z := .int .i64 0) (size := 1) (bytes := 8) (by kernel_rfl)
  have hz : ((L.length : Int) == 0) = false := beq_eq_false_iff_ne.2 (by omega)
  simp only [hz]
  clear hz
  go_wp2
  go_loopw [15, 16, 17] (fun v u i wq => ∃ (j : Nat) (L1 : List Tm) (ss ps : List Int) (p1 : Option Addr) (c1 : Nat) (p2 : Option Addr) (c2 : Nat), v = .slice p1 ss.length c1 ∧ u = .slice p2 ps.length c2 ∧ i = .int .i64 j ∧ j ≤ 3 ∧ Rw2 w wq aa L1 (.slice p1 ss.length c1) ss (.slice p2 ps.length c2) ps ∧ Prs L1 ss ps j ∧ L.length ≤ L1.length ∧ L1.length ≤ L.length + 2 * j) (fun _ _ i _ => 3 - (intOf i).toNat)
  case atStart => exact ⟨0, L, [], [], none, 0, none, 0, rfl, rfl, rfl, by omega, R2, P0, Nat.le_refl _, by omega⟩
  case round =>
    clear R2 P0
    obtain ⟨j, L1, ss, ps, p1, c1, p2, c2, rfl, rfl, rfl, hj, T, D, hL1, hL2⟩ := hrel
    by_cases hlt : j < 3
    · have hjI : (j : Int) < 3 := by omega
      obtain ⟨a, L2, K1⟩ := mk_ex (L := L1) (sh_atom (7000 + (j : Int)) (by omega)) (fun z hz => by cases hz) (by omega)
      have b1 := K1.le1
      have b1' := K1.le
      have ha2 := K1.lt
      obtain ⟨b, L3, K2⟩ := mk_ex (L := L2) (sh_pub (a : Int)) (fun z hz => by simp at hz; omega) (by omega)
      have b2 := K2.le1
      have b2' := K2.le
      have P1 := (show Hid _ from K1.put)
      have P2 := (show Hid _ from K2.put)
      have HD := (show Hid (Prs L3 (ss ++ [(a : Int)]) (ps ++ [(b : Int)]) (j + 1)) from D.more K1 K2)
      have hls : ss.length ≤ 60 := by have := D.ls; omega
      have hlp : ps.length ≤ 60 := by have := D.lp; omega
      have HLS := (show Hid (ss.length ≤ 60) from hls)
      have HLP := (show Hid (ps.length ≤ 60) from hlp)
      clear hls hlp
      have hl1 : (ss ++ [(a : Int)]).length = ss.length + 1 := by simp
      have hl2 : (ps ++ [(b : Int)]).length = ps.length + 1 := by simp
      have HL1 := (show Hid _ from hl1)
      have HL2 := (show Hid _ from hl2)
      have hLL : L.length ≤ L3.length := by omega
      have hLU : L3.length ≤ L.length + 2 * (j + 1) := by omega
      clear K1 K2 D hl1 hl2
      go_wp2_with (first
        | (go_at_call 26; refine (T.calls (fun G' O => make_on O 1 (7000 + (j : Int)) (v := .slice none 0 0) (xs := []) (.inl ⟨rfl, rfl⟩) (by omega) P1.out)).mono ?_; rintro ev w4 ⟨rfl, T4⟩; clear T)
        | (go_at_call 26; refine ((T4.step ((Below.refl _ w4).alloc (Nat.le_refl _) _)).calls (fun G' O => make_on O 5 0 (xs := [(a : Int)]) (reads_lit [(a : Int)] rfl rfl _) (by omega) P2.out)).mono ?_; rintro ev w6 ⟨rfl, T6⟩; clear T4)
        | (at_builtin; have hsz := T6.on.below.size; have hlen := HLS.out; refine wpList_append_own_at _ rfl (.tmp 102) (.tmp 104) 23 rfl w.heap.size 3 i0 (.int .i64 0) 1 8 Tryd.underlying23 hi hz0 hz1 hz2 rfl (by decide) (.slice p1 ss.length c1) ss.length _ rfl (World.ownsRow.alloc T6.r1 _) ⟨w6.heap.size, 0, none⟩ 1 1 [.int .i64 (a : Int)] rfl rfl (World.news_of_block (heap_alloc_new w6 _)) (by simp [Value.oneCell']) (by unfold maxLen; omega) (by omega) (by simp; omega) ?_; clear hlen; intro v7 w7 hown7 hgrow7 _ hat7; obtain ⟨p7, c7, rfl, T7⟩ := T6.app hown7 hgrow7 hat7; clear T6 hown7 hgrow7 hat7)
        | (at_builtin; have hsz := T7.on.below.size; have hlen := HLP.out; refine wpList_append_own_at _ rfl (.tmp 106) (.tmp 108) 23 rfl w.heap.size 3 i0 (.int .i64 0) 1 8 Tryd.underlying23 hi hz0 hz1 hz2 rfl (by decide) (.slice p2 ps.length c2) ps.length _ rfl (World.ownsRow.alloc T7.r2 _) ⟨w7.heap.size, 0, none⟩ 1 1 [.int .i64 (b : Int)] rfl rfl (World.news_of_block (heap_alloc_new w7 _)) (by simp [Value.oneCell']) (by unfold maxLen; omega) (by omega) (by simp; omega) ?_; clear hlen; intro v8 w8 hown8 hgrow8 _ hat8; obtain ⟨p8, c8, rfl, T8⟩ := T7.swap.app hown8 hgrow8 hat8; have T9 := T8.swap; clear T7 T8 hown8 hgrow8 hat8))
      refine ⟨?_, by simp [intOf]; omega⟩
      exact ⟨j + 1, L3, _, _, p7, c7, p8, c8, by rw [HL1.out], by rw [HL2.out], by simp, by omega, T9, HD.out, hLL, hLU⟩
    · obtain rfl : j = 3 := by omega
      rw [D.ls, D.lp] at T
      rw [D.ls, D.lp]
      have HT := (show Hid (Rw2 w wr aa L1 (.slice p1 3 c1) ss (.slice p2 3 c2) ps) from T)
      have HRW := (show Hid (RdW wr (.slice p2 3 c2) ps) from (irow_of T.r2).reads.rdw)
      have HO := (show Hid (On w wr aa L1 (fun k => (Value.slice p1 3 c1).ownBlock = some k ∨ (Value.slice p2 3 c2).ownBlock = some k)) from T.on)
      have HG1 := (show Hid (∀ k, (Value.slice p2 3 c2).ownBlock = some k → ((Value.slice p1 3 c1).ownBlock = some k ∨ (Value.slice p2 3 c2).ownBlock = some k)) from fun k hk => .inr hk)
      have HIN := (show Hid (∀ t, t < 3 → ∃ (q : Nat) (xs : List Int), ps[t]? = some (q : Int) ∧ L1[q]? = some (5, 0, xs)) from fun t ht => by
        obtain ⟨a, b, h1, h2, h3, _⟩ := D.all t ht
        exact ⟨b, _, h2, h3⟩)
      have HD := (show Hid (Prs L1 ss ps 3) from D)
      clear T D
      go_wp2_with (go_at_call 12; refine (wrapW_ok (sec := k1) (pay := y1) HO p2 c2 HD.out.lp HRW HG1 HIN (by omega) (by omega) (by omega)).mono ?_
                   rintro ev w5 ⟨o, kb, ks, L2, rfl, q1, q2, q3, q4, q5, q6, q7⟩
                   have HLay := (show Hid _ from q1)
                   have HKP := (show Hid _ from q2)
                   have HKS := (show Hid _ from q5)
                   have HO5 := (show Hid _ from q6)
                   have HS1 := (show Hid (w5.ownsRow w.heap.size 3 1 (.slice p1 3 c1) 3 (ss.map (Value.int .i64))) from by have h := row_keeps HT.out.r1 q7 (fun k hk hn => hn (.inl hk)); rwa [HD.out.ls] at h)
                   clear q1 q2 q5 q6 q7)
      have hkl : kb < w5.heap.size := (row_base HKS.out rfl).2
      go_loopw [24, 25, 26] (fun e x i wq => ∃ (z : Int) (q j : Nat), e = .int .i64 z ∧ x = .int .i64 q ∧ i = .int .i64 j ∧ j ≤ 3 ∧ Lay L2 ps k1 y1 j q (ks.drop j) ∧ Below w5.heap.size w5 wq) (fun _ _ i _ => 3 - (intOf i).toNat)
      case atStart => exact ⟨0, o, 0, rfl, rfl, rfl, by omega, HLay.out, Below.refl _ _⟩
      case round =>
        obtain ⟨z, q, j, rfl, rfl, rfl, hj, HQ, hB⟩ := hrel
        by_cases hlt : j < 3
        · have hjI : (j : Int) < 3 := by omega
          obtain ⟨a, b, hsa, hpb, hL5, haL⟩ := HD.out.all j hlt
          obtain ⟨i1, k, e1, ks', hks, hnx, hx⟩ := lay_next HQ hlt
          obtain ⟨p', hp', hx⟩ := hx
          obtain rfl : p' = b := by rw [hpb] at hp'; simp at hp'; omega
          have hks1 : ks[j]? = some (k : Int) := by
            have h : (ks.drop j)[0]? = some (k : Int) := by rw [hks]; rfl
            simpa using h
          have hdr : ks.drop (j + 1) = ks' := by rw [← List.tail_drop, hks]; rfl
          have hOB := HO5.out.step hB
          have HOB := (show Hid _ from hOB)
          have HX := (show Hid _ from hx)
          have HP := (show Hid (L2[p']? = some (5, 0, [(a : Int)])) from HKP.out _ _ hL5)
          have HN := (show Hid (Lay L2 ps k1 y1 (j + 1) i1 (ks.drop (j + 1))) from by rw [hdr]; exact hnx)
          have ha2 : a < L2.length := by omega
          obtain ⟨g, rfl, _, _, _, hc⟩ := row_open HS1.out (by omega)
          have hs0 : w5.cell? ⟨g, j, none⟩ = some (.int .i64 (a : Int)) := by rw [hc j (by omega), List.getElem?_map, hsa]; rfl
          have hgl := World.block_lt_of_cell? w5 _ hs0
          have x1 := (hB.cell (p := ⟨g, j, none⟩) hgl).trans hs0
          obtain ⟨g', hg', _, _, _, hc'⟩ := row_open HKS.out (by omega)
          obtain rfl : kb = g' := by simpa using hg'
          have hk0 : w5.cell? ⟨kb, j, none⟩ = some (.int .i64 (k : Int)) := by rw [hc' j (by omega), List.getElem?_map, hks1]; rfl
          have x2 := (hB.cell (p := ⟨kb, j, none⟩) hkl).trans hk0
          have hwl := hB.size
          clear hc hc' HQ hks hnx hx hOB hL5 hsa hpb hp' hks1 hdr hg'
          have hgw : g < wr.heap.size := Nat.lt_of_lt_of_le hgl hwl
          have hkw : kb < wr.heap.size := Nat.lt_of_lt_of_le hkl hwl
          have ho3 : o1 < L2.length := by omega
          by_cases hoa : o1 = a
          · subst hoa
            go_wp2_with (go_at_call 18; refine (peel_ok HOB HX HP ha2).mono ?_; rintro ev w6 ⟨rfl, B6⟩; have x3 := (B6.cell (p := ⟨kb, j, none⟩) hkw).trans x2; have hB6 := hB.trans (B6.mono hwl))
            exact ⟨⟨z, i1, j + 1, rfl, rfl, by simp, by omega, HN.out, hB6⟩, by simp [intOf]; omega⟩
          · have hoI : ¬ (o1 : Int) = a := by omega
            go_wp2_with (first
              | (go_at_call 18; refine (peel_no HOB HX HP ho3 hoa).mono ?_; rintro ev w6 ⟨rfl, B6⟩; have x3 := (B6.cell (p := ⟨kb, j, none⟩) hkw).trans x2; have x4 := (B6.cell (p := ⟨g, j, none⟩) hgw).trans x1; have HOC := (show Hid _ from HOB.out.step B6); have hB6 := hB.trans (B6.mono hwl); have hk6 := Nat.lt_of_lt_of_le hkw B6.size; have hw6 := Nat.le_trans hwl B6.size; clear HOB)
              | (go_at_call 18; refine (peel_ok HOC HX HP ha2).mono ?_; rintro ev w7 ⟨rfl, B7⟩; have x5 := (B7.cell (p := ⟨kb, j, none⟩) hk6).trans x3; have hB7 := hB6.trans (B7.mono hw6)))
            exact ⟨⟨3, i1, j + 1, rfl, rfl, by simp, by omega, HN.out, hB7⟩, by simp [intOf]; omega⟩
        · have e3 : (j : Int) = 3 := by omega
          rw [e3]
          clear e3
          obtain rfl : j = 3 := by omega
          obtain rfl := lay_end HQ
          have HKI := (show Hid _ from lay_keys HLay.out)
          have HO6 := HO5.out.step hB
          have HK6 : wr.ownsRow 0 3 1 (.slice (some ⟨kb, 0, none⟩) 3 3) 3 (ks.map (Value.int .i64)) := row_keeps (F := fun _ => False) ⟨HKS.out.1, HKS.out.2.elim .inl (fun ⟨g, cap, cur, h1, _, h3⟩ => .inr ⟨g, cap, cur, h1, Nat.zero_le _, h3⟩)⟩ (Keeps.of_below hB) (fun _ _ h => h)
          have hnL : n1 < L2.length := by omega
          go_wp2
          go_loopw [24, 25, 30] (fun e x i wq => ∃ (z : Int) (q r : Nat) (L3 : List Tm), e = .int .i64 z ∧ x = .int .i64 q ∧ i = .int .i64 ((r : Int) - 1) ∧ r ≤ 3 ∧ Slz L3 ks n1 r q ∧ On w wq aa L3 (fun k => ((Value.slice p1 3 c1).ownBlock = some k ∨ (Value.slice p2 3 c2).ownBlock = some k) ∨ k = kb) ∧ wq.ownsRow 0 3 1 (.slice (some ⟨kb, 0, none⟩) 3 3) 3 (ks.map (Value.int .i64)) ∧ L2.length ≤ L3.length ∧ L3.length ≤ L2.length + (3 - r)) (fun _ _ i _ => (intOf i + 1).toNat)
          case atStart => exact ⟨z, n1, 3, L2, rfl, rfl, rfl, by omega, .base, HO6, HK6, Nat.le_refl _, by omega⟩
          case round =>
            clear HO6 HK6
            obtain ⟨z', q', r, L3, rfl, rfl, rfl, hr, HZ, HO7, HK7, hl1, hl2⟩ := hrel
            by_cases hrl : 0 < r
            · obtain ⟨r', rfl⟩ : ∃ r', r = r' + 1 := ⟨r - 1, by omega⟩
              have hri : ((r' + 1 : Nat) : Int) - 1 = (r' : Int) := by omega
              rw [hri]
              clear hri
              obtain ⟨k, hk1, hkL⟩ := HKI.out.2 r' (by omega)
              obtain ⟨g', hg', _, _, _, hc'⟩ := row_open HK7 (by omega)
              obtain rfl : kb = g' := by simpa using hg'
              have hk0 : wr.cell? ⟨kb, r', none⟩ = some (.int .i64 (k : Int)) := by rw [hc' r' (by omega), List.getElem?_map, hk1]; rfl
              have hLL := HL.out
              obtain ⟨t, L4, M⟩ := mk_ex (L := L3) (sh_seal (k : Int) [(q' : Int)] (by simp)) (fun z hz => by simp at hz; have := HZ.lt (by omega); omega) (by omega)
              have m1 := M.le1
              have m2 := M.le
              have MH := (show Hid _ from M)
              have HOR := (show Hid _ from HO7)
              have HKR := (show Hid _ from HK7)
              have HZ2 := (show Hid (Slz L4 ks n1 r' t) from .step r' q' t k (HZ.keep M.keep) hk1 M.at')
              clear M HO7 HK7 HZ hc' hg' hk1
              have hrI : (0 : Int) ≤ r' := by omega
              go_wp2_with (go_at_call 20; refine (back_ok HOR MH).mono ?_; rintro ev w8 ⟨rfl, O8, S8⟩)
              exact ⟨⟨0, t, r', L4, rfl, rfl, by simp, by omega, HZ2.out, O8, row_keeps HKR.out S8 (fun k hk hn => hn (.inr (by simp [Value.ownBlock] at hk; exact hk.symm))), by omega, by omega⟩, by simp [intOf]⟩
            · obtain rfl : r = 0 := by omega
              have hri : ((0 : Nat) : Int) - 1 = -1 := rfl
              rw [hri]
              clear hri
              have HRD := (show Hid (RdW wr (.slice (some ⟨kb, 0, none⟩) 3 3) ks) from (irow_of HK7).reads.rdw)
              have HIN2 := (show Hid (∀ t, t < 3 → ∃ q : Nat, ks[t]? = some (q : Int) ∧ q < L3.length) from fun t ht => by
                obtain ⟨q, h1, h2⟩ := HKI.out.2 t ht
                exact ⟨q, h1, by omega⟩)
              have HZ3 := (show Hid _ from HZ)
              have HOR := (show Hid _ from HO7)
              have hB0 := HO7.below
              have hn3 : n1 < L3.length := by omega
              clear HZ HO7 HK7
              go_wp2_with (first
                | (go_at_call 22; refine (read_ok HOR (some ⟨kb, 0, none⟩) 3 HKI.out.1 HRD HIN2 hn3 HZ3).mono ?_; rintro ev w9 ⟨rfl, B9⟩; have hB9 := hB0.trans (B9.mono hB0.size))
                | (go_at_call 23; refine (wakes23_ok _).mono ?_; rintro ev w10 ⟨rfl, B10⟩; have hB10 := hB9.trans (B10.mono hB9.size)))
              go_ret
              exact ⟨by simp, hB10⟩
end Go.Proofs.YtenllpaochcjfaaDoor
