/-
  LAYER 25: LogsMeet, its walk. Own work.
-/
import Derived.Test.YtcpcnjblojoppaaLMb
namespace Go.Proofs.Ytcpcnjblojoppaa
open Go.ChangeShapes Go.WideShapes Go.ChangeAt Go.RowKit Go.Maps
set_option maxRecDepth 100000
attribute [local go_sem ↓] Go.wp_at_zero Go.wp_at_succ
set_option maxHeartbeats 16000000 in
theorem lmeet_low (pv : Option Addr) (n cv : Nat) (ph : Option Addr) (nh ch : Nat) (hs : List Int) (hhs : hs.length = nh) (po : Option Addr) (no co : Nat) (ws : World) (HV : Hid (Says ws (.slice pv n cv) n)) (HH : Hid (RdW ws (.slice ph nh ch) hs)) : Calls Try.prog 4 #[.slice pv n cv, .slice ph nh ch, .slice po no co] ws fun e w' => e = .returned (.bool true) ∧ Below ws.heap.size ws w' := by
  obtain ⟨i0, hi, hz0, hz1, hz2⟩ := info_parts (P := Try.prog) (e := 24) (z := .agg #[.int .i64 0, .int .i64 0, .int .i64 0]) (size := 3) (bytes := 24) (by kernel_rfl)
  by_cases h1 : 60 < n
  · go_enter Try.func4, Try.ntmps4
    go_wp2
    go_ret
    exact ⟨rfl, Below.refl _ _⟩
  by_cases h2 : 60 < nh
  · go_enter Try.func4, Try.ntmps4
    go_wp2
    go_ret
    exact ⟨rfl, Below.refl _ _⟩
  by_cases h3 : 200 < no
  · go_enter Try.func4, Try.ntmps4
    go_wp2
    go_ret
    exact ⟨rfl, Below.refl _ _⟩
  go_enter Try.func4, Try.ntmps4
  go_wp2
  go_loopw [7, 9, 10] (fun v u i wr => ∃ j : Nat, i = .int .i64 j ∧ j ≤ n ∧ Lp1 ws v u j wr) (fun _ _ i _ => n - (intOf i).toNat)
  case atStart => exact ⟨0, rfl, by omega, [], [], isF_nil, goodM_nil, ⟨none, 0, rfl, .inl rfl⟩, Nat.le_refl _, World.ownsRow_nil _ _ _ _, Below.refl _ _⟩
  case round =>
    obtain ⟨j, rfl, hj, S, M, hI, hM, hl, hMl, hown, hB⟩ := hrel
    have HI := (show Hid (IsF S (fm M)) from hI)
    have HM := (show Hid (GoodM M) from hM)
    have HL := (show Hid (Logs wr u7 S) from hl)
    have HO := (show Hid (wr.ownsRow ws.heap.size 24 3 u9 M.length (flatM M)) from hown)
    clear hI hM hl hown
    by_cases hlt : j < n
    · obtain ⟨p', c', e', h0 | ⟨b, o, rfl, hb0, hc⟩⟩ := HV.out
      · omega
      cases e'
      obtain ⟨x, y, hcx, hcy⟩ := hc j hlt
      have hb := Nat.lt_of_lt_of_le hb0 hB.size
      have x0 := (hB.cell (p := ⟨b, o + j * 2, none⟩) hb0).trans hcx
      have x1 := (hB.cell (p := ⟨b, o + j * 2 + 1, none⟩) hb0).trans hcy
      obtain ⟨cl, hcl, hce⟩ : ∃ k : Nat, k < 3 ∧ IntKind.i64.wrap ((IntKind.u64.wrap x).tmod 3) = k := conv3 x
      obtain ⟨hy0, hy1⟩ : 0 ≤ IntKind.i64.wrap ((IntKind.u64.wrap y).tmod 1000) ∧ IntKind.i64.wrap ((IntKind.u64.wrap y).tmod 1000) ≤ 999 := conv1000 y
      generalize hye : IntKind.i64.wrap ((IntKind.u64.wrap y).tmod 1000) = z at hy0 hy1
      have hjI : (j : Int) < n := by omega
      clear hc hcx hcy
      go_wp2
      go_region_held3 (fun w' => w'.cell? ⟨b, o + j * 2, none⟩ = some (.int .i64 x) ∧ w'.cell? ⟨b, o + j * 2 + 1, none⟩ = some (.int .i64 y))
        (first | exact ⟨x0, x1⟩ | exact ⟨v0, v1⟩)
        (first | (go_at_call 16; refine (say_is (ws := wr.drew) (HL.out.below ((Below.refl _ wr).drew)) HI.out hcl hy0 (by omega)).mono ?_; rintro ev w3 ⟨v', q, er, rfl, hk, B3⟩; have v0 := (B3.cell (p := ⟨b, o + j * 2, none⟩) hb).trans x0; have v1 := (B3.cell (p := ⟨b, o + j * 2 + 1, none⟩) hb).trans x1; have HK := (show Hid (SayF (fm M) cl z wr.drew.heap.size w3 v' q er) from hk); clear hk))
      simp only [Exit.then]
      go_at_K
      have hbs : wr.drew.heap.size = wr.heap.size := rfl
      have HB3 := hB.drew.trans (B3.mono hB.size)
      rcases HK.out with ⟨rfl, rfl, rfl⟩ | ⟨rfl, rfl, T, hT, hlT, hfT⟩
      · go_wp2
        exact ⟨⟨j + 1, by simp, by omega, S, M, HI.out, HM.out, (HL.out.below ((Below.refl _ wr).drew)).below B3, by omega, own_same (own_same HO.out ((Below.refl _ wr).drew)) B3, HB3⟩, by simp [intOf]; omega⟩
      · have HT := (show Hid (IsF T (upd (fm M) cl z)) from hT)
        have HLT := (show Hid (Logs w3 v' T) from hlT)
        have HFT := (show Hid (Fr wr.heap.size v' T) from hfT)
        clear hT hlT hfT HK
        have HO3 := (show Hid (w3.ownsRow ws.heap.size 24 3 u9 M.length (flatM M)) from own_same (own_same HO.out ((Below.refl _ wr).drew)) B3)
        have hul : ∀ k, u9.ownBlock = some k → k < wr.heap.size := fun k hk => (own_block HO.out hk).2
        have hb3 : b < w3.heap.size := Nat.lt_of_lt_of_le hb B3.size
        obtain ⟨pm, cm, rfl⟩ := row_slice HO.out
        have rowA : ∀ ob, (w3.alloc ob).drew.ownsRow ws.heap.size 24 3 (.slice pm M.length cm) M.length (flatM M) := fun ob => own_same HO3.out (((Below.refl _ w3).alloc (Nat.le_refl _) ob).drew)
        have a0 := cell_new v0 (.cells #[.int .i64 cl, .int .i64 ((fm M cl).length + 1 : Int), .int .i64 z] 24)
        have a1 := cell_new v1 (.cells #[.int .i64 cl, .int .i64 ((fm M cl).length + 1 : Int), .int .i64 z] 24)
        have hb5 : ∀ ob, b < (w3.alloc ob).drew.heap.size := fun ob => Nat.lt_of_lt_of_le hb3 (((Below.refl _ w3).alloc (Nat.le_refl _) ob).drew).size
        have hnb : some b ≠ (Value.slice pm M.length cm).ownBlock := fun e => by have := (own_block HO3.out e.symm).1; omega
        have hfin : Hid (∀ (w6 : World) (g cap : Nat), w6.ownsRow ws.heap.size 24 3 (.slice (some ⟨g, 0, none⟩) (M.length + 1) cap) (M.length + 1) (flatM M ++ [.int .i64 cl, .int .i64 ((fm M cl).length + 1 : Int), .int .i64 z]) → (w3.alloc (.cells #[.int .i64 cl, .int .i64 ((fm M cl).length + 1 : Int), .int .i64 z] 24)).drew.grownBy w6 (Value.slice pm M.length cm).ownBlock → Lp1 ws v' (.slice (some ⟨g, 0, none⟩) (M.length + 1) cap) (j + 1) w6) := by
          intro w6 g cap hown6 hg6
          rw [flatM_snoc] at hown6
          have BA := ((Below.refl _ w3).alloc (Nat.le_refl _) (.cells #[.int .i64 cl, .int .i64 ((fm M cl).length + 1 : Int), .int .i64 z] 24)).drew
          refine ⟨T, M ++ [⟨cl, ((fm M cl).length + 1 : Int), z⟩], by rw [fm_snoc]; exact HT.out, HM.out.snoc _ hcl (by simp) hy0 (by simp only; omega), Logs.grownF (HLT.out.below BA) hg6 HFT.out hul, by rw [List.length_append]; simp; omega, by rw [List.length_append]; exact hown6, ?_⟩
          exact (HB3.trans (BA.mono HB3.size)).grown hg6 (Nat.le_trans HB3.size BA.size) (fun k hk => (own_block HO3.out hk).1)
        have hm40 : M.length ≤ 60 := by omega
        clear HO HL HI HM
        go_wp2
        go_region_held3 (fun w' => w'.cell? ⟨b, o + j * 2, none⟩ = some (.int .i64 x) ∧ w'.cell? ⟨b, o + j * 2 + 1, none⟩ = some (.int .i64 y))
          (first | exact ⟨v0, v1⟩ | exact ⟨a0, a1⟩ | exact ⟨s0, s1⟩)
          (first | (refine step_append_lies _ (by rfl) _ _ 47 (by rfl) ws.heap.size 24 i0 _ 3 24 Try.underlying47 hi hz0 hz1 hz2 (by rfl) (by decide) (.slice pm M.length cm) M.length (flatM M) (by rfl) (rowA _) ⟨w3.heap.size, 0, none⟩ 1 1 [.int .i64 cl, .int .i64 ((fm M cl).length + 1 : Int), .int .i64 z] (by rfl) (by rfl) (World.news_of_block (heap_alloc_new w3 _)) (by simp [Value.oneCell']) (by omega) (by unfold maxLen; omega) (by omega) (Nat.le_trans HB3.size (Nat.le_of_lt (by simp [World.drew]))) _ rfl ?_; intro g cap w6 hown6 hg6 hat6 hlt6; have s0 := (hg6.cell_far ⟨b, o + j * 2, none⟩ (hb5 _) hnb).trans a0; have s1 := (hg6.cell_far ⟨b, o + j * 2 + 1, none⟩ (hb5 _) hnb).trans a1; have HF := (show Hid _ from hfin.out w6 g cap hown6 hg6); clear hown6 hg6))
        go_wp2
        exact ⟨⟨j + 1, by simp, by omega, HF.out⟩, by simp [intOf]; omega⟩
    · obtain rfl : j = n := by omega
      obtain ⟨pm, cm, rfl⟩ := row_slice HO.out
      have hMl60 : M.length ≤ 60 := by omega
      go_wp2
      go_loopw [8, 14] (fun v i wx => ∃ q : Nat, i = .int .i64 q ∧ q ≤ M.length ∧ Lp2 wr M v q wx) (fun _ i _ => M.length - (intOf i).toNat)
      case atStart => exact ⟨0, rfl, by omega, [], _, isF_nil, fun k _ => List.prefix_refl _, ⟨none, 0, rfl, .inl rfl⟩, Below.refl _ _⟩
      case round =>
        obtain ⟨q, rfl, hq, T, G, hT, hG, hlT, hBx⟩ := hrel
        have HT := (show Hid (IsF T G) from hT)
        have HG := (show Hid (Begs G (fm (M.take q))) from hG)
        have HLT := (show Hid (Logs wr u8 T) from hlT)
        clear hT hG hlT
        by_cases hboth : q < M.length ∧ q < nh
        · obtain ⟨hqm, hqn⟩ := hboth
          · obtain ⟨bv, ov, rfl, hbv, hcv0⟩ := rdw_at HH.out (t := q) (by omega)
            have hcv := ((hB.trans (hBx.mono hB.size)).cell (p := ⟨bv, ov + q, none⟩) hbv).trans hcv0
            have hrow := own_same HO.out hBx
            obtain ⟨g, rfl, hg1, hg2, _, hcell⟩ := row_open hrow (by omega)
            obtain ⟨f0, f1, f2⟩ := flatM_get M q hqm
            have y0 := (hcell (q * 3) (by omega)).trans f0
            have y1 := (hcell (q * 3 + 1) (by omega)).trans f1
            have y2 := (hcell (q * 3 + 2) (by omega)).trans f2
            obtain ⟨m0, m1, m2, m3⟩ := HM.out.at' q hqm
            have h31 := msg_len HM.out HI.out hqm
            have hpre := HG.out M[q].c m0
            have hpl := hpre.length_le
            have hstep := (show Hid _ from begs_step hqm HG.out)
            have hput := (show Hid _ from begs_put HM.out hqm HG.out)
            have hqmI : (q : Int) < M.length := by omega
            have hqnI : (q : Int) < nh := by omega
            clear hcv0 hrow hcell f0 f1 f2 hpre
            generalize hs.getD q 0 = z at hcv
            generalize M[q].c = c at *
            generalize M[q].n = nn at *
            generalize M[q].b = bb at *
            by_cases hz : z.tmod 2 = 0
            · by_cases hle : (G c).length = (fm (M.take q) c).length
              · go_wp2_with (first | (go_at_call 20; fail))
                refine Calls.mono (put_next_is HLT.out HT.out m0 m2 m3 (by omega) (by omega)) ?_
                rintro ev w3 ⟨v', T', rfl, hT', hl', B3⟩
                simp only []
                go_at_K
                go_wp2
                exact ⟨⟨q + 1, by simp, by omega, T', _, hT', hput.out hle, hl', hBx.trans (B3.mono hBx.size)⟩, by simp [intOf]; omega⟩
              · go_wp2_with (first | (go_at_call 20; fail))
                refine Calls.mono (put_skip_is HLT.out HT.out m0 m2 m3 (by omega)) ?_
                rintro ev w3 ⟨rfl, B3⟩
                simp only []
                go_at_K
                go_wp2
                exact ⟨⟨q + 1, by simp, by omega, T, G, HT.out, hstep.out, HLT.out.below B3, hBx.trans (B3.mono hBx.size)⟩, by simp [intOf]; omega⟩
            · go_wp2
              exact ⟨⟨q + 1, by simp, by omega, T, G, HT.out, hstep.out, HLT.out, hBx⟩, by simp [intOf]; omega⟩
        · have HGA := (show Hid (Begs G (fm M)) from begs_all hq HG.out)
          have hor : M.length ≤ q ∨ (q < M.length ∧ nh ≤ q) := by omega
          have hS8 := HI.out.right.len
          have htM := fm_all HM.out
          have HL2 := (show Hid (Logs wr u7 S) from HL.out.below hBx)
          have B2 := hB.trans (hBx.mono hB.size)
          clear HG HV HH hBx
          rcases hor with h4 | ⟨h4, h5⟩
          all_goals
            go_wp2
            go_loopw [8, 18] (fun v i wx => ∃ q : Nat, i = .int .i64 q ∧ Lp3 wr M v q wx) (fun _ i _ => M.length + 1 - (intOf i).toNat)
            case atStart => exact ⟨0, rfl, T, G, HT.out, HGA.out, Nat.zero_le _, HLT.out, Below.refl _ _⟩
            case round =>
              clear HT HGA HLT
              obtain ⟨r, rfl, T', G', hT, hG, hr, hlT, hBy⟩ := hrel
              have HT := (show Hid (IsF T' G') from hT)
              have HG := (show Hid (Begs G' (fm M)) from hG)
              have HLT := (show Hid (Logs wr u8 T') from hlT)
              have htt := hG.tot
              have hT8 := hT.right.len
              have HLS := (show Hid (Logs wr u7 S) from HL2.out.below hBy)
              have B3 := B2.trans (hBy.mono B2.size)
              have hrI : (r : Int) ≤ M.length := by omega
              clear hT hG hlT HL2
              go_wp2_with (first | (go_at_call 14; fail))
              refine Calls.mono (have_row HLT.out (by omega) HT.out.right) ?_
              rintro ev w3 ⟨g3, c3, zs, rfl, hz, R3, B4⟩
              have Z := (show Hid (HaveR T' T'.length zs) from hz)
              have HU := (show Hid (RdW w3 (.slice (some ⟨g3, 0, none⟩) 8 c3) zs) from by have := (irow_of R3).reads.rdw; exact this)
              have HLS3 := (show Hid (Logs w3 u7 S) from HLS.out.below B4)
              have HLT3 := (show Hid (Logs w3 u8 T') from HLT.out.below B4)
              have B5 := B3.trans (B4.mono B3.size)
              have B5y := hBy.trans (B4.mono hBy.size)
              clear hz R3 HLS HLT
              simp only []
              go_at_K
              go_wp2_with (first | (go_at_call 22; fail))
              refine Calls.mono (want_is HLS3.out HI.out HT.out Z.out HU.out) ?_
              rintro ev w4 ⟨hk, B6⟩
              have HLS4 := (show Hid (Logs w4 u7 S) from HLS3.out.below B6)
              have HLT4 := (show Hid (Logs w4 u8 T') from HLT3.out.below B6)
              have B7 := B5.trans (B6.mono B5.size)
              have B7y := B5y.trans (B6.mono B5y.size)
              clear HLS3 HLT3 HU B6 B4 B5 B5y
              rcases hk with ⟨hall, rfl⟩ | ⟨k, hk, hlt, rfl⟩
              · have HE := (show Hid (IsF T' (fm M)) from HT.out.congr (begs_eq HG.out hall))
                clear hall
                simp only []
                go_at_K
                go_wp2_with (first | (go_at_call 18; fail))
                have AL := (Below.refl _ w4).alloc (Nat.le_refl _) (.cells #[.int .i64 0, .int .i64 0, .int .i64 0] 24)
                have HLSa := (show Hid (Logs (w4.alloc (.cells #[.int .i64 0, .int .i64 0, .int .i64 0] 24)) u7 S) from HLS4.out.below AL)
                have HLTa := (show Hid (Logs (w4.alloc (.cells #[.int .i64 0, .int .i64 0, .int .i64 0] 24)) u8 T') from HLT4.out.below AL)
                have BA := B7.trans (AL.mono B7.size)
                clear HLS4 HLT4 AL
                generalize w4.alloc (.cells #[.int .i64 0, .int .i64 0, .int .i64 0] 24) = wa at *
                refine Calls.mono (klogs_ok HLSa.out HLTa.out (IsF.alike HI.out HE.out) (by omega) (fun i h => by have := (HI.out.right.1 i h).2.2.2.2.1; omega)) ?_
                rintro ev w5 ⟨rfl, B8⟩
                simp only []
                go_at_K
                go_wp2_with (first | (go_at_call 14; fail))
                refine Calls.mono (have_row (HLSa.out.below B8) (by omega) HI.out.right) ?_
                rintro ev w6 ⟨ga, ca, za, rfl, hza, Ra, B9⟩
                have ZA := (show Hid (HaveR S S.length za) from hza)
                have HUa := (show Hid (RdW w6 (.slice (some ⟨ga, 0, none⟩) 8 ca) za) from by have := (irow_of Ra).reads.rdw; exact this)
                clear hza Ra
                simp only []
                go_at_K
                go_wp2_with (first | (go_at_call 14; fail))
                refine Calls.mono (have_row ((HLTa.out.below B8).below B9) (by omega) HE.out.right) ?_
                rintro ev w7 ⟨gb, cb, zb, rfl, hzb, Rb, B10⟩
                have hzz := HI.out.same_have HE.out ZA.out hzb
                subst hzz
                have HUb := (show Hid (RdW w7 (.slice (some ⟨gb, 0, none⟩) 8 cb) za) from by have := (irow_of Rb).reads.rdw; exact this)
                have HUc := (show Hid (RdW w7 (.slice (some ⟨ga, 0, none⟩) 8 ca) za) from RdW.below HUa.out B10)
                have hl8 := hzb.len
                have BB := ((BA.trans (B8.mono BA.size)).trans (B9.mono (Nat.le_trans BA.size B8.size))).trans (B10.mono (Nat.le_trans BA.size (Nat.le_trans B8.size B9.size)))
                clear hzb Rb HUa HLSa HLTa B8 B9 B10 BA
                simp only []
                go_at_K
                go_wp2_with (first
                  | (go_at_call 13; refine (ints_same (by omega) HUc.out HUb.out).mono ?_; rintro ev w8 ⟨rfl, B11⟩)
                  | (go_at_call 27; refine (wakes25_ok _).mono ?_; rintro ev w9 ⟨rfl, B12⟩))
                go_ret
                exact ⟨rfl, (BB.trans (B11.mono BB.size)).trans (B12.mono (Nat.le_trans BB.size B11.size))⟩
              · obtain ⟨sq, hsq⟩ : ∃ sq : Int, sq = ((G' k).length + 1 : Nat) := ⟨_, rfl⟩
                rw [← hsq]
                have HSQ := (show Hid (sq = ((G' k).length + 1 : Nat)) from hsq)
                clear hsq
                have hbd := nth_in HI.out hk hlt
                have hnx := (show Hid (G' k ++ [(fm M k).getD (G' k).length 0] <+: fm M k) from pre_next (HG.out k hk) hlt)
                have h32 := (HI.out.len hk).1
                generalize (fm M k).getD (G' k).length 0 = bd at *
                simp only []
                go_at_K
                go_wp2_with (first | (go_at_call 20; fail))
                have AL := (Below.refl _ w4).alloc (Nat.le_refl _) (.cells #[.int .i64 k, .int .i64 sq, .int .i64 bd] 24)
                have HLSa := (show Hid (Logs (w4.alloc (.cells #[.int .i64 k, .int .i64 sq, .int .i64 bd] 24)) u7 S) from HLS4.out.below AL)
                have HLTa := (show Hid (Logs (w4.alloc (.cells #[.int .i64 k, .int .i64 sq, .int .i64 bd] 24)) u8 T') from HLT4.out.below AL)
                have BA := B7.trans (AL.mono B7.size)
                have BAy := B7y.trans (AL.mono B7y.size)
                have ma0 : (w4.alloc (.cells #[.int .i64 k, .int .i64 sq, .int .i64 bd] 24)).cell? ⟨w4.heap.size, 0, none⟩ = some (.int .i64 k) := by simp [go_sem]
                have ma1 : (w4.alloc (.cells #[.int .i64 k, .int .i64 sq, .int .i64 bd] 24)).cell? ⟨w4.heap.size, 1, none⟩ = some (.int .i64 sq) := by simp [go_sem]
                have ma2 : (w4.alloc (.cells #[.int .i64 k, .int .i64 sq, .int .i64 bd] 24)).cell? ⟨w4.heap.size, 2, none⟩ = some (.int .i64 bd) := by simp [go_sem]
                have mlt : w4.heap.size < (w4.alloc (.cells #[.int .i64 k, .int .i64 sq, .int .i64 bd] 24)).heap.size := by simp
                clear HLS4 HLT4 AL
                generalize w4.alloc (.cells #[.int .i64 k, .int .i64 sq, .int .i64 bd] 24) = wa at *
                refine Calls.mono (put_next_is HLTa.out HT.out hk hbd.1 hbd.2 (by omega) HSQ.out) ?_
                rintro ev w5 ⟨v5, T5, rfl, hT5, hl5, B8⟩
                have HT5 := (show Hid (IsF T5 (upd G' k bd)) from hT5)
                have HL5 := (show Hid (Logs w5 v5 T5) from hl5)
                have mb0 := (B8.cell (p := ⟨w4.heap.size, 0, none⟩) mlt).trans ma0
                have mb1 := (B8.cell (p := ⟨w4.heap.size, 1, none⟩) mlt).trans ma1
                have mb2 := (B8.cell (p := ⟨w4.heap.size, 2, none⟩) mlt).trans ma2
                have BC := BAy.trans (B8.mono BAy.size)
                have h58 := hT5.right.len
                clear hT5 hl5 ma0 ma1 ma2
                simp only []
                go_at_K
                go_wp2_with (first | (go_at_call 20; fail))
                refine Calls.mono (put_old_is HL5.out HT5.out hk hbd.1 hbd.2 (by have := HSQ.out; omega) (by have := HSQ.out; rw [upd_self, List.length_append]; simp; omega)) ?_
                rintro ev w6 ⟨v6, T6, rfl, hA6, hl6, B9⟩
                have HA6 := (show Hid (Alike T5 T6) from hA6)
                have HL6 := (show Hid (Logs w6 v6 T6) from hl6)
                have h68 := hA6.1
                have BD := BC.trans (B9.mono BC.size)
                clear hA6 hl6 mb0 mb1 mb2
                simp only []
                go_at_K
                go_wp2_with (first | (go_at_call 18; fail))
                refine Calls.mono (klogs_ok HL6.out (HL5.out.below B9) (Alike.symm HA6.out) (by omega) (fun i h => by have := ((HA6.out.right HT5.out.right).1 i h).2.2.2.2.1; omega)) ?_
                rintro ev w7 ⟨rfl, B10⟩
                simp only []
                go_at_K
                go_wp2
                exact ⟨⟨r + 1, by simp, T5, _, HT5.out, HG.out.upd hnx.out, by rw [tot_upd _ hk]; omega, (HL5.out.below B9).below B10, BD.trans (B10.mono BD.size)⟩, by simp [intOf]; omega⟩
end Go.Proofs.Ytcpcnjblojoppaa
