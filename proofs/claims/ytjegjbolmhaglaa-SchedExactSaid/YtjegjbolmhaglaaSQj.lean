/-
  LAYER 18: SchedLeaves, the walk. Own work.
-/
import Derived.Test.YtjegjbolmhaglaaSQi
namespace Go.Proofs.Ytjegjbolmhaglaa
open Go.RowKit Go.Maps
set_option maxRecDepth 100000
attribute [local go_sem ↓] Go.wp_at_zero Go.wp_at_succ
section
variable {w wr w' : World} {pb aa bb m : Nat} {L L' L1 : List Tm} {G G' : Nat → Prop}
theorem Pr.c0 (P : Pr w wr pb aa bb L L' m) : wr.cell? ⟨pb, 0, none⟩ = some (.pointer (some ⟨aa, 0, none⟩)) := by
  obtain ⟨mp, mc, G, T, A⟩ := P.ex
  exact A.c0
theorem Pr.c1 (P : Pr w wr pb aa bb L L' m) : wr.cell? ⟨pb, 1, none⟩ = some (.pointer (some ⟨bb, 0, none⟩)) := by
  obtain ⟨mp, mc, G, T, A⟩ := P.ex
  exact A.c1
theorem nodes_in (P : Pr w wr pb aa bb L L' m) {p : Option Addr} {q c : Nat} {xs : List Int} (hv : RdW wr (.slice p q c) xs) (hn : xs.length ≤ 100000) (h : allIn L' xs) : Calls Try.prog 22 #[.pointer (some ⟨bb, 0, none⟩), .slice p q c] wr fun e w' => e = .returned (.int .i64 0) ∧ Pr w w' pb aa bb L L' m := by
  obtain ⟨G, T⟩ := P.pn
  refine (nodes_pn T hv hn).mono ?_
  rintro e w' ⟨rfl, hB⟩
  exact ⟨by rw [if_pos h], P.step hB⟩
theorem nodes_out (P : Pr w wr pb aa bb L L' m) {p : Option Addr} {q c : Nat} {xs : List Int} (hv : RdW wr (.slice p q c) xs) (hn : xs.length ≤ 100000) (h : ¬ allIn L' xs) : Calls Try.prog 22 #[.pointer (some ⟨bb, 0, none⟩), .slice p q c] wr fun e w' => e = .returned (.int .i64 8) ∧ Pr w w' pb aa bb L L' m := by
  obtain ⟨G, T⟩ := P.pn
  refine (nodes_pn T hv hn).mono ?_
  rintro e w' ⟨rfl, hB⟩
  exact ⟨by rw [if_neg h], P.step hB⟩
theorem bound_len (L : List Tm) (x c : Nat) (ns : List Int) : L.length ≤ (ext (boundL L x c ns) (boundT L x c ns)).length ∧ (ext (boundL L x c ns) (boundT L x c ns)).length ≤ L.length + 2 + ns.length := by
  have h1 := wordsL_len ns (ext L (4, c, [(x : Int)]))
  have h2 := ext_le L (4, c, [(x : Int)])
  have h3 := ext_le1 L (4, c, [(x : Int)])
  have h4 := ext_le (boundL L x c ns) (boundT L x c ns)
  have h5 := ext_le1 (boundL L x c ns) (boundT L x c ns)
  unfold boundL at *
  omega
theorem meet_pn (T : Pn w wr bb L G) (x : Nat) (i j round : Int) (h1 : 0 ≤ i ∧ i < 8) (h2 : 0 ≤ j ∧ j < 8) (h3 : 0 ≤ round) (h4 : round < 9223372036854775808) (hx : x < L.length) (hr : L.length + 20 < 1048576) :
    Calls Try.prog 40 #[.pointer (some ⟨bb, 0, none⟩), .int .i64 x, .int .i64 i, .int .i64 j, .int .i64 round] wr fun e w' => e = .returned (.int .i64 (plc (boundL L x 24 [if j < i then j else i, if i < j then j else i, round]) (boundT L x 24 [if j < i then j else i, if i < j then j else i, round]))) ∧ Pn w w' bb (ext (boundL L x 24 [if j < i then j else i, if i < j then j else i, round]) (boundT L x 24 [if j < i then j else i, if i < j then j else i, round])) G ∧ Stay G wr w' := meet_pn_low T x i j round h1 h2 h3 h4 hx hr _ _ rfl rfl
end
theorem chain_at {w wr : World} {aa : Nat} {L : List Tm} {G : Nat → Prop} (T : On w wr aa L G) (x : Nat) (i : Int) (h1 : 0 ≤ i ∧ i < 8) (hx : x < L.length) (hr : L.length + 20 < 1048576) {a : Nat} {L2 : List Tm} (ha : plc (boundL L x 23 [i]) (boundT L x 23 [i]) = a) (hL : ext (boundL L x 23 [i]) (boundT L x 23 [i]) = L2) :
    Calls Try.prog 36 #[.pointer (some ⟨aa, 0, none⟩), .int .i64 x, .int .i64 i] wr fun e w' => e = .returned (.tuple #[.int .i64 a, .int .i64 0]) ∧ On w w' aa L2 G ∧ Stay G wr w' := by
  subst ha hL
  exact chain_on T x i h1 hx hr
theorem chain_pn_at {w wr : World} {bb : Nat} {L : List Tm} {G : Nat → Prop} (T : Pn w wr bb L G) (x : Nat) (i : Int) (h1 : 0 ≤ i ∧ i < 8) (hx : x < L.length) (hr : L.length + 20 < 1048576) {a : Nat} {L2 : List Tm} (ha : plc (boundL L x 23 [i]) (boundT L x 23 [i]) = a) (hL : ext (boundL L x 23 [i]) (boundT L x 23 [i]) = L2) :
    Calls Try.prog 38 #[.pointer (some ⟨bb, 0, none⟩), .int .i64 x, .int .i64 i] wr fun e w' => e = .returned (.int .i64 a) ∧ Pn w w' bb L2 G ∧ Stay G wr w' := by
  subst ha hL
  exact chain_pn T x i h1 hx hr
theorem meet_pn_at {w wr : World} {bb : Nat} {L : List Tm} {G : Nat → Prop} (T : Pn w wr bb L G) (x : Nat) (i j round : Int) (h1 : 0 ≤ i ∧ i < 8) (h2 : 0 ≤ j ∧ j < 8) (h3 : 0 ≤ round) (h4 : round < 9223372036854775808) (hx : x < L.length) (hr : L.length + 20 < 1048576) {lo hi : Int} (hlo : (if j < i then j else i) = lo) (hhi : (if i < j then j else i) = hi) {a : Nat} {L2 : List Tm} (ha : plc (boundL L x 24 [lo, hi, round]) (boundT L x 24 [lo, hi, round]) = a) (hL : ext (boundL L x 24 [lo, hi, round]) (boundT L x 24 [lo, hi, round]) = L2) :
    Calls Try.prog 40 #[.pointer (some ⟨bb, 0, none⟩), .int .i64 x, .int .i64 i, .int .i64 j, .int .i64 round] wr fun e w' => e = .returned (.int .i64 a) ∧ Pn w w' bb L2 G ∧ Stay G wr w' := by
  subst ha hL
  exact meet_pn_low T x i j round h1 h2 h3 h4 hx hr lo hi hlo hhi
set_option maxHeartbeats 16000000 in
theorem leaves_low (v : Value) (x i j round : Int) (hr63 : round < 9223372036854775808) (S : List St) (w : World) (H1 : Hid (Steps w v S)) : Calls Try.prog 7 #[v, .int .i64 x, .int .i64 i, .int .i64 j, .int .i64 round] w fun e w' => e = .returned (.bool true) ∧ Below w.heap.size w w' := by
  go_enter Try.func7, Try.ntmps7
  go_wp2_with (first
    | (go_at_call 17; refine (heavy_ok H1.out).mono ?_; rintro ev w ⟨rfl, r1, rfl, hr⟩; have R1 := (show Hid _ from hr); clear hr)
    | (go_at_call 20; refine (pairs_ok H1.out (R1.out (by first | assumption | simpa using ‹¬ r1 = true›)).2).mono ?_; rintro ev w1 ⟨pb, aa, bb, L, rfl, P0, hL⟩; have a0 := P0.c0; have a1 := P0.c1; clear R1))
  · go_ret
    exact ⟨rfl, Below.refl _ _⟩
  by_cases hx : 0 ≤ x ∧ x < (L.length : Int)
  · obtain ⟨x, rfl⟩ : ∃ q : Nat, x = q := ⟨x.toNat, by omega⟩
    have hxL : x < L.length := by omega
    clear hx
    obtain ⟨q1, hq1⟩ : ∃ q, plc (boundL L x 23 [i]) (boundT L x 23 [i]) = q := ⟨_, rfl⟩
    obtain ⟨L1, hL1⟩ : ∃ M, ext (boundL L x 23 [i]) (boundT L x 23 [i]) = M := ⟨_, rfl⟩
    have hb1 : L.length ≤ L1.length ∧ L1.length ≤ L.length + 3 := by have := bound_len L x 23 [i]; rw [hL1] at this; simpa using this
    have hq1L : q1 < L1.length := by rw [← hq1, ← hL1]; exact plc_lt _ _
    obtain ⟨lo, hlo⟩ : ∃ z, (if j < i then j else i) = z := ⟨_, rfl⟩
    obtain ⟨hi_, hhi⟩ : ∃ z, (if i < j then j else i) = z := ⟨_, rfl⟩
    obtain ⟨q2, hq2⟩ : ∃ q, plc (boundL L1 x 24 [lo, hi_, round]) (boundT L1 x 24 [lo, hi_, round]) = q := ⟨_, rfl⟩
    obtain ⟨L2, hL2⟩ : ∃ M, ext (boundL L1 x 24 [lo, hi_, round]) (boundT L1 x 24 [lo, hi_, round]) = M := ⟨_, rfl⟩
    have hb2 : L1.length ≤ L2.length ∧ L2.length ≤ L1.length + 5 := by have := bound_len L1 x 24 [lo, hi_, round]; rw [hL2] at this; simpa using this
    have hq2L : q2 < L2.length := by rw [← hq2, ← hL2]; exact plc_lt _ _
    have HQ1 := (show Hid _ from hq1)
    have HL1 := (show Hid _ from hL1)
    have HQ2 := (show Hid _ from hq2)
    have HL2 := (show Hid _ from hL2)
    have HLO := (show Hid _ from hlo)
    have HHI := (show Hid _ from hhi)
    clear hq1 hL1 hq2 hL2 hlo hhi
    by_cases hi : 0 ≤ i ∧ i < 8 <;> by_cases hj : 0 ≤ j ∧ j < 8 <;> by_cases hr0 : 0 ≤ round
    all_goals (
      first
        | have HLI : Hid (decide (0 ≤ i ∧ i < 8) = true) := decide_eq_true hi
        | have HLI : Hid (decide (0 ≤ i ∧ i < 8) = false) := decide_eq_false hi
      first
        | have HLJ : Hid (decide (0 ≤ j ∧ j < 8) = true) := decide_eq_true hj
        | have HLJ : Hid (decide (0 ≤ j ∧ j < 8) = false) := decide_eq_false hj
      first
        | have hrd : decide (round < 0) = false := decide_eq_false (by omega)
        | have hrd : decide (round < 0) = true := decide_eq_true (by omega)
      first
        | have HM : Hid (¬ ((0 ≤ i ∧ i < 8) ∧ (0 ≤ j ∧ j < 8) ∧ 0 ≤ round)) := by
            show ¬ _
            omega
        | have HM : Hid True := trivial
      have HI := (show Hid _ from hi)
      have HJ := (show Hid _ from hj)
      have HR := (show Hid _ from hr0)
      clear hi hj hr0
      go_wp2_with (first
        | (go_at_call 36; refine (chain_arg _ i HI.out).mono ?_; rintro ev w2 ⟨rfl, rfl⟩; have P1 := P0; have S1 := (show Hid True from trivial); clear P0)
        | (go_at_call 36; refine (P0.onA (Q := fun e _ => e = .returned (.tuple #[.int .i64 q1, .int .i64 0])) (fun G' O => chain_at O x i HI.out hxL (by omega) HQ1.out HL1.out)).mono ?_; rintro ev w2 ⟨rfl, P1⟩; have S1 := (show Hid True from trivial); clear P0 a0 a1)
        | (go_at_call 22; have s1 := S1; refine (nodes_in (P1.alloc _) (reads_lit [(x : Int)] rfl rfl _).rdw (by simp) (fun z hz => by simp at hz; omega)).mono ?_; rintro ev w3 ⟨rfl, P2⟩; clear P1 S1 s1)
        | (go_at_call 37; refine (lleaf_ok i).mono ?_; rintro ev w8 ⟨rfl, rfl⟩; rw [HLI.out])
        | (go_at_call 38; refine (P2.onB (Q := fun e _ => e = .returned (.int .i64 q1)) hb1.1 (fun G' O => chain_pn_at O x i HI.out hxL (by omega) HQ1.out HL1.out)).mono ?_; rintro ev w4 ⟨rfl, P3⟩; clear P2)
        | (go_at_call 24; refine (like_ok P3 (by omega) _ hq1L).mono ?_; rintro ev w5 ⟨rfl, m5, P4⟩; have a0 := P4.c0; have S4 := (show Hid True from trivial); clear P3)
        | (go_at_call 24; have t1 := P2; refine (like_no _ _ _ (by decide)).mono ?_; rintro ev w5 ⟨rfl, rfl⟩; have P4 := P2; have a0 := P4.c0; have S4 := (show Hid True from trivial); clear P2 t1)
        | (go_at_call 39; refine (meet_arg _ i j round HM.out).mono ?_; rintro ev w6 ⟨rfl, rfl⟩; have P5 := P4; clear P4)
        | (go_at_call 39; refine (P4.onA (Q := fun e _ => e = .returned (.tuple #[.int .i64 q2, .int .i64 0])) (fun G' O => meet_at O x i j round HI.out HJ.out HR.out hr63 (by omega) (by omega) HLO.out HHI.out HQ2.out HL2.out)).mono ?_; rintro ev w6 ⟨rfl, P5⟩; clear P4)
        | (go_at_call 22; have s4 := S4; refine (nodes_in (P5.alloc _) (reads_lit [(x : Int)] rfl rfl _).rdw (by simp) (fun z hz => by simp at hz; omega)).mono ?_; rintro ev w7 ⟨rfl, P6⟩; clear P5 S4 s4)
        | (go_at_call 37; refine (lleaf_ok j).mono ?_; rintro ev w8 ⟨rfl, rfl⟩; rw [HLJ.out])
        | (go_at_call 40; refine (P6.onB (Q := fun e _ => e = .returned (.int .i64 q2)) hb2.1 (fun G' O => meet_pn_at O x i j round HI.out HJ.out HR.out hr63 (by omega) (by omega) HLO.out HHI.out HQ2.out HL2.out)).mono ?_; rintro ev w9 ⟨rfl, P7⟩; clear P6)
        | (go_at_call 24; refine (like_ok P7 (by omega) _ hq2L).mono ?_; rintro ev w5 ⟨rfl, m9, P8⟩; clear P7)
        | (go_at_call 24; have t1 := P6; refine (like_no _ _ _ (by decide)).mono ?_; rintro ev w5 ⟨rfl, rfl⟩; have P8 := P6; clear P6 t1)
        | (go_at_call 35; refine (wakes18_ok _).mono ?_; rintro ev w10 ⟨rfl, B10⟩))
      go_ret
      exact ⟨rfl, P8.below.trans (B10.mono P8.below.size)⟩)
  · have HX := (show Hid _ from hx)
    clear hx
    by_cases hi : 0 ≤ i ∧ i < 8 <;> by_cases hj : 0 ≤ j ∧ j < 8 <;> by_cases hr0 : 0 ≤ round
    all_goals (
      first
        | have HLI : Hid (decide (0 ≤ i ∧ i < 8) = true) := decide_eq_true hi
        | have HLI : Hid (decide (0 ≤ i ∧ i < 8) = false) := decide_eq_false hi
      first
        | have HLJ : Hid (decide (0 ≤ j ∧ j < 8) = true) := decide_eq_true hj
        | have HLJ : Hid (decide (0 ≤ j ∧ j < 8) = false) := decide_eq_false hj
      first
        | have hrd : decide (round < 0) = false := decide_eq_false (by omega)
        | have hrd : decide (round < 0) = true := decide_eq_true (by omega)
      first
        | have HM : Hid (¬ ((0 ≤ i ∧ i < 8) ∧ (0 ≤ j ∧ j < 8) ∧ 0 ≤ round)) := by
            show ¬ _
            omega
        | have HM : Hid True := trivial
      have HI := (show Hid _ from hi)
      have HJ := (show Hid _ from hj)
      have HR := (show Hid _ from hr0)
      clear hi hj hr0
      go_wp2_with (first
        | (go_at_call 36; refine (chain_arg _ i HI.out).mono ?_; rintro ev w2 ⟨rfl, rfl⟩; have P1 := P0; have S1 := (show Hid True from trivial); clear P0)
        | (go_at_call 36; refine (P0.onA (Q := fun e _ => e = .returned (.tuple #[.int .i64 0, .int .i64 8])) (fun G' O => chain_no O x i HI.out HX.out)).mono ?_; rintro ev w2 ⟨rfl, P1⟩; have S1 := (show Hid True from trivial); clear P0 a0 a1)
        | (go_at_call 22; have s1 := S1; refine (nodes_out (P1.alloc _) (reads_lit [x] rfl rfl _).rdw (by simp) (fun h => HX.out (h x (by simp)))).mono ?_; rintro ev w3 ⟨rfl, P2⟩; clear P1 S1 s1)
        | (go_at_call 37; refine (lleaf_ok i).mono ?_; rintro ev w8 ⟨rfl, rfl⟩; rw [HLI.out])
        | (go_at_call 24; have t1 := P2; refine (like_no _ _ _ (by decide)).mono ?_; rintro ev w5 ⟨rfl, rfl⟩; have P4 := P2; have a0 := P4.c0; have S4 := (show Hid True from trivial); clear P2 t1)
        | (go_at_call 39; refine (meet_arg _ i j round HM.out).mono ?_; rintro ev w6 ⟨rfl, rfl⟩; have P5 := P4; clear P4)
        | (go_at_call 39; refine (P4.onA (Q := fun e _ => e = .returned (.tuple #[.int .i64 0, .int .i64 8])) (fun G' O => meet_no O x i j round HI.out HJ.out HR.out hr63 HX.out)).mono ?_; rintro ev w6 ⟨rfl, P5⟩; clear P4)
        | (go_at_call 22; have s4 := S4; refine (nodes_out (P5.alloc _) (reads_lit [x] rfl rfl _).rdw (by simp) (fun h => HX.out (h x (by simp)))).mono ?_; rintro ev w7 ⟨rfl, P6⟩; clear P5 S4 s4)
        | (go_at_call 37; refine (lleaf_ok j).mono ?_; rintro ev w8 ⟨rfl, rfl⟩; rw [HLJ.out])
        | (go_at_call 24; have t1 := P6; refine (like_no _ _ _ (by decide)).mono ?_; rintro ev w5 ⟨rfl, rfl⟩; have P8 := P6; clear P6 t1)
        | (go_at_call 35; refine (wakes18_ok _).mono ?_; rintro ev w10 ⟨rfl, B10⟩))
      go_ret
      exact ⟨rfl, P8.below.trans (B10.mono P8.below.size)⟩)
end Go.Proofs.Ytjegjbolmhaglaa
