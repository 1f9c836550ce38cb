/-
  LAYER 18: SchedExact, the walk. Own work.
-/
import Derived.Test.YtjegjbolmhaglaaSQj
namespace Go.Proofs.Ytjegjbolmhaglaa
open Go.RowKit Go.Maps
set_option maxRecDepth 100000
attribute [local go_sem ↓] Go.wp_at_zero Go.wp_at_succ
theorem tag_at {w wr : World} {aa : Nat} {L : List Tm} {G : Nat → Prop} (T : On w wr aa L G) (x y : Nat) (hx : x < L.length) (hy : y < L.length) (hr : L.length + 20 < 1048576) {a : Nat} {L2 : List Tm} (ha : plc (tagL L x) (tagT L x y) = a) (hL : ext (tagL L x) (tagT L x y) = L2) :
    Calls Try.prog 27 #[.pointer (some ⟨aa, 0, none⟩), .int .i64 x, .int .i64 y] wr fun e w' => e = .returned (.tuple #[.int .i64 a, .int .i64 0]) ∧ On w w' aa L2 G ∧ Stay G wr w' := by
  subst ha hL
  exact tag_on T x y hx hy hr
theorem tag_pn_at {w wr : World} {bb : Nat} {L : List Tm} {G : Nat → Prop} (T : Pn w wr bb L G) (x y : Nat) (hx : x < L.length) (hy : y < L.length) (hr : L.length + 20 < 1048576) {a : Nat} {L2 : List Tm} (ha : plc (tagL L x) (tagT L x y) = a) (hL : ext (tagL L x) (tagT L x y) = L2) :
    Calls Try.prog 28 #[.pointer (some ⟨bb, 0, none⟩), .int .i64 x, .int .i64 y] wr fun e w' => e = .returned (.int .i64 a) ∧ Pn w w' bb L2 G ∧ Stay G wr w' := by
  subst ha hL
  exact tag_pn T x y hx hy hr
theorem st_one {L : List Tm} {t : Tm} (h : shape t = 0) (hf : fitsIn L.length t) (hr : L.length < 1048576) : ∃ (q : Nat) (M : List Tm), put L t = ((q : Int), 0, M) ∧ q < M.length ∧ L.length ≤ M.length ∧ M.length ≤ L.length + 1 := ⟨_, _, put_good h hf hr, plc_lt _ _, ext_le _ _, ext_le1 _ _⟩
theorem st_tag (L : List Tm) (x y : Nat) : ∃ (q : Nat) (M : List Tm), plc (tagL L x) (tagT L x y) = q ∧ ext (tagL L x) (tagT L x y) = M ∧ q < M.length ∧ L.length ≤ M.length ∧ M.length ≤ L.length + 2 := by
  have h1 := ext_le L (4, 22, [(x : Int)])
  have h2 := ext_le1 L (4, 22, [(x : Int)])
  have h3 := ext_le (tagL L x) (tagT L x y)
  have h4 := ext_le1 (tagL L x) (tagT L x y)
  refine ⟨_, _, rfl, rfl, plc_lt _ _, ?_, ?_⟩ <;> unfold tagL at * <;> omega
theorem sh_k21 (n : Int) (h : 0 ≤ n) (x : Int) : shape (4, n, [x]) = 0 := sh_kdf n x h
set_option maxHeartbeats 32000000 in
theorem exact18_low (v : Value) (x y z : Int) (S : List St) (w : World) (H1 : Hid (Steps w v S)) : Calls Try.prog 6 #[v, .int .i64 x, .int .i64 y, .int .i64 z] w fun e w' => e = .returned (.bool true) ∧ Below w.heap.size w w' := by
  go_enter Try.func6, Try.ntmps6
  go_wp2_with (first
    | (go_at_call 17; refine (heavy_ok H1.out).mono ?_; rintro ev w ⟨rfl, r1, rfl, hr⟩; have R1 := (show Hid _ from hr); clear hr)
    | (go_at_call 20; refine (pairs_ok H1.out (R1.out (by first | assumption | simpa using ‹¬ r1 = true›)).2).mono ?_; rintro ev w1 ⟨pb, aa, bb, M0, rfl, P0, hL⟩; have a0 := P0.c0; have a1 := P0.c1; clear R1))
  · go_ret
    exact ⟨rfl, Below.refl _ _⟩
  by_cases hx : 0 ≤ x ∧ x < (M0.length : Int)
  rotate_left
  · have Hx := (show Hid (¬ (0 ≤ x ∧ x < (M0.length : Int))) from hx)
    clear hx
    have HP0 := (show Hid _ from put_out (L := M0) (t := (3, 0, [x, y])) (sh_hash _ (by simp)) (fun h => Hx.out (h x (by simp))))
    have HP1 := (show Hid _ from put_out (L := M0) (t := (3, 0, [x, y, z])) (sh_hash _ (by simp)) (fun h => Hx.out (h x (by simp))))
    have HP3 := (show Hid _ from put_out (L := M0) (t := (3, 0, [x, y])) (sh_hash _ (by simp)) (fun h => Hx.out (h x (by simp))))
    have HP4 := (show Hid _ from put_out (L := M0) (t := (4, 21, [x])) (sh_kdf _ _ (by omega)) (fun h => Hx.out (h x (by simp))))
    have HP5 := (show Hid _ from put_out (L := M0) (t := (4, 25, [x])) (sh_kdf _ _ (by omega)) (fun h => Hx.out (h x (by simp))))
    have HP6 := (show Hid _ from put_out (L := M0) (t := (3, 0, [x])) (sh_hash _ (by simp)) (fun h => Hx.out (h x (by simp))))
    go_wp2_with (first
      | (go_at_call 21; refine (P0.onA (Q := fun e _ => e = .returned (.tuple #[.int .i64 0, .int .i64 8])) (fun G' O => joiner_on O x y HP0.out)).mono ?_; rintro ev w2 ⟨rfl, Pa0⟩; clear P0 a0)
      | (go_at_call 22; have t1 := Pa0; refine (nodes_out (Pa0.alloc _) (reads_lit [x, y] rfl rfl _).rdw (by simp) (fun h => Hx.out (h x (by simp)))).mono ?_; rintro ev w3 ⟨rfl, Pb0⟩; clear Pa0 t1)
      | (go_at_call 24; have t1 := Pb0; refine (like_no _ _ _ (by decide)).mono ?_; rintro ev w5 ⟨rfl, rfl⟩; have P1 := Pb0; have a0 := P1.c0; clear Pb0 t1)
      | (go_at_call 25; refine (P1.onA (Q := fun e _ => e = .returned (.tuple #[.int .i64 0, .int .i64 8])) (fun G' O => secret_on O x y z HP1.out)).mono ?_; rintro ev w2 ⟨rfl, Pa1⟩; clear P1 a0)
      | (go_at_call 22; have t1 := Pa1; refine (nodes_out (Pa1.alloc _) (reads_lit [x, y, z] rfl rfl _).rdw (by simp) (fun h => Hx.out (h x (by simp)))).mono ?_; rintro ev w3 ⟨rfl, Pb1⟩; clear Pa1 t1)
      | (go_at_call 24; have t1 := Pb1; refine (like_no _ _ _ (by decide)).mono ?_; rintro ev w5 ⟨rfl, rfl⟩; have P2 := Pb1; have a0 := P2.c0; clear Pb1 t1)
      | (go_at_call 27; refine (P2.onA (Q := fun e _ => e = .returned (.tuple #[.int .i64 0, .int .i64 8])) (fun G' O => tag_no O x y (fun h => Hx.out (h x (by simp))))).mono ?_; rintro ev w2 ⟨rfl, Pa2⟩; clear P2 a0)
      | (go_at_call 22; have t1 := Pa2; refine (nodes_out (Pa2.alloc _) (reads_lit [x, y] rfl rfl _).rdw (by simp) (fun h => Hx.out (h x (by simp)))).mono ?_; rintro ev w3 ⟨rfl, Pb2⟩; clear Pa2 t1)
      | (go_at_call 24; have t1 := Pb2; refine (like_no _ _ _ (by decide)).mono ?_; rintro ev w5 ⟨rfl, rfl⟩; have P3 := Pb2; have a0 := P3.c0; clear Pb2 t1)
      | (go_at_call 29; refine (P3.onA (Q := fun e _ => e = .returned (.tuple #[.int .i64 0, .int .i64 8])) (fun G' O => history_on O x y HP3.out)).mono ?_; rintro ev w2 ⟨rfl, Pa3⟩; clear P3 a0)
      | (go_at_call 24; have t1 := Pa3; refine (like_no _ _ _ (by decide)).mono ?_; rintro ev w5 ⟨rfl, rfl⟩; have P4 := Pa3; have a0 := P4.c0; clear Pa3 t1)
      | (go_at_call 31; refine (P4.onA (Q := fun e _ => e = .returned (.tuple #[.int .i64 0, .int .i64 8])) (fun G' O => start_on O x HP4.out)).mono ?_; rintro ev w2 ⟨rfl, Pa4⟩; clear P4 a0)
      | (go_at_call 22; have t1 := Pa4; refine (nodes_out (Pa4.alloc _) (reads_lit [x] rfl rfl _).rdw (by simp) (fun h => Hx.out (h x (by simp)))).mono ?_; rintro ev w3 ⟨rfl, Pb4⟩; clear Pa4 t1)
      | (go_at_call 24; have t1 := Pb4; refine (like_no _ _ _ (by decide)).mono ?_; rintro ev w5 ⟨rfl, rfl⟩; have P5 := Pb4; have a0 := P5.c0; clear Pb4 t1)
      | (go_at_call 33; refine (P5.onA (Q := fun e _ => e = .returned (.tuple #[.int .i64 0, .int .i64 8])) (fun G' O => register_on O x HP5.out)).mono ?_; rintro ev w2 ⟨rfl, Pa5⟩; clear P5 a0)
      | (go_at_call 24; have t1 := Pa5; refine (like_no _ _ _ (by decide)).mono ?_; rintro ev w5 ⟨rfl, rfl⟩; have P6 := Pa5; have a0 := P6.c0; clear Pa5 t1)
      | (go_at_call 34; refine (P6.onA (Q := fun e _ => e = .returned (.tuple #[.int .i64 0, .int .i64 8])) (fun G' O => first_on O x HP6.out)).mono ?_; rintro ev w2 ⟨rfl, Pa6⟩; clear P6 a0)
      | (go_at_call 24; have t1 := Pa6; refine (like_no _ _ _ (by decide)).mono ?_; rintro ev w5 ⟨rfl, rfl⟩; have P7 := Pa6; have a0 := P7.c0; clear Pa6 t1)
      | (go_at_call 35; refine (wakes18_ok _).mono ?_; rintro ev w10 ⟨rfl, B10⟩))
    go_ret
    exact ⟨rfl, P7.below.trans (B10.mono P7.below.size)⟩
  obtain ⟨x, rfl⟩ : ∃ q : Nat, x = q := ⟨x.toNat, by omega⟩
  have hxL : x < M0.length := by omega
  clear hx
  by_cases hy : 0 ≤ y ∧ y < (M0.length : Int)
  rotate_left
  · have Hy := (show Hid (¬ (0 ≤ y ∧ y < (M0.length : Int))) from hy)
    clear hy
    have HP0 := (show Hid _ from put_out (L := M0) (t := (3, 0, [(x : Int), y])) (sh_hash _ (by simp)) (fun h => Hy.out (h y (by simp))))
    have HP1 := (show Hid _ from put_out (L := M0) (t := (3, 0, [(x : Int), y, z])) (sh_hash _ (by simp)) (fun h => Hy.out (h y (by simp))))
    have HP3 := (show Hid _ from put_out (L := M0) (t := (3, 0, [(x : Int), y])) (sh_hash _ (by simp)) (fun h => Hy.out (h y (by simp))))
    obtain ⟨q4, M1, hp4, hq4, hb4, hc4⟩ := st_one (L := M0) (t := (4, 21, [(x : Int)])) (sh_kdf _ _ (by omega)) (fun zz hz => by simp at hz; omega) (by omega)
    have HP4 := (show Hid _ from hp4)
    clear hp4
    obtain ⟨q5, M2, hp5, hq5, hb5, hc5⟩ := st_one (L := M1) (t := (4, 25, [(x : Int)])) (sh_kdf _ _ (by omega)) (fun zz hz => by simp at hz; omega) (by omega)
    have HP5 := (show Hid _ from hp5)
    clear hp5
    obtain ⟨q6, M3, hp6, hq6, hb6, hc6⟩ := st_one (L := M2) (t := (3, 0, [(x : Int)])) (sh_hash _ (by simp)) (fun zz hz => by simp at hz; omega) (by omega)
    have HP6 := (show Hid _ from hp6)
    clear hp6
    go_wp2_with (first
      | (go_at_call 21; refine (P0.onA (Q := fun e _ => e = .returned (.tuple #[.int .i64 0, .int .i64 8])) (fun G' O => joiner_on O (x : Int) y HP0.out)).mono ?_; rintro ev w2 ⟨rfl, Pa0⟩; clear P0 a0)
      | (go_at_call 22; have t1 := Pa0; refine (nodes_out (Pa0.alloc _) (reads_lit [(x : Int), y] rfl rfl _).rdw (by simp) (fun h => Hy.out (h y (by simp)))).mono ?_; rintro ev w3 ⟨rfl, Pb0⟩; clear Pa0 t1)
      | (go_at_call 24; have t1 := Pb0; refine (like_no _ _ _ (by decide)).mono ?_; rintro ev w5 ⟨rfl, rfl⟩; have P1 := Pb0; have a0 := P1.c0; clear Pb0 t1)
      | (go_at_call 25; refine (P1.onA (Q := fun e _ => e = .returned (.tuple #[.int .i64 0, .int .i64 8])) (fun G' O => secret_on O (x : Int) y z HP1.out)).mono ?_; rintro ev w2 ⟨rfl, Pa1⟩; clear P1 a0)
      | (go_at_call 22; have t1 := Pa1; refine (nodes_out (Pa1.alloc _) (reads_lit [(x : Int), y, z] rfl rfl _).rdw (by simp) (fun h => Hy.out (h y (by simp)))).mono ?_; rintro ev w3 ⟨rfl, Pb1⟩; clear Pa1 t1)
      | (go_at_call 24; have t1 := Pb1; refine (like_no _ _ _ (by decide)).mono ?_; rintro ev w5 ⟨rfl, rfl⟩; have P2 := Pb1; have a0 := P2.c0; clear Pb1 t1)
      | (go_at_call 27; refine (P2.onA (Q := fun e _ => e = .returned (.tuple #[.int .i64 0, .int .i64 8])) (fun G' O => tag_no O (x : Int) y (fun h => Hy.out (h y (by simp))))).mono ?_; rintro ev w2 ⟨rfl, Pa2⟩; clear P2 a0)
      | (go_at_call 22; have t1 := Pa2; refine (nodes_out (Pa2.alloc _) (reads_lit [(x : Int), y] rfl rfl _).rdw (by simp) (fun h => Hy.out (h y (by simp)))).mono ?_; rintro ev w3 ⟨rfl, Pb2⟩; clear Pa2 t1)
      | (go_at_call 24; have t1 := Pb2; refine (like_no _ _ _ (by decide)).mono ?_; rintro ev w5 ⟨rfl, rfl⟩; have P3 := Pb2; have a0 := P3.c0; clear Pb2 t1)
      | (go_at_call 29; refine (P3.onA (Q := fun e _ => e = .returned (.tuple #[.int .i64 0, .int .i64 8])) (fun G' O => history_on O (x : Int) y HP3.out)).mono ?_; rintro ev w2 ⟨rfl, Pa3⟩; clear P3 a0)
      | (go_at_call 24; have t1 := Pa3; refine (like_no _ _ _ (by decide)).mono ?_; rintro ev w5 ⟨rfl, rfl⟩; have P4 := Pa3; have a0 := P4.c0; clear Pa3 t1)
      | (go_at_call 31; refine (P4.onA (Q := fun e _ => e = .returned (.tuple #[.int .i64 q4, .int .i64 0])) (fun G' O => start_on O (x : Int) HP4.out)).mono ?_; rintro ev w2 ⟨rfl, Pa4⟩; clear P4 a0)
      | (go_at_call 22; have t1 := Pa4; refine (nodes_in (Pa4.alloc _) (reads_lit [(x : Int)] rfl rfl _).rdw (by simp) (fun zz hz => by simp at hz; omega)).mono ?_; rintro ev w3 ⟨rfl, Pb4⟩; clear Pa4 t1)
      | (go_at_call 32; have t1 := Pb4; refine (Pb4.onB (Q := fun e _ => e = .returned (.int .i64 q4)) hb4 (fun G' O => pkdf_pn O (x : Int) 21 (by omega) HP4.out)).mono ?_; rintro ev w4 ⟨rfl, Pc4⟩; clear Pb4 t1)
      | (go_at_call 24; have t1 := Pc4; refine (like_ok Pc4 (by omega) _ hq4).mono ?_; rintro ev w5 ⟨rfl, m4, P5⟩; have a0 := P5.c0; clear Pc4 t1)
      | (go_at_call 33; refine (P5.onA (Q := fun e _ => e = .returned (.tuple #[.int .i64 q5, .int .i64 0])) (fun G' O => register_on O (x : Int) HP5.out)).mono ?_; rintro ev w2 ⟨rfl, Pa5⟩; clear P5 a0)
      | (go_at_call 32; have t1 := Pa5; refine (Pa5.onB (Q := fun e _ => e = .returned (.int .i64 q5)) hb5 (fun G' O => pkdf_pn O (x : Int) 25 (by omega) HP5.out)).mono ?_; rintro ev w4 ⟨rfl, Pc5⟩; clear Pa5 t1)
      | (go_at_call 24; have t1 := Pc5; refine (like_ok Pc5 (by omega) _ hq5).mono ?_; rintro ev w5 ⟨rfl, m5, P6⟩; have a0 := P6.c0; clear Pc5 t1)
      | (go_at_call 34; refine (P6.onA (Q := fun e _ => e = .returned (.tuple #[.int .i64 q6, .int .i64 0])) (fun G' O => first_on O (x : Int) HP6.out)).mono ?_; rintro ev w2 ⟨rfl, Pa6⟩; clear P6 a0)
      | (go_at_call 30; have t1 := Pa6; refine ((Pa6.alloc (.cells #[.int .i64 x] 3)).onB (Q := fun e _ => e = .returned (.int .i64 q6)) hb6 (fun G' O => pmake_pn O 3 0 (reads_lit [(x : Int)] rfl rfl _).rdw (nilcap_some _ _ _) (by omega) HP6.out)).mono ?_; rintro ev w4 ⟨rfl, Pc6⟩; clear Pa6 t1)
      | (go_at_call 24; have t1 := Pc6; refine (like_ok Pc6 (by omega) _ hq6).mono ?_; rintro ev w5 ⟨rfl, m6, P7⟩; have a0 := P7.c0; clear Pc6 t1)
      | (go_at_call 35; refine (wakes18_ok _).mono ?_; rintro ev w10 ⟨rfl, B10⟩))
    go_ret
    exact ⟨rfl, P7.below.trans (B10.mono P7.below.size)⟩
  obtain ⟨y, rfl⟩ : ∃ q : Nat, y = q := ⟨y.toNat, by omega⟩
  have hyL : y < M0.length := by omega
  clear hy
  obtain ⟨q0, M1, hp0, hq0, hb0, hc0⟩ := st_one (L := M0) (t := (3, 0, [(x : Int), (y : Int)])) (sh_hash _ (by simp)) (fun zz hz => by simp at hz; omega) (by omega)
  have HP0 := (show Hid _ from hp0)
  clear hp0
  by_cases hz : 0 ≤ z ∧ z < (M1.length : Int)
  rotate_left
  · have Hz := (show Hid (¬ (0 ≤ z ∧ z < (M1.length : Int))) from hz)
    clear hz
    have HP1 := (show Hid _ from put_out (L := M1) (t := (3, 0, [(x : Int), (y : Int), z])) (sh_hash _ (by simp)) (fun h => Hz.out (h z (by simp))))
    obtain ⟨q2, M2, ha2, hm2, hq2, hb2, hc2⟩ := st_tag M1 x y
    have HA2 := (show Hid _ from ha2)
    have HM2 := (show Hid _ from hm2)
    clear ha2 hm2
    obtain ⟨q3, M3, hp3, hq3, hb3, hc3⟩ := st_one (L := M2) (t := (3, 0, [(x : Int), (y : Int)])) (sh_hash _ (by simp)) (fun zz hz => by simp at hz; omega) (by omega)
    have HP3 := (show Hid _ from hp3)
    clear hp3
    obtain ⟨q4, M4, hp4, hq4, hb4, hc4⟩ := st_one (L := M3) (t := (4, 21, [(x : Int)])) (sh_kdf _ _ (by omega)) (fun zz hz => by simp at hz; omega) (by omega)
    have HP4 := (show Hid _ from hp4)
    clear hp4
    obtain ⟨q5, M5, hp5, hq5, hb5, hc5⟩ := st_one (L := M4) (t := (4, 25, [(x : Int)])) (sh_kdf _ _ (by omega)) (fun zz hz => by simp at hz; omega) (by omega)
    have HP5 := (show Hid _ from hp5)
    clear hp5
    obtain ⟨q6, M6, hp6, hq6, hb6, hc6⟩ := st_one (L := M5) (t := (3, 0, [(x : Int)])) (sh_hash _ (by simp)) (fun zz hz => by simp at hz; omega) (by omega)
    have HP6 := (show Hid _ from hp6)
    clear hp6
    go_wp2_with (first
      | (go_at_call 21; refine (P0.onA (Q := fun e _ => e = .returned (.tuple #[.int .i64 q0, .int .i64 0])) (fun G' O => joiner_on O (x : Int) (y : Int) HP0.out)).mono ?_; rintro ev w2 ⟨rfl, Pa0⟩; clear P0 a0)
      | (go_at_call 22; have t1 := Pa0; refine (nodes_in (Pa0.alloc _) (reads_lit [(x : Int), (y : Int)] rfl rfl _).rdw (by simp) (fun zz hz => by simp at hz; omega)).mono ?_; rintro ev w3 ⟨rfl, Pb0⟩; clear Pa0 t1)
      | (go_at_call 23; refine (Pb0.onB (Q := fun e _ => e = .returned (.int .i64 q0)) hb0 (fun G' O => joiner_pn O (x : Int) (y : Int) HP0.out)).mono ?_; rintro ev w4 ⟨rfl, Pc0⟩; clear Pb0)
      | (go_at_call 24; have t1 := Pc0; refine (like_ok Pc0 (by omega) _ hq0).mono ?_; rintro ev w5 ⟨rfl, m0, P1⟩; have a0 := P1.c0; clear Pc0 t1)
      | (go_at_call 25; refine (P1.onA (Q := fun e _ => e = .returned (.tuple #[.int .i64 0, .int .i64 8])) (fun G' O => secret_on O (x : Int) (y : Int) z HP1.out)).mono ?_; rintro ev w2 ⟨rfl, Pa1⟩; clear P1 a0)
      | (go_at_call 22; have t1 := Pa1; refine (nodes_out (Pa1.alloc _) (reads_lit [(x : Int), (y : Int), z] rfl rfl _).rdw (by simp) (fun h => Hz.out (h z (by simp)))).mono ?_; rintro ev w3 ⟨rfl, Pb1⟩; clear Pa1 t1)
      | (go_at_call 24; have t1 := Pb1; refine (like_no _ _ _ (by decide)).mono ?_; rintro ev w5 ⟨rfl, rfl⟩; have P2 := Pb1; have a0 := P2.c0; clear Pb1 t1)
      | (go_at_call 27; refine (P2.onA (Q := fun e _ => e = .returned (.tuple #[.int .i64 q2, .int .i64 0])) (fun G' O => tag_at O x y (by omega) (by omega) (by omega) HA2.out HM2.out)).mono ?_; rintro ev w2 ⟨rfl, Pa2⟩; clear P2 a0)
      | (go_at_call 22; have t1 := Pa2; refine (nodes_in (Pa2.alloc _) (reads_lit [(x : Int), (y : Int)] rfl rfl _).rdw (by simp) (fun zz hz => by simp at hz; omega)).mono ?_; rintro ev w3 ⟨rfl, Pb2⟩; clear Pa2 t1)
      | (go_at_call 28; refine (Pb2.onB (Q := fun e _ => e = .returned (.int .i64 q2)) hb2 (fun G' O => tag_pn_at O x y (by omega) (by omega) (by omega) HA2.out HM2.out)).mono ?_; rintro ev w4 ⟨rfl, Pc2⟩; clear Pb2)
      | (go_at_call 24; have t1 := Pc2; refine (like_ok Pc2 (by omega) _ hq2).mono ?_; rintro ev w5 ⟨rfl, m2, P3⟩; have a0 := P3.c0; clear Pc2 t1)
      | (go_at_call 29; refine (P3.onA (Q := fun e _ => e = .returned (.tuple #[.int .i64 q3, .int .i64 0])) (fun G' O => history_on O (x : Int) (y : Int) HP3.out)).mono ?_; rintro ev w2 ⟨rfl, Pa3⟩; clear P3 a0)
      | (go_at_call 30; have t1 := Pa3; refine ((Pa3.alloc (.cells #[.int .i64 x, .int .i64 y] 3)).onB (Q := fun e _ => e = .returned (.int .i64 q3)) hb3 (fun G' O => pmake_pn O 3 0 (reads_lit [(x : Int), (y : Int)] rfl rfl _).rdw (nilcap_some _ _ _) (by omega) HP3.out)).mono ?_; rintro ev w4 ⟨rfl, Pc3⟩; clear Pa3 t1)
      | (go_at_call 24; have t1 := Pc3; refine (like_ok Pc3 (by omega) _ hq3).mono ?_; rintro ev w5 ⟨rfl, m3, P4⟩; have a0 := P4.c0; clear Pc3 t1)
      | (go_at_call 31; refine (P4.onA (Q := fun e _ => e = .returned (.tuple #[.int .i64 q4, .int .i64 0])) (fun G' O => start_on O (x : Int) HP4.out)).mono ?_; rintro ev w2 ⟨rfl, Pa4⟩; clear P4 a0)
      | (go_at_call 22; have t1 := Pa4; refine (nodes_in (Pa4.alloc _) (reads_lit [(x : Int)] rfl rfl _).rdw (by simp) (fun zz hz => by simp at hz; omega)).mono ?_; rintro ev w3 ⟨rfl, Pb4⟩; clear Pa4 t1)
      | (go_at_call 32; have t1 := Pb4; refine (Pb4.onB (Q := fun e _ => e = .returned (.int .i64 q4)) hb4 (fun G' O => pkdf_pn O (x : Int) 21 (by omega) HP4.out)).mono ?_; rintro ev w4 ⟨rfl, Pc4⟩; clear Pb4 t1)
      | (go_at_call 24; have t1 := Pc4; refine (like_ok Pc4 (by omega) _ hq4).mono ?_; rintro ev w5 ⟨rfl, m4, P5⟩; have a0 := P5.c0; clear Pc4 t1)
      | (go_at_call 33; refine (P5.onA (Q := fun e _ => e = .returned (.tuple #[.int .i64 q5, .int .i64 0])) (fun G' O => register_on O (x : Int) HP5.out)).mono ?_; rintro ev w2 ⟨rfl, Pa5⟩; clear P5 a0)
      | (go_at_call 32; have t1 := Pa5; refine (Pa5.onB (Q := fun e _ => e = .returned (.int .i64 q5)) hb5 (fun G' O => pkdf_pn O (x : Int) 25 (by omega) HP5.out)).mono ?_; rintro ev w4 ⟨rfl, Pc5⟩; clear Pa5 t1)
      | (go_at_call 24; have t1 := Pc5; refine (like_ok Pc5 (by omega) _ hq5).mono ?_; rintro ev w5 ⟨rfl, m5, P6⟩; have a0 := P6.c0; clear Pc5 t1)
      | (go_at_call 34; refine (P6.onA (Q := fun e _ => e = .returned (.tuple #[.int .i64 q6, .int .i64 0])) (fun G' O => first_on O (x : Int) HP6.out)).mono ?_; rintro ev w2 ⟨rfl, Pa6⟩; clear P6 a0)
      | (go_at_call 30; have t1 := Pa6; refine ((Pa6.alloc (.cells #[.int .i64 x] 3)).onB (Q := fun e _ => e = .returned (.int .i64 q6)) hb6 (fun G' O => pmake_pn O 3 0 (reads_lit [(x : Int)] rfl rfl _).rdw (nilcap_some _ _ _) (by omega) HP6.out)).mono ?_; rintro ev w4 ⟨rfl, Pc6⟩; clear Pa6 t1)
      | (go_at_call 24; have t1 := Pc6; refine (like_ok Pc6 (by omega) _ hq6).mono ?_; rintro ev w5 ⟨rfl, m6, P7⟩; have a0 := P7.c0; clear Pc6 t1)
      | (go_at_call 35; refine (wakes18_ok _).mono ?_; rintro ev w10 ⟨rfl, B10⟩))
    go_ret
    exact ⟨rfl, P7.below.trans (B10.mono P7.below.size)⟩
  obtain ⟨z, rfl⟩ : ∃ q : Nat, z = q := ⟨z.toNat, by omega⟩
  have hzL : z < M1.length := by omega
  clear hz
  obtain ⟨q1, M2, hp1, hq1, hb1, hc1⟩ := st_one (L := M1) (t := (3, 0, [(x : Int), (y : Int), (z : Int)])) (sh_hash _ (by simp)) (fun zz hz => by simp at hz; omega) (by omega)
  have HP1 := (show Hid _ from hp1)
  clear hp1
  obtain ⟨q2, M3, ha2, hm2, hq2, hb2, hc2⟩ := st_tag M2 x y
  have HA2 := (show Hid _ from ha2)
  have HM2 := (show Hid _ from hm2)
  clear ha2 hm2
  obtain ⟨q3, M4, hp3, hq3, hb3, hc3⟩ := st_one (L := M3) (t := (3, 0, [(x : Int), (y : Int)])) (sh_hash _ (by simp)) (fun zz hz => by simp at hz; omega) (by omega)
  have HP3 := (show Hid _ from hp3)
  clear hp3
  obtain ⟨q4, M5, hp4, hq4, hb4, hc4⟩ := st_one (L := M4) (t := (4, 21, [(x : Int)])) (sh_kdf _ _ (by omega)) (fun zz hz => by simp at hz; omega) (by omega)
  have HP4 := (show Hid _ from hp4)
  clear hp4
  obtain ⟨q5, M6, hp5, hq5, hb5, hc5⟩ := st_one (L := M5) (t := (4, 25, [(x : Int)])) (sh_kdf _ _ (by omega)) (fun zz hz => by simp at hz; omega) (by omega)
  have HP5 := (show Hid _ from hp5)
  clear hp5
  obtain ⟨q6, M7, hp6, hq6, hb6, hc6⟩ := st_one (L := M6) (t := (3, 0, [(x : Int)])) (sh_hash _ (by simp)) (fun zz hz => by simp at hz; omega) (by omega)
  have HP6 := (show Hid _ from hp6)
  clear hp6
  go_wp2_with (first
    | (go_at_call 21; refine (P0.onA (Q := fun e _ => e = .returned (.tuple #[.int .i64 q0, .int .i64 0])) (fun G' O => joiner_on O (x : Int) (y : Int) HP0.out)).mono ?_; rintro ev w2 ⟨rfl, Pa0⟩; clear P0 a0)
    | (go_at_call 22; have t1 := Pa0; refine (nodes_in (Pa0.alloc _) (reads_lit [(x : Int), (y : Int)] rfl rfl _).rdw (by simp) (fun zz hz => by simp at hz; omega)).mono ?_; rintro ev w3 ⟨rfl, Pb0⟩; clear Pa0 t1)
    | (go_at_call 23; refine (Pb0.onB (Q := fun e _ => e = .returned (.int .i64 q0)) hb0 (fun G' O => joiner_pn O (x : Int) (y : Int) HP0.out)).mono ?_; rintro ev w4 ⟨rfl, Pc0⟩; clear Pb0)
    | (go_at_call 24; have t1 := Pc0; refine (like_ok Pc0 (by omega) _ hq0).mono ?_; rintro ev w5 ⟨rfl, m0, P1⟩; have a0 := P1.c0; clear Pc0 t1)
    | (go_at_call 25; refine (P1.onA (Q := fun e _ => e = .returned (.tuple #[.int .i64 q1, .int .i64 0])) (fun G' O => secret_on O (x : Int) (y : Int) (z : Int) HP1.out)).mono ?_; rintro ev w2 ⟨rfl, Pa1⟩; clear P1 a0)
    | (go_at_call 22; have t1 := Pa1; refine (nodes_in (Pa1.alloc _) (reads_lit [(x : Int), (y : Int), (z : Int)] rfl rfl _).rdw (by simp) (fun zz hz => by simp at hz; omega)).mono ?_; rintro ev w3 ⟨rfl, Pb1⟩; clear Pa1 t1)
    | (go_at_call 26; refine (Pb1.onB (Q := fun e _ => e = .returned (.int .i64 q1)) hb1 (fun G' O => secret_pn O (x : Int) (y : Int) (z : Int) HP1.out)).mono ?_; rintro ev w4 ⟨rfl, Pc1⟩; clear Pb1)
    | (go_at_call 24; have t1 := Pc1; refine (like_ok Pc1 (by omega) _ hq1).mono ?_; rintro ev w5 ⟨rfl, m1, P2⟩; have a0 := P2.c0; clear Pc1 t1)
    | (go_at_call 27; refine (P2.onA (Q := fun e _ => e = .returned (.tuple #[.int .i64 q2, .int .i64 0])) (fun G' O => tag_at O x y (by omega) (by omega) (by omega) HA2.out HM2.out)).mono ?_; rintro ev w2 ⟨rfl, Pa2⟩; clear P2 a0)
    | (go_at_call 22; have t1 := Pa2; refine (nodes_in (Pa2.alloc _) (reads_lit [(x : Int), (y : Int)] rfl rfl _).rdw (by simp) (fun zz hz => by simp at hz; omega)).mono ?_; rintro ev w3 ⟨rfl, Pb2⟩; clear Pa2 t1)
    | (go_at_call 28; refine (Pb2.onB (Q := fun e _ => e = .returned (.int .i64 q2)) hb2 (fun G' O => tag_pn_at O x y (by omega) (by omega) (by omega) HA2.out HM2.out)).mono ?_; rintro ev w4 ⟨rfl, Pc2⟩; clear Pb2)
    | (go_at_call 24; have t1 := Pc2; refine (like_ok Pc2 (by omega) _ hq2).mono ?_; rintro ev w5 ⟨rfl, m2, P3⟩; have a0 := P3.c0; clear Pc2 t1)
    | (go_at_call 29; refine (P3.onA (Q := fun e _ => e = .returned (.tuple #[.int .i64 q3, .int .i64 0])) (fun G' O => history_on O (x : Int) (y : Int) HP3.out)).mono ?_; rintro ev w2 ⟨rfl, Pa3⟩; clear P3 a0)
    | (go_at_call 30; have t1 := Pa3; refine ((Pa3.alloc (.cells #[.int .i64 x, .int .i64 y] 3)).onB (Q := fun e _ => e = .returned (.int .i64 q3)) hb3 (fun G' O => pmake_pn O 3 0 (reads_lit [(x : Int), (y : Int)] rfl rfl _).rdw (nilcap_some _ _ _) (by omega) HP3.out)).mono ?_; rintro ev w4 ⟨rfl, Pc3⟩; clear Pa3 t1)
    | (go_at_call 24; have t1 := Pc3; refine (like_ok Pc3 (by omega) _ hq3).mono ?_; rintro ev w5 ⟨rfl, m3, P4⟩; have a0 := P4.c0; clear Pc3 t1)
    | (go_at_call 31; refine (P4.onA (Q := fun e _ => e = .returned (.tuple #[.int .i64 q4, .int .i64 0])) (fun G' O => start_on O (x : Int) HP4.out)).mono ?_; rintro ev w2 ⟨rfl, Pa4⟩; clear P4 a0)
    | (go_at_call 22; have t1 := Pa4; refine (nodes_in (Pa4.alloc _) (reads_lit [(x : Int)] rfl rfl _).rdw (by simp) (fun zz hz => by simp at hz; omega)).mono ?_; rintro ev w3 ⟨rfl, Pb4⟩; clear Pa4 t1)
    | (go_at_call 32; have t1 := Pb4; refine (Pb4.onB (Q := fun e _ => e = .returned (.int .i64 q4)) hb4 (fun G' O => pkdf_pn O (x : Int) 21 (by omega) HP4.out)).mono ?_; rintro ev w4 ⟨rfl, Pc4⟩; clear Pb4 t1)
    | (go_at_call 24; have t1 := Pc4; refine (like_ok Pc4 (by omega) _ hq4).mono ?_; rintro ev w5 ⟨rfl, m4, P5⟩; have a0 := P5.c0; clear Pc4 t1)
    | (go_at_call 33; refine (P5.onA (Q := fun e _ => e = .returned (.tuple #[.int .i64 q5, .int .i64 0])) (fun G' O => register_on O (x : Int) HP5.out)).mono ?_; rintro ev w2 ⟨rfl, Pa5⟩; clear P5 a0)
    | (go_at_call 32; have t1 := Pa5; refine (Pa5.onB (Q := fun e _ => e = .returned (.int .i64 q5)) hb5 (fun G' O => pkdf_pn O (x : Int) 25 (by omega) HP5.out)).mono ?_; rintro ev w4 ⟨rfl, Pc5⟩; clear Pa5 t1)
    | (go_at_call 24; have t1 := Pc5; refine (like_ok Pc5 (by omega) _ hq5).mono ?_; rintro ev w5 ⟨rfl, m5, P6⟩; have a0 := P6.c0; clear Pc5 t1)
    | (go_at_call 34; refine (P6.onA (Q := fun e _ => e = .returned (.tuple #[.int .i64 q6, .int .i64 0])) (fun G' O => first_on O (x : Int) HP6.out)).mono ?_; rintro ev w2 ⟨rfl, Pa6⟩; clear P6 a0)
    | (go_at_call 30; have t1 := Pa6; refine ((Pa6.alloc (.cells #[.int .i64 x] 3)).onB (Q := fun e _ => e = .returned (.int .i64 q6)) hb6 (fun G' O => pmake_pn O 3 0 (reads_lit [(x : Int)] rfl rfl _).rdw (nilcap_some _ _ _) (by omega) HP6.out)).mono ?_; rintro ev w4 ⟨rfl, Pc6⟩; clear Pa6 t1)
    | (go_at_call 24; have t1 := Pc6; refine (like_ok Pc6 (by omega) _ hq6).mono ?_; rintro ev w5 ⟨rfl, m6, P7⟩; have a0 := P7.c0; clear Pc6 t1)
    | (go_at_call 35; refine (wakes18_ok _).mono ?_; rintro ev w10 ⟨rfl, B10⟩))
  go_ret
  exact ⟨rfl, P7.below.trans (B10.mono P7.below.size)⟩
end Go.Proofs.Ytjegjbolmhaglaa
