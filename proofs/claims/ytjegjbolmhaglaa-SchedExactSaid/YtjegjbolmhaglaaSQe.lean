/-
  SCHED: the page's calls over its own arena. Own work.
-/
import Derived.Test.YtjegjbolmhaglaaSQd
namespace Go.Proofs.Ytjegjbolmhaglaa
open Go.RowKit Go.Maps
set_option maxRecDepth 100000
attribute [local go_sem ↓] Go.wp_at_zero Go.wp_at_succ
theorem nilcap_some (a : Addr) (n c : Nat) : NilCap (.slice (some a) n c) := fun c' h => by cases h
theorem nilcap_nil : NilCap (.slice none 0 0) := fun c' h => by cases h; rfl
theorem rdw_nil (w : World) : RdW w (.slice none 0 0) [] := ⟨none, 0, rfl, .inl rfl⟩
section
variable {w wr w' : World} {aa bb : Nat} {L L' L1 : List Tm} {G G' : Nat → Prop}
set_option maxHeartbeats 1000000 in
theorem pmake_pn (T : Pn w wr bb L G) {p : Option Addr} {m c : Nat} {xs : List Int} (k n : Int) (hv : RdW wr (.slice p m c) xs) (hnil : NilCap (.slice p m c)) (hn : n < 9223372036854775808) {a s : Int} (hp : put L (k, n, xs) = (a, s, L1)) :
    Calls Try.prog 30 #[.pointer (some ⟨bb, 0, none⟩), .int .i64 k, .int .i64 n, .slice p m c] wr fun e w' => e = .returned (.int .i64 a) ∧ Pn w w' bb L1 G ∧ Stay G wr w' := by
  have HT := (show Hid _ from T)
  have HV := (show Hid _ from hv)
  have HN := (show Hid _ from hnil)
  have HP := (show Hid _ from hp)
  clear T hv hnil hp
  go_enter Try.func30, Try.ntmps30
  go_wp2_with (go_at_call 62; refine (put_pn HT.out k n HV.out HN.out hn HP.out).mono ?_; rintro ev w1 ⟨rfl, T1, K1⟩)
  go_ret
  exact ⟨rfl, T1, K1⟩
set_option maxHeartbeats 1000000 in
theorem pkdf_pn (T : Pn w wr bb L G) (x n : Int) (hn : n < 9223372036854775808) {a s : Int} (hp : put L (4, n, [x]) = (a, s, L1)) :
    Calls Try.prog 32 #[.pointer (some ⟨bb, 0, none⟩), .int .i64 x, .int .i64 n] wr fun e w' => e = .returned (.int .i64 a) ∧ Pn w w' bb L1 G ∧ Stay G wr w' := by
  have HT := (show Hid _ from T)
  have HP := (show Hid _ from hp)
  clear T hp
  go_enter Try.func32, Try.ntmps32
  go_wp2_with (go_at_call 30; refine (pmake_pn (HT.out.alloc _) 4 n (reads_lit [x] rfl rfl _).rdw (nilcap_some _ _ _) hn HP.out).mono ?_; rintro ev w1 ⟨rfl, T1, K1⟩)
  go_ret
  exact ⟨rfl, T1, (stay_alloc _ _).trans K1⟩
set_option maxHeartbeats 1000000 in
theorem pword_pn (T : Pn w wr bb L G) (n : Int) (hn : n < 9223372036854775808) {a s : Int} (hp : put L (2, n, []) = (a, s, L1)) :
    Calls Try.prog 72 #[.pointer (some ⟨bb, 0, none⟩), .int .i64 n] wr fun e w' => e = .returned (.int .i64 a) ∧ Pn w w' bb L1 G ∧ Stay G wr w' := by
  have HT := (show Hid _ from T)
  have HP := (show Hid _ from hp)
  clear T hp
  go_enter Try.func72, Try.ntmps72
  go_wp2_with (go_at_call 30; refine (pmake_pn HT.out 2 n (rdw_nil _) nilcap_nil hn HP.out).mono ?_; rintro ev w1 ⟨rfl, T1, K1⟩)
  go_ret
  exact ⟨rfl, T1, K1⟩
set_option maxHeartbeats 1000000 in
theorem joiner_pn (T : Pn w wr bb L G) (x y : Int) {a s : Int} (hp : put L (3, 0, [x, y]) = (a, s, L1)) :
    Calls Try.prog 23 #[.pointer (some ⟨bb, 0, none⟩), .int .i64 x, .int .i64 y] wr fun e w' => e = .returned (.int .i64 a) ∧ Pn w w' bb L1 G ∧ Stay G wr w' := by
  have HT := (show Hid _ from T)
  have HP := (show Hid _ from hp)
  clear T hp
  go_enter Try.func23, Try.ntmps23
  go_wp2_with (go_at_call 30; refine (pmake_pn (HT.out.alloc _) 3 0 (reads_lit [x, y] rfl rfl _).rdw (nilcap_some _ _ _) (by omega) HP.out).mono ?_; rintro ev w1 ⟨rfl, T1, K1⟩)
  go_ret
  exact ⟨rfl, T1, (stay_alloc _ _).trans K1⟩
set_option maxHeartbeats 1000000 in
theorem secret_pn (T : Pn w wr bb L G) (x y z : Int) {a s : Int} (hp : put L (3, 0, [x, y, z]) = (a, s, L1)) :
    Calls Try.prog 26 #[.pointer (some ⟨bb, 0, none⟩), .int .i64 x, .int .i64 y, .int .i64 z] wr fun e w' => e = .returned (.int .i64 a) ∧ Pn w w' bb L1 G ∧ Stay G wr w' := by
  have HT := (show Hid _ from T)
  have HP := (show Hid _ from hp)
  clear T hp
  go_enter Try.func26, Try.ntmps26
  go_wp2_with (go_at_call 30; refine (pmake_pn (HT.out.alloc _) 3 0 (reads_lit [x, y, z] rfl rfl _).rdw (nilcap_some _ _ _) (by omega) HP.out).mono ?_; rintro ev w1 ⟨rfl, T1, K1⟩)
  go_ret
  exact ⟨rfl, T1, (stay_alloc _ _).trans K1⟩
set_option maxHeartbeats 1000000 in
theorem tag_pn (T : Pn w wr bb L G) (x y : Nat) (hx : x < L.length) (hy : y < L.length) (hr : L.length + 20 < 1048576) :
    Calls Try.prog 28 #[.pointer (some ⟨bb, 0, none⟩), .int .i64 x, .int .i64 y] wr fun e w' => e = .returned (.int .i64 (plc (tagL L x) (tagT L x y))) ∧ Pn w w' bb (ext (tagL L x) (tagT L x y)) G ∧ Stay G wr w' := by
  have HT := (show Hid _ from T)
  have HP1 := (show Hid _ from put_good (L := L) (t := (4, 22, [(x : Int)])) (sh_kdf _ _ (by omega)) (fits1 hx) (by omega))
  have HP2 := (show Hid _ from tagT_ok (x := x) hy hr)
  clear T
  go_enter Try.func28, Try.ntmps28
  go_wp2_with (first
    | (go_at_call 32; refine (pkdf_pn HT.out x 22 (by omega) HP1.out).mono ?_; rintro ev w1 ⟨rfl, T1, K1⟩; clear HT)
    | (go_at_call 30; refine (pmake_pn (T1.alloc _) 3 0 (reads_lit [((plc L (4, 22, [(x : Int)]) : Nat) : Int), (y : Int)] rfl rfl _).rdw (nilcap_some _ _ _) (by omega) HP2.out).mono ?_; rintro ev w2 ⟨rfl, T2, K2⟩; clear T1))
  go_ret
  exact ⟨rfl, T2, K1.trans ((stay_alloc _ _).trans K2)⟩
set_option maxHeartbeats 2000000 in
theorem chain_pn (T : Pn w wr bb L G) (x : Nat) (i : Int) (h1 : 0 ≤ i ∧ i < 8) (hx : x < L.length) (hr : L.length + 20 < 1048576) :
    Calls Try.prog 38 #[.pointer (some ⟨bb, 0, none⟩), .int .i64 x, .int .i64 i] wr fun e w' => e = .returned (.int .i64 (plc (boundL L x 23 [i]) (boundT L x 23 [i]))) ∧ Pn w w' bb (ext (boundL L x 23 [i]) (boundT L x 23 [i])) G ∧ Stay G wr w' := by
  have HT := (show Hid _ from T)
  have hl1 := ext_le1 L (4, 23, [(x : Int)])
  have HP1 := (show Hid _ from put_good (L := L) (t := (4, 23, [(x : Int)])) (sh_kdf _ _ (by omega)) (fits1 hx) (by omega))
  have HP2 := (show Hid _ from put_good (L := ext L (4, 23, [(x : Int)])) (t := (2, i, [])) (sh_word _ h1.1) (fun _ h => by cases h) (by omega))
  have HP3 := (show Hid _ from boundT_ok (L := L) (x := x) (c := 23) (ns := [i]) (by simp) hr)
  clear T
  go_enter Try.func38, Try.ntmps38
  go_wp2_with (first
    | (go_at_call 32; refine (pkdf_pn HT.out x 23 (by omega) HP1.out).mono ?_; rintro ev w1 ⟨rfl, T1, K1⟩; clear HT)
    | (go_at_call 72; refine (pword_pn T1 i (by omega) HP2.out).mono ?_; rintro ev w2 ⟨rfl, T2, K2⟩; clear T1)
    | (go_at_call 30; refine (pmake_pn (T2.alloc _) 3 0 (reads_lit [((plc L (4, 23, [(x : Int)]) : Nat) : Int), ((plc (ext L (4, 23, [(x : Int)])) (2, i, []) : Nat) : Int)] rfl rfl _).rdw (nilcap_some _ _ _) (by omega) HP3.out).mono ?_; rintro ev w3 ⟨rfl, T3, K3⟩; clear T2))
  go_ret
  exact ⟨rfl, T3, K1.trans (K2.trans ((stay_alloc _ _).trans K3))⟩

set_option maxHeartbeats 4000000 in
theorem meet_pn_low (T : Pn w wr bb L G) (x : Nat) (i j round : Int) (h1 : 0 ≤ i ∧ i < 8) (h2 : 0 ≤ j ∧ j < 8) (h3 : 0 ≤ round) (h4 : round < 9223372036854775808) (hx : x < L.length) (hr : L.length + 20 < 1048576) (lo hi : Int) (hlo : Hid ((if j < i then j else i) = lo)) (hhi : Hid ((if i < j then j else i) = hi)) :
    Calls Try.prog 40 #[.pointer (some ⟨bb, 0, none⟩), .int .i64 x, .int .i64 i, .int .i64 j, .int .i64 round] wr fun e w' => e = .returned (.int .i64 (plc (boundL L x 24 [lo, hi, round]) (boundT L x 24 [lo, hi, round]))) ∧ Pn w w' bb (ext (boundL L x 24 [lo, hi, round]) (boundT L x 24 [lo, hi, round])) G ∧ Stay G wr w' := by
  have HT := (show Hid _ from T)
  have hl1 := ext_le1 L (4, 24, [(x : Int)])
  have hl2 := ext_le1 (ext L (4, 24, [(x : Int)])) (2, lo, [])
  have hl3 := ext_le1 (ext (ext L (4, 24, [(x : Int)])) (2, lo, [])) (2, hi, [])
  have hlo0 : 0 ≤ lo ∧ lo < 8 := by rw [← hlo.out]; split <;> omega
  have hhi0 : 0 ≤ hi ∧ hi < 8 := by rw [← hhi.out]; split <;> omega
  have HP1 := (show Hid _ from put_good (L := L) (t := (4, 24, [(x : Int)])) (sh_kdf _ _ (by omega)) (fits1 hx) (by omega))
  have HP2 := (show Hid _ from put_good (L := ext L (4, 24, [(x : Int)])) (t := (2, lo, [])) (sh_word _ hlo0.1) (fun _ h => by cases h) (by omega))
  have HP3 := (show Hid _ from put_good (L := ext (ext L (4, 24, [(x : Int)])) (2, lo, [])) (t := (2, hi, [])) (sh_word _ hhi0.1) (fun _ h => by cases h) (by omega))
  have HP4 := (show Hid _ from put_good (L := ext (ext (ext L (4, 24, [(x : Int)])) (2, lo, [])) (2, hi, [])) (t := (2, round, [])) (sh_word _ h3) (fun _ h => by cases h) (by omega))
  have HP5 := (show Hid _ from boundT_ok (L := L) (x := x) (c := 24) (ns := [lo, hi, round]) (by simp) hr)
  clear T
  go_enter Try.func40, Try.ntmps40
  go_wp2_with (first
    | (go_at_call 32; refine (pkdf_pn HT.out x 24 (by omega) HP1.out).mono ?_; rintro ev w1 ⟨rfl, T1, K1⟩; clear HT)
    | (go_at_call 72; have t1 := T1; rw [hlo.out]; refine (pword_pn T1 lo (by omega) HP2.out).mono ?_; rintro ev w2 ⟨rfl, T2, K2⟩; clear T1 t1)
    | (go_at_call 72; have t1 := T2; rw [hhi.out]; refine (pword_pn T2 hi (by omega) HP3.out).mono ?_; rintro ev w3 ⟨rfl, T3, K3⟩; clear T2 t1)
    | (go_at_call 72; refine (pword_pn T3 round (by omega) HP4.out).mono ?_; rintro ev w4 ⟨rfl, T4, K4⟩; clear T3)
    | (go_at_call 30; refine (pmake_pn (T4.alloc _) 3 0 (reads_lit [((plc L (4, 24, [(x : Int)]) : Nat) : Int), ((plc (ext L (4, 24, [(x : Int)])) (2, lo, []) : Nat) : Int), ((plc (ext (ext L (4, 24, [(x : Int)])) (2, lo, [])) (2, hi, []) : Nat) : Int), ((plc (ext (ext (ext L (4, 24, [(x : Int)])) (2, lo, [])) (2, hi, [])) (2, round, []) : Nat) : Int)] rfl rfl _).rdw (nilcap_some _ _ _) (by omega) HP5.out).mono ?_; rintro ev w5 ⟨rfl, T5, K5⟩; clear T4))
  all_goals (
    go_ret
    exact ⟨rfl, T5, K1.trans (K2.trans (K3.trans (K4.trans ((stay_alloc _ _).trans K5))))⟩)
set_option maxHeartbeats 1000000 in
theorem nodes_pn (T : Pn w wr bb L G) {p : Option Addr} {m c : Nat} {xs : List Int} (hv : RdW wr (.slice p m c) xs) (hn : xs.length ≤ 100000) : Calls Try.prog 22 #[.pointer (some ⟨bb, 0, none⟩), .slice p m c] wr fun e w' => e = .returned (.int .i64 (if allIn L xs then 0 else 8)) ∧ Below wr.heap.size wr w' := by
  have HT := (show Hid _ from T)
  have HV := (show Hid _ from hv)
  clear T hv
  by_cases h : allIn L xs
  · have HA := (show Hid (decide (∀ x ∈ xs, 0 ≤ x ∧ x < (L.length : Int)) = true) from decide_eq_true h)
    rw [if_pos h]
    clear h
    go_enter Try.func22, Try.ntmps22
    go_wp2_with (go_at_call 69; refine (has_pn HT.out HV.out hn).mono ?_; rintro ev w1 ⟨rfl, B1⟩; rw [HA.out])
    go_ret
    exact ⟨rfl, B1⟩
  · have HA := (show Hid (decide (∀ x ∈ xs, 0 ≤ x ∧ x < (L.length : Int)) = false) from decide_eq_false h)
    rw [if_neg h]
    clear h
    go_enter Try.func22, Try.ntmps22
    go_wp2_with (go_at_call 69; refine (has_pn HT.out HV.out hn).mono ?_; rintro ev w1 ⟨rfl, B1⟩; rw [HA.out])
    go_ret
    exact ⟨rfl, B1⟩
set_option maxHeartbeats 1000000 in
theorem like_no (pv : Value) (s x : Int) (hs : s ≠ 0) : Calls Try.prog 24 #[pv, .int .i64 0, .int .i64 s, .int .i64 s, .int .i64 x] wr fun e w' => e = .returned (.bool true) ∧ w' = wr := by
  go_enter Try.func24, Try.ntmps24
  go_wp2
  go_ret
  exact ⟨rfl, rfl⟩
end
end Go.Proofs.Ytjegjbolmhaglaa
