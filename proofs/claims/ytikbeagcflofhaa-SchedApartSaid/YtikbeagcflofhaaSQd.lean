/-
  SCHED: each call over an arena of a list; the page's. Own work.
-/
import Derived.Test.YtikbeagcflofhaaSQc
namespace Go.Proofs.Ytikbeagcflofhaa
open Go.RowKit Go.Maps
set_option maxRecDepth 100000
attribute [local go_sem ↓] Go.wp_at_zero Go.wp_at_succ
theorem reads_lit2 (w : World) (o : Obj) {n : Nat} {cs : List Value} (xs : List Int) (hcs : cs = xs.map (Value.int .i64)) (hn : xs.length = n) (e : TypeId) : Reads ((w.alloc o).alloc (.cells cs.toArray e)) (.slice (some ⟨w.heap.size + 1, 0, none⟩) n n) xs := by
  have h := reads_lit (w := w.alloc o) xs hcs hn e
  have e : (w.alloc o).heap.size = w.heap.size + 1 := by simp
  rw [e] at h
  exact h
section
variable {w wr w' : World} {aa bb : Nat} {L L' L1 : List Tm} {G G' : Nat → Prop}
theorem stay_alloc (wr : World) (o : Obj) : Stay G wr (wr.alloc o) := stay_below ((Below.refl _ wr).alloc (Nat.le_refl _) o)

set_option maxHeartbeats 1000000 in
theorem joiner_on (T : On w wr aa L G) (x y : Int) {a s : Int} (hp : put L (3, 0, [x, y]) = (a, s, L1)) : Calls Try.prog 21 #[.pointer (some ⟨aa, 0, none⟩), .int .i64 x, .int .i64 y] wr fun e w' => e = .returned (.tuple #[.int .i64 a, .int .i64 s]) ∧ On w w' aa L1 G ∧ Stay G wr w' := by
  have HT := (show Hid (On w wr aa L G) from T)
  have HP := (show Hid _ from hp)
  clear T hp
  go_enter Try.func21, Try.ntmps21
  go_wp2_with (go_at_call 14; refine (make_on (HT.out.alloc _) 3 0 (reads_lit [x, y] rfl rfl _) (by omega) HP.out).mono ?_; rintro ev w1 ⟨rfl, T1, K1⟩)
  go_ret2
  exact ⟨rfl, T1, (stay_alloc _ _).trans K1⟩
set_option maxHeartbeats 1000000 in
theorem secret_on (T : On w wr aa L G) (x y z : Int) {a s : Int} (hp : put L (3, 0, [x, y, z]) = (a, s, L1)) : Calls Try.prog 25 #[.pointer (some ⟨aa, 0, none⟩), .int .i64 x, .int .i64 y, .int .i64 z] wr fun e w' => e = .returned (.tuple #[.int .i64 a, .int .i64 s]) ∧ On w w' aa L1 G ∧ Stay G wr w' := by
  have HT := (show Hid (On w wr aa L G) from T)
  have HP := (show Hid _ from hp)
  clear T hp
  go_enter Try.func25, Try.ntmps25
  go_wp2_with (go_at_call 14; refine (make_on (HT.out.alloc _) 3 0 (reads_lit [x, y, z] rfl rfl _) (by omega) HP.out).mono ?_; rintro ev w1 ⟨rfl, T1, K1⟩)
  go_ret2
  exact ⟨rfl, T1, (stay_alloc _ _).trans K1⟩
set_option maxHeartbeats 1000000 in
theorem start_on (T : On w wr aa L G) (x : Int) {a s : Int} (hp : put L (4, 21, [x]) = (a, s, L1)) : Calls Try.prog 31 #[.pointer (some ⟨aa, 0, none⟩), .int .i64 x] wr fun e w' => e = .returned (.tuple #[.int .i64 a, .int .i64 s]) ∧ On w w' aa L1 G ∧ Stay G wr w' := by
  have HT := (show Hid (On w wr aa L G) from T)
  have HP := (show Hid _ from hp)
  clear T hp
  go_enter Try.func31, Try.ntmps31
  go_wp2_with (go_at_call 14; refine (make_on (HT.out.alloc _) 4 21 (reads_lit [x] rfl rfl _) (by omega) HP.out).mono ?_; rintro ev w1 ⟨rfl, T1, K1⟩)
  go_ret2
  exact ⟨rfl, T1, (stay_alloc _ _).trans K1⟩
set_option maxHeartbeats 1000000 in
theorem register_on (T : On w wr aa L G) (x : Int) {a s : Int} (hp : put L (4, 25, [x]) = (a, s, L1)) : Calls Try.prog 33 #[.pointer (some ⟨aa, 0, none⟩), .int .i64 x] wr fun e w' => e = .returned (.tuple #[.int .i64 a, .int .i64 s]) ∧ On w w' aa L1 G ∧ Stay G wr w' := by
  have HT := (show Hid (On w wr aa L G) from T)
  have HP := (show Hid _ from hp)
  clear T hp
  go_enter Try.func33, Try.ntmps33
  go_wp2_with (go_at_call 14; refine (make_on (HT.out.alloc _) 4 25 (reads_lit [x] rfl rfl _) (by omega) HP.out).mono ?_; rintro ev w1 ⟨rfl, T1, K1⟩)
  go_ret2
  exact ⟨rfl, T1, (stay_alloc _ _).trans K1⟩
set_option maxHeartbeats 1000000 in
theorem history_on (T : On w wr aa L G) (x y : Int) {a s : Int} (hp : put L (3, 0, [x, y]) = (a, s, L1)) : Calls Try.prog 29 #[.pointer (some ⟨aa, 0, none⟩), .int .i64 x, .int .i64 y] wr fun e w' => e = .returned (.tuple #[.int .i64 a, .int .i64 s]) ∧ On w w' aa L1 G ∧ Stay G wr w' := by
  have HT := (show Hid (On w wr aa L G) from T)
  have HP := (show Hid _ from hp)
  clear T hp
  go_enter Try.func29, Try.ntmps29
  go_wp2_with (go_at_call 14; refine (make_on (HT.out.alloc _) 3 0 (reads_lit [x, y] rfl rfl _) (by omega) HP.out).mono ?_; rintro ev w1 ⟨rfl, T1, K1⟩)
  go_ret2
  exact ⟨rfl, T1, (stay_alloc _ _).trans K1⟩
set_option maxHeartbeats 1000000 in
theorem first_on (T : On w wr aa L G) (x : Int) {a s : Int} (hp : put L (3, 0, [x]) = (a, s, L1)) : Calls Try.prog 34 #[.pointer (some ⟨aa, 0, none⟩), .int .i64 x] wr fun e w' => e = .returned (.tuple #[.int .i64 a, .int .i64 s]) ∧ On w w' aa L1 G ∧ Stay G wr w' := by
  have HT := (show Hid (On w wr aa L G) from T)
  have HP := (show Hid _ from hp)
  clear T hp
  go_enter Try.func34, Try.ntmps34
  go_wp2_with (go_at_call 14; refine (make_on (HT.out.alloc _) 3 0 (reads_lit [x] rfl rfl _) (by omega) HP.out).mono ?_; rintro ev w1 ⟨rfl, T1, K1⟩)
  go_ret2
  exact ⟨rfl, T1, (stay_alloc _ _).trans K1⟩
set_option maxHeartbeats 1000000 in
theorem tag_no (T : On w wr aa L G) (x y : Int) (h : ¬ allIn L [x, y]) : Calls Try.prog 27 #[.pointer (some ⟨aa, 0, none⟩), .int .i64 x, .int .i64 y] wr fun e w' => e = .returned (.tuple #[.int .i64 0, .int .i64 8]) ∧ On w w' aa L G ∧ Stay G wr w' := by
  have HT := (show Hid (On w wr aa L G) from T)
  have HP := (show Hid (decide (allIn L [x, y]) = false) from decide_eq_false h)
  clear T h
  go_enter Try.func27, Try.ntmps27
  go_wp2_with (go_at_call 59; refine (are_on (HT.out.alloc _) (reads_lit [x, y] rfl rfl _).rdw (by simp)).mono ?_; rintro ev w1 ⟨rfl, rfl⟩; rw [HP.out])
  go_ret2
  exact ⟨rfl, HT.out.alloc _, stay_alloc wr _⟩
def tagT (L : List Tm) (x y : Nat) : Tm := (3, 0, [((plc L (4, 22, [(x : Int)]) : Nat) : Int), (y : Int)])
def tagL (L : List Tm) (x : Nat) : List Tm := ext L (4, 22, [(x : Int)])
theorem tagT_ok {x y : Nat} (hy : y < L.length) (hr : L.length + 20 < 1048576) : put (tagL L x) (tagT L x y) = (((plc (tagL L x) (tagT L x y) : Nat) : Int), 0, ext (tagL L x) (tagT L x y)) := by
  have h1 := ext_le1 L (4, 22, [(x : Int)])
  have h2 := ext_le L (4, 22, [(x : Int)])
  have h3 := plc_lt L (4, 22, [(x : Int)])
  refine put_good (sh_hash _ (by simp)) (fun z hz => ?_) (by unfold tagL; omega)
  simp only [tagT, List.mem_cons, List.not_mem_nil, or_false] at hz
  unfold tagL
  rcases hz with rfl | rfl <;> omega
set_option maxHeartbeats 1000000 in
theorem tag_on (T : On w wr aa L G) (x y : Nat) (hx : x < L.length) (hy : y < L.length) (hr : L.length + 20 < 1048576) : Calls Try.prog 27 #[.pointer (some ⟨aa, 0, none⟩), .int .i64 x, .int .i64 y] wr fun e w' => e = .returned (.tuple #[.int .i64 (plc (tagL L x) (tagT L x y)), .int .i64 0]) ∧ On w w' aa (ext (tagL L x) (tagT L x y)) G ∧ Stay G wr w' := by
  have HT := (show Hid (On w wr aa L G) from T)
  have HP := (show Hid (decide (allIn L [(x : Int), (y : Int)]) = true) from decide_eq_true (fun z hz => by simp at hz; omega))
  have HP1 := (show Hid _ from put_good (L := L) (t := (4, 22, [(x : Int)])) (sh_kdf _ _ (by omega)) (fits1 hx) (by omega))
  have HP2 := (show Hid _ from tagT_ok (x := x) hy hr)
  clear T
  go_enter Try.func27, Try.ntmps27
  go_wp2_with (first
    | (go_at_call 59; refine (are_on (HT.out.alloc _) (reads_lit [(x : Int), (y : Int)] rfl rfl _).rdw (by simp)).mono ?_; rintro ev w1 ⟨rfl, rfl⟩; rw [HP.out])
    | (go_at_call 14; refine (make_on ((HT.out.alloc _).alloc _) 4 22 (xs := [(x : Int)]) (reads_lit2 _ _ [(x : Int)] rfl rfl _) (by omega) HP1.out).mono ?_; rintro ev w2 ⟨rfl, T2, K2⟩; clear HT)
    | (go_at_call 14; refine (make_on (T2.alloc _) 3 0 (reads_lit [((plc L (4, 22, [(x : Int)]) : Nat) : Int), (y : Int)] rfl rfl _) (by omega) HP2.out).mono ?_; rintro ev w3 ⟨rfl, T3, K3⟩; clear T2))
  go_ret2
  exact ⟨rfl, T3, (stay_alloc _ _).trans ((stay_alloc _ _).trans (K2.trans ((stay_alloc _ _).trans K3)))⟩
set_option maxHeartbeats 1000000 in
theorem sleaf_ok (i : Int) : Calls Try.prog 70 #[.int .i64 i] wr fun e w' => e = .returned (.bool (decide (0 ≤ i ∧ i < 8))) ∧ w' = wr := by
  go_enter Try.func70, Try.ntmps70
  go_wp2
  all_goals (
    go_ret
    exact ⟨by first | (simp; done) | (simp; omega) | (simp; intros; omega), rfl⟩)
set_option maxHeartbeats 1000000 in
theorem lleaf_ok (i : Int) : Calls Try.prog 37 #[.int .i64 i] wr fun e w' => e = .returned (.bool (decide (0 ≤ i ∧ i < 8))) ∧ w' = wr := by
  go_enter Try.func37, Try.ntmps37
  go_wp2
  all_goals (
    go_ret
    exact ⟨by first | (simp; done) | (simp; omega) | (simp; intros; omega), rfl⟩)
set_option maxHeartbeats 1000000 in
theorem bound_no (T : On w wr aa L G) (x : Int) (c : Nat) (hc : c ≤ 100) (v : Value) (hx : ¬ (0 ≤ x ∧ x < L.length)) : Calls Try.prog 71 #[.pointer (some ⟨aa, 0, none⟩), .int .i64 x, .int .i64 c, v] wr fun e w' => e = .returned (.tuple #[.int .i64 0, .int .i64 8]) ∧ On w w' aa L G ∧ Stay G wr w' := by
  have HT := (show Hid (On w wr aa L G) from T)
  have HP := (show Hid _ from put_out (L := L) (t := (4, (c : Int), [x])) (sh_kdf _ _ (by omega)) (fun h => hx (h x (by simp))))
  clear T hx
  go_enter Try.func71, Try.ntmps71
  go_wp2_with (go_at_call 14; refine (make_on (HT.out.alloc _) 4 c (reads_lit [x] rfl rfl _) (by omega) HP.out).mono ?_; rintro ev w1 ⟨rfl, T1, K1⟩)
  go_ret2
  exact ⟨rfl, T1, (stay_alloc _ _).trans K1⟩

set_option maxHeartbeats 4000000 in
theorem chain_no (T : On w wr aa L G) (x : Int) (i : Int) (h1 : 0 ≤ i ∧ i < 8) (hx : ¬ (0 ≤ x ∧ x < L.length)) : Calls Try.prog 36 #[.pointer (some ⟨aa, 0, none⟩), .int .i64 x, .int .i64 i] wr fun e w' => e = .returned (.tuple #[.int .i64 0, .int .i64 8]) ∧ On w w' aa L G ∧ Stay G wr w' := by
  have HT := (show Hid (On w wr aa L G) from T)
  have HX := (show Hid _ from hx)
  have HL1 := (show Hid (decide (0 ≤ i ∧ i < 8) = true) from decide_eq_true h1)
  have HL2 := HL1
  clear T hx
  go_enter Try.func36, Try.ntmps36
  go_wp2_with (first
    | (go_at_call 70; refine (sleaf_ok _).mono ?_; rintro ev w1 ⟨rfl, rfl⟩; first | rw [HL1.out] | rw [HL2.out])
    | (go_at_call 71; refine (bound_no (HT.out.alloc _) x 23 (by omega) _ HX.out).mono ?_; rintro ev w1 ⟨rfl, T1, K1⟩))
  all_goals (
    go_ret2
    exact ⟨rfl, T1, (stay_alloc _ _).trans K1⟩)
set_option maxHeartbeats 4000000 in
theorem chain_on (T : On w wr aa L G) (x : Nat) (i : Int) (h1 : 0 ≤ i ∧ i < 8) (hx : x < L.length) (hr : L.length + 20 < 1048576) : Calls Try.prog 36 #[.pointer (some ⟨aa, 0, none⟩), .int .i64 x, .int .i64 i] wr fun e w' => e = .returned (.tuple #[.int .i64 (plc (boundL L x 23 [i]) (boundT L x 23 [i])), .int .i64 0]) ∧ On w w' aa (ext (boundL L x 23 [i]) (boundT L x 23 [i])) G ∧ Stay G wr w' := by
  have T2 := T.add ((Below.refl _ wr).alloc (Nat.le_refl _) (.cells #[.int .i64 i] 3)) (P := fun k => k = wr.heap.size) (fun k hk => by subst hk; simp)
  have HT := (show Hid _ from T2)
  have hns : ∀ z ∈ [i], 0 ≤ z ∧ z < 9223372036854775808 := by
    intro z hz
    simp only [List.mem_cons, List.not_mem_nil, or_false] at hz
    (repeat' split at hz) <;> omega
  have HN := (show Hid _ from hns)
  have HL1 := (show Hid (decide (0 ≤ i ∧ i < 8) = true) from decide_eq_true h1)
  have HL2 := HL1
  clear T T2 hns
  go_enter Try.func36, Try.ntmps36
  go_wp2_with (first
    | (go_at_call 70; refine (sleaf_ok _).mono ?_; rintro ev w1 ⟨rfl, rfl⟩; first | rw [HL1.out] | rw [HL2.out])
    | (go_at_call 71; refine (bound_on HT.out x 23 hx (by omega) _ 1 1 [i] rfl (by omega) hr HN.out (reads_lit [i] rfl rfl _).rdw (fun k hk _ => .inr (by simpa [Value.ownBlock] using hk.symm))).mono ?_; rintro ev w1 ⟨rfl, T1, K1⟩))
  all_goals (
    go_ret2
    have K2 := (stay_alloc _ _).trans (K1.mono (fun k hk => .inl hk))
    have T2 := T1.mono (fun k hk => .inl hk)
    clear K1 T1 HN HT
    (repeat' split at T2) <;> first
      | exact ⟨rfl, T2, K2⟩
      | (exfalso; omega))
set_option maxHeartbeats 4000000 in
theorem meet_no (T : On w wr aa L G) (x : Int) (i j round : Int) (h1 : 0 ≤ i ∧ i < 8) (h2 : 0 ≤ j ∧ j < 8) (h3 : 0 ≤ round) (h4 : round < 9223372036854775808) (hx : ¬ (0 ≤ x ∧ x < L.length)) : Calls Try.prog 39 #[.pointer (some ⟨aa, 0, none⟩), .int .i64 x, .int .i64 i, .int .i64 j, .int .i64 round] wr fun e w' => e = .returned (.tuple #[.int .i64 0, .int .i64 8]) ∧ On w w' aa L G ∧ Stay G wr w' := by
  have HT := (show Hid (On w wr aa L G) from T)
  have HX := (show Hid _ from hx)
  have HL1 := (show Hid (decide (0 ≤ i ∧ i < 8) = true) from decide_eq_true h1)
  have HL2 := (show Hid (decide (0 ≤ j ∧ j < 8) = true) from decide_eq_true h2)
  have hr0 : decide (round < 0) = false := decide_eq_false (by omega)
  clear T hx
  go_enter Try.func39, Try.ntmps39
  go_wp2_with (first
    | (go_at_call 70; refine (sleaf_ok _).mono ?_; rintro ev w1 ⟨rfl, rfl⟩; first | rw [HL1.out] | rw [HL2.out])
    | (go_at_call 71; refine (bound_no (HT.out.alloc _) x 24 (by omega) _ HX.out).mono ?_; rintro ev w1 ⟨rfl, T1, K1⟩))
  all_goals (
    go_ret2
    exact ⟨rfl, T1, (stay_alloc _ _).trans K1⟩)
set_option maxHeartbeats 4000000 in
theorem meet_on (T : On w wr aa L G) (x : Nat) (i j round : Int) (h1 : 0 ≤ i ∧ i < 8) (h2 : 0 ≤ j ∧ j < 8) (h3 : 0 ≤ round) (h4 : round < 9223372036854775808) (hx : x < L.length) (hr : L.length + 20 < 1048576) : Calls Try.prog 39 #[.pointer (some ⟨aa, 0, none⟩), .int .i64 x, .int .i64 i, .int .i64 j, .int .i64 round] wr fun e w' => e = .returned (.tuple #[.int .i64 (plc (boundL L x 24 [if j < i then j else i, if i < j then j else i, round]) (boundT L x 24 [if j < i then j else i, if i < j then j else i, round])), .int .i64 0]) ∧ On w w' aa (ext (boundL L x 24 [if j < i then j else i, if i < j then j else i, round]) (boundT L x 24 [if j < i then j else i, if i < j then j else i, round])) G ∧ Stay G wr w' := by
  have T2 := T.add ((Below.refl _ wr).alloc (Nat.le_refl _) (.cells #[.int .i64 (if j < i then j else i), .int .i64 (if i < j then j else i), .int .i64 round] 3)) (P := fun k => k = wr.heap.size) (fun k hk => by subst hk; simp)
  have HT := (show Hid _ from T2)
  have hns : ∀ z ∈ [if j < i then j else i, if i < j then j else i, round], 0 ≤ z ∧ z < 9223372036854775808 := by
    intro z hz
    simp only [List.mem_cons, List.not_mem_nil, or_false] at hz
    (repeat' split at hz) <;> omega
  have HN := (show Hid _ from hns)
  have HL1 := (show Hid (decide (0 ≤ i ∧ i < 8) = true) from decide_eq_true h1)
  have HL2 := (show Hid (decide (0 ≤ j ∧ j < 8) = true) from decide_eq_true h2)
  have hr0 : decide (round < 0) = false := decide_eq_false (by omega)
  clear T T2 hns
  go_enter Try.func39, Try.ntmps39
  go_wp2_with (first
    | (go_at_call 70; refine (sleaf_ok _).mono ?_; rintro ev w1 ⟨rfl, rfl⟩; first | rw [HL1.out] | rw [HL2.out])
    | (go_at_call 71; refine (bound_on HT.out x 24 hx (by omega) _ 3 3 [if j < i then j else i, if i < j then j else i, round] rfl (by omega) hr HN.out (reads_lit [if j < i then j else i, if i < j then j else i, round] rfl rfl _).rdw (fun k hk _ => .inr (by simpa [Value.ownBlock] using hk.symm))).mono ?_; rintro ev w1 ⟨rfl, T1, K1⟩))
  all_goals (
    go_ret2
    have K2 := (stay_alloc _ _).trans (K1.mono (fun k hk => .inl hk))
    have T2 := T1.mono (fun k hk => .inl hk)
    clear K1 T1 HN HT
    (repeat' split at T2) <;> first
      | exact ⟨rfl, T2, K2⟩
      | (exfalso; omega))
set_option maxHeartbeats 1000000 in
theorem chain_arg (x i : Int) (h : ¬ (0 ≤ i ∧ i < 8)) : Calls Try.prog 36 #[.pointer (some ⟨aa, 0, none⟩), .int .i64 x, .int .i64 i] wr fun e w' => e = .returned (.tuple #[.int .i64 0, .int .i64 1]) ∧ w' = wr := by
  have HL1 := (show Hid (decide (0 ≤ i ∧ i < 8) = false) from decide_eq_false h)
  clear h
  go_enter Try.func36, Try.ntmps36
  go_wp2_with (go_at_call 70; refine (sleaf_ok _).mono ?_; rintro ev w1 ⟨rfl, rfl⟩; rw [HL1.out])
  go_ret2
  exact ⟨rfl, rfl⟩
set_option maxHeartbeats 1000000 in
theorem meet_arg (x i j round : Int) (h : ¬ ((0 ≤ i ∧ i < 8) ∧ (0 ≤ j ∧ j < 8) ∧ 0 ≤ round)) : Calls Try.prog 39 #[.pointer (some ⟨aa, 0, none⟩), .int .i64 x, .int .i64 i, .int .i64 j, .int .i64 round] wr fun e w' => e = .returned (.tuple #[.int .i64 0, .int .i64 1]) ∧ w' = wr := by
  by_cases h1 : 0 ≤ i ∧ i < 8
  · by_cases h2 : 0 ≤ j ∧ j < 8
    · have HL1 := (show Hid (decide (0 ≤ i ∧ i < 8) = true) from decide_eq_true h1)
      have HL2 := (show Hid (decide (0 ≤ j ∧ j < 8) = true) from decide_eq_true h2)
      have hr0 : decide (round < 0) = true := decide_eq_true (by omega)
      clear h h1 h2
      go_enter Try.func39, Try.ntmps39
      go_wp2_with (go_at_call 70; refine (sleaf_ok _).mono ?_; rintro ev w1 ⟨rfl, rfl⟩; first | rw [HL1.out] | rw [HL2.out])
      go_ret2
      exact ⟨rfl, rfl⟩
    · have HL1 := (show Hid (decide (0 ≤ i ∧ i < 8) = true) from decide_eq_true h1)
      have HL2 := (show Hid (decide (0 ≤ j ∧ j < 8) = false) from decide_eq_false h2)
      clear h h1 h2
      go_enter Try.func39, Try.ntmps39
      go_wp2_with (go_at_call 70; refine (sleaf_ok _).mono ?_; rintro ev w1 ⟨rfl, rfl⟩; first | rw [HL1.out] | rw [HL2.out])
      go_ret2
      exact ⟨rfl, rfl⟩
  · have HL1 := (show Hid (decide (0 ≤ i ∧ i < 8) = false) from decide_eq_false h1)
    clear h h1
    go_enter Try.func39, Try.ntmps39
    go_wp2_with (go_at_call 70; refine (sleaf_ok _).mono ?_; rintro ev w1 ⟨rfl, rfl⟩; rw [HL1.out])
    go_ret2
    exact ⟨rfl, rfl⟩
end
end Go.Proofs.Ytikbeagcflofhaa
