/-
  A PAIR OF ARENAS: Pairs, like; layer 18: wakes. Own work.
-/
import Derived.Test.YtjegjbolmhaglaaSQh
namespace Go.Proofs.Ytjegjbolmhaglaa
open Go.RowKit Go.Maps
set_option maxRecDepth 100000
attribute [local go_sem ↓] Go.wp_at_zero Go.wp_at_succ
section
variable {w wr w' : World} {pb aa bb m : Nat} {L L' L1 : List Tm} {G G' : Nat → Prop}
theorem pr_new {o : Obj} (ho : o = .cells #[.pointer (some ⟨aa, 0, none⟩), .pointer (some ⟨bb, 0, none⟩), .slice none 0 0] 51) (T : Two w wr aa bb L L) : Pr w (wr.alloc o) wr.heap.size aa bb L L 0 := by
  subst ho
  have hB := (Below.refl _ wr).alloc (Nat.le_refl _) (.cells #[.pointer (some ⟨aa, 0, none⟩), .pointer (some ⟨bb, 0, none⟩), .slice none 0 0] 51)
  refine ⟨⟨none, 0, _, T.tw.add hB (P := fun k => k = wr.heap.size) (fun k hk => by subst hk; simp), ⟨.inr rfl, fun k hk => by simp [Value.ownBlock] at hk, T.below.size, ?_, ?_, ?_, ?_, World.ownsRow_nil _ _ _ _⟩⟩, Nat.zero_le _⟩
  · simp [go_sem]
  · simp [go_sem]
  · simp [go_sem]
  · simp only [World.frozen?, heap_alloc_new]
    rfl
set_option maxHeartbeats 4000000 in
theorem pairs_ok {v : Value} {S : List St} {ws : World} (h : Steps ws v S) (hx : ∀ i s, S[i]? = some s → i < 150 → s.xs.length ≤ 420) : Calls Try.prog 20 #[v] ws fun e w' => ∃ pb aa bb L, e = .returned (.tuple #[.pointer (some ⟨pb, 0, none⟩), .bool true]) ∧ Pr ws w' pb aa bb L L 0 ∧ L.length ≤ 150 := by
  have H1 := (show Hid _ from h)
  have H2 := (show Hid _ from hx)
  clear h hx
  go_enter Try.func20, Try.ntmps20
  go_wp2_with (go_at_call 18; refine (build_ok H1.out H2.out).mono ?_; rintro ev w1 ⟨aa, bb, L, rfl, T, hL⟩)
  go_ret2
  exact ⟨_, aa, bb, L, rfl, pr_new rfl T, hL⟩
set_option maxHeartbeats 1000000 in
theorem like_ok {ws : World} (P : Pr w ws pb aa bb L L m) (hL : L.length ≤ 1000) (i : Nat) (hi : i < L.length) : Calls Try.prog 24 #[.pointer (some ⟨pb, 0, none⟩), .int .i64 i, .int .i64 0, .int .i64 0, .int .i64 i] ws fun e w' => e = .returned (.bool true) ∧ ∃ m', Pr w w' pb aa bb L L m' := by
  have HP := (show Hid _ from P)
  clear P
  go_enter Try.func24, Try.ntmps24
  go_wp2_with (go_at_call 51; refine (t_ok HP.out hL i hi).mono ?_; rintro ev w1 ⟨rfl, m1, P1⟩; clear HP)
  go_ret
  exact ⟨rfl, m1, P1⟩
theorem on_new {Fa : Nat → Prop} (A : Ar w' aa [] Fa) (h : ∀ k, Fa k → w.heap.size ≤ k) (hB : Below w.heap.size w w') : On w w' aa [] (fun _ => False) := ⟨⟨Fa, A, h, fun _ h => h.elim⟩, fun _ h => h.elim, hB⟩
theorem meet_at (T : On w wr aa L G) (x : Nat) (i j round : Int) (h1 : 0 ≤ i ∧ i < 8) (h2 : 0 ≤ j ∧ j < 8) (h3 : 0 ≤ round) (h4 : round < 9223372036854775808) (hx : x < L.length) (hr : L.length + 20 < 1048576) {lo hi : Int} (hlo : (if j < i then j else i) = lo) (hhi : (if i < j then j else i) = hi) {a : Nat} {L2 : List Tm} (ha : plc (boundL L x 24 [lo, hi, round]) (boundT L x 24 [lo, hi, round]) = a) (hL : ext (boundL L x 24 [lo, hi, round]) (boundT L x 24 [lo, hi, round]) = L2) :
    Calls Try.prog 39 #[.pointer (some ⟨aa, 0, none⟩), .int .i64 x, .int .i64 i, .int .i64 j, .int .i64 round] wr fun e w' => e = .returned (.tuple #[.int .i64 a, .int .i64 0]) ∧ On w w' aa L2 G ∧ Stay G wr w' := by
  subst hlo hhi ha hL
  exact meet_on T x i j round h1 h2 h3 h4 hx hr
theorem wk0 : put [] (1, 1, []) = (0, 0, [(1, 1, [])]) := by decide +kernel
def wkL : List Tm := [(1, 1, []), (4, 24, [0]), (2, 1, []), (2, 3, []), (2, 5, []), (3, 0, [1, 2, 3, 4])]
theorem wk1 : plc (boundL [(1, 1, [])] 0 24 [1, 3, 5]) (boundT [(1, 1, [])] 0 24 [1, 3, 5]) = 5 := by decide +kernel
theorem wk2 : ext (boundL [(1, 1, [])] 0 24 [1, 3, 5]) (boundT [(1, 1, [])] 0 24 [1, 3, 5]) = wkL := by decide +kernel
theorem wk3 : plc (boundL wkL 0 24 [1, 3, 5]) (boundT wkL 0 24 [1, 3, 5]) = 5 := by decide +kernel
theorem wk4 : ext (boundL wkL 0 24 [1, 3, 5]) (boundT wkL 0 24 [1, 3, 5]) = wkL := by decide +kernel
theorem wk5 : plc (boundL wkL 0 24 [1, 3, 6]) (boundT wkL 0 24 [1, 3, 6]) = 7 := by decide +kernel
set_option maxHeartbeats 4000000 in
theorem wakes18_ok (ws : World) : Calls Try.prog 35 #[] ws fun e w' => e = .returned (.bool true) ∧ Below ws.heap.size ws w' := by
  go_enter Try.func35, Try.ntmps35
  go_wp2_with (first
    | (go_at_call 13; refine (new_ar _).mono ?_; rintro ev w1 ⟨ab, F0, rfl, A0, hF0, B0⟩; have T0 := on_new A0 hF0 B0; clear A0 hF0 B0)
    | (go_at_call 14; refine (make_on T0 1 1 (v := .slice none 0 0) (xs := []) (.inl ⟨rfl, rfl⟩) (by omega) wk0).mono ?_; rintro ev w2 ⟨rfl, T1, _⟩; clear T0)
    | (go_at_call 39; refine (meet_at T1 0 3 1 5 (by omega) (by omega) (by omega) (by omega) (by simp) (by simp) (by decide) (by decide) wk1 wk2).mono ?_; rintro ev w3 ⟨rfl, T2, _⟩; clear T1)
    | (go_at_call 39; refine (meet_at T2 0 1 3 5 (by omega) (by omega) (by omega) (by omega) (by simp [wkL]) (by simp [wkL]) (by decide) (by decide) wk3 wk4).mono ?_; rintro ev w4 ⟨rfl, T3, _⟩; clear T2)
    | (go_at_call 39; refine (meet_at T3 0 1 3 6 (by omega) (by omega) (by omega) (by omega) (by simp [wkL]) (by simp [wkL]) (by decide) (by decide) wk5 rfl).mono ?_; rintro ev w5 ⟨rfl, T4, _⟩; clear T3))
  go_ret
  exact ⟨rfl, T4.below⟩
end
end Go.Proofs.Ytjegjbolmhaglaa
