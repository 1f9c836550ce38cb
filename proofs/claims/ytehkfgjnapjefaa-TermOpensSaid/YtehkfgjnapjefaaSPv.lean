/-
  THE PAGE's ARENA: Unbox, Signed. Own work.
-/
import Derived.Test.YtehkfgjnapjefaaSPu
namespace Go.Proofs.Ytehkfgjnapjefaa
open Go.RowKit Go.Maps
set_option maxRecDepth 100000
attribute [local go_sem ↓] Go.wp_at_zero Go.wp_at_succ
section
variable {F : Nat → Prop} {bb : Nat} {w : World} {L : List Tm}
variable {g cp : Nat} (B : Hid (PAr w bb L F)) (i k : Nat) (hi : i < L.length) (hk : k < L.length) (c0 : w.cell? ⟨bb, 0, none⟩ = some (.slice (some ⟨g, 0, none⟩) L.length cp)) (hbb : bb < w.heap.size) (hg : g < w.heap.size)
include B hi hk c0 hbb hg
set_option maxHeartbeats 4000000 in
theorem punbox_kind (kd : Int) (hkd : kd ≠ 7) (n0 : w.cell? ⟨g, i * 3, none⟩ = some (.int .i64 kd)) : Calls Try.prog 23 #[.pointer (some ⟨bb, 0, none⟩), .int .i64 i, .int .i64 k] w fun e w' => e = .returned (.tuple #[.slice none 0 0, .int .i64 6]) ∧ Below w.heap.size w w' := by
  have h : decide (inL L i ∧ inL L k) = true := decide_eq_true ⟨⟨by omega, by omega⟩, ⟨by omega, by omega⟩⟩
  have hil : (i : Int) < L.length := by omega
  go_enter Try.func23, Try.ntmps23
  go_wp2_with (go_at_call 16; refine (phas_two B.out i k).mono ?_; rintro ev w2 ⟨rfl, B2⟩; rw [h]; have y0 := (B2.cell (p := ⟨bb, 0, none⟩) hbb).trans c0; have y1 := (B2.cell (p := ⟨g, i * 3, none⟩) hg).trans n0)
  go_ret2
  exact ⟨rfl, B2⟩
set_option maxHeartbeats 4000000 in
theorem punbox_whom (b o l4 c4 : Nat) (q : Nat) (hb : b < w.heap.size) (hl : 0 < l4) (hq : q < L.length) (n0 : w.cell? ⟨g, i * 3, none⟩ = some (.int .i64 7)) (n2 : w.cell? ⟨g, i * 3 + 2, none⟩ = some (.slice (some ⟨b, o, none⟩) l4 c4)) (a0 : w.cell? ⟨b, o, none⟩ = some (.int .i64 q))
    (kw nw : Int) (p5 : Option Addr) (l5 c5 : Nat) (q0 : w.cell? ⟨g, q * 3, none⟩ = some (.int .i64 kw)) (q1 : w.cell? ⟨g, q * 3 + 1, none⟩ = some (.int .i64 nw)) (q2 : w.cell? ⟨g, q * 3 + 2, none⟩ = some (.slice p5 l5 c5)) (hkw : kw ≠ 5) : Calls Try.prog 23 #[.pointer (some ⟨bb, 0, none⟩), .int .i64 i, .int .i64 k] w fun e w' => e = .returned (.tuple #[.slice none 0 0, .int .i64 3]) ∧ Below w.heap.size w w' := by
  have h : decide (inL L i ∧ inL L k) = true := decide_eq_true ⟨⟨by omega, by omega⟩, ⟨by omega, by omega⟩⟩
  have hil : (i : Int) < L.length := by omega
  have hql : (q : Int) < L.length := by omega
  go_enter Try.func23, Try.ntmps23
  go_wp2_with (go_at_call 16; refine (phas_two B.out i k).mono ?_; rintro ev w2 ⟨rfl, B2⟩; rw [h]; have y0 := (B2.cell (p := ⟨bb, 0, none⟩) hbb).trans c0; have y1 := (B2.cell (p := ⟨g, i * 3, none⟩) hg).trans n0; have y2 := (B2.cell (p := ⟨g, i * 3 + 2, none⟩) hg).trans n2; have y3 := (B2.cell (p := ⟨b, o, none⟩) hb).trans a0; have y4 := (B2.cell (p := ⟨g, q * 3, none⟩) hg).trans q0; have y5 := (B2.cell (p := ⟨g, q * 3 + 1, none⟩) hg).trans q1; have y6 := (B2.cell (p := ⟨g, q * 3 + 2, none⟩) hg).trans q2; have y9 := Nat.lt_of_lt_of_le hb B2.size; have y10 := Nat.lt_of_lt_of_le hbb B2.size; have y11 := Nat.lt_of_lt_of_le hg B2.size)
  go_region
  go_wp2_with (fail)
  go_ret2
  exact ⟨rfl, B2.trans ((((Below.refl _ w2).alloc (Nat.le_refl _) _).drew).mono B2.size)⟩
set_option maxHeartbeats 4000000 in
theorem punbox_else (b o l4 c4 : Nat) (q : Nat) (hb : b < w.heap.size) (hl : 0 < l4) (hq : q < L.length) (n0 : w.cell? ⟨g, i * 3, none⟩ = some (.int .i64 7)) (n2 : w.cell? ⟨g, i * 3 + 2, none⟩ = some (.slice (some ⟨b, o, none⟩) l4 c4)) (a0 : w.cell? ⟨b, o, none⟩ = some (.int .i64 q))
    (nw : Int) (b5 o5 l5 c5 : Nat) (q0 : w.cell? ⟨g, q * 3, none⟩ = some (.int .i64 5)) (q1 : w.cell? ⟨g, q * 3 + 1, none⟩ = some (.int .i64 nw)) (q2 : w.cell? ⟨g, q * 3 + 2, none⟩ = some (.slice (some ⟨b5, o5, none⟩) l5 c5)) (hb5 : b5 < w.heap.size) (hl5 : 0 < l5) (s : Int) (s0 : w.cell? ⟨b5, o5, none⟩ = some (.int .i64 s)) (hs : s ≠ k) : Calls Try.prog 23 #[.pointer (some ⟨bb, 0, none⟩), .int .i64 i, .int .i64 k] w fun e w' => e = .returned (.tuple #[.slice none 0 0, .int .i64 3]) ∧ Below w.heap.size w w' := by
  have h : decide (inL L i ∧ inL L k) = true := decide_eq_true ⟨⟨by omega, by omega⟩, ⟨by omega, by omega⟩⟩
  have hil : (i : Int) < L.length := by omega
  have hql : (q : Int) < L.length := by omega
  go_enter Try.func23, Try.ntmps23
  go_wp2_with (go_at_call 16; refine (phas_two B.out i k).mono ?_; rintro ev w2 ⟨rfl, B2⟩; rw [h]; have y0 := (B2.cell (p := ⟨bb, 0, none⟩) hbb).trans c0; have y1 := (B2.cell (p := ⟨g, i * 3, none⟩) hg).trans n0; have y2 := (B2.cell (p := ⟨g, i * 3 + 2, none⟩) hg).trans n2; have y3 := (B2.cell (p := ⟨b, o, none⟩) hb).trans a0; have y4 := (B2.cell (p := ⟨g, q * 3, none⟩) hg).trans q0; have y5 := (B2.cell (p := ⟨g, q * 3 + 1, none⟩) hg).trans q1; have y6 := (B2.cell (p := ⟨g, q * 3 + 2, none⟩) hg).trans q2; have y7 := (B2.cell (p := ⟨b5, o5, none⟩) hb5).trans s0; have y8 := Nat.lt_of_lt_of_le hb5 B2.size; have y9 := Nat.lt_of_lt_of_le hb B2.size; have y10 := Nat.lt_of_lt_of_le hbb B2.size; have y11 := Nat.lt_of_lt_of_le hg B2.size)
  go_region
  go_wp2_with (fail)
  go_ret2
  exact ⟨rfl, B2.trans ((((Below.refl _ w2).alloc (Nat.le_refl _) _).drew).mono B2.size)⟩
set_option maxHeartbeats 4000000 in
theorem punbox_yes (b o l4 c4 : Nat) (q : Nat) (hb : b < w.heap.size) (hl : 2 ≤ l4) (hlc : l4 ≤ c4) (hq : q < L.length) (xs : List Int) (hxs : xs.length = l4 - 2) (hR : Hid (∀ t, t < l4 - 2 → w.cell? ⟨b, o + 2 + t, none⟩ = some (.int .i64 (xs.getD t 0)))) (n0 : w.cell? ⟨g, i * 3, none⟩ = some (.int .i64 7)) (n2 : w.cell? ⟨g, i * 3 + 2, none⟩ = some (.slice (some ⟨b, o, none⟩) l4 c4)) (a0 : w.cell? ⟨b, o, none⟩ = some (.int .i64 q))
    (nw : Int) (b5 o5 l5 c5 : Nat) (q0 : w.cell? ⟨g, q * 3, none⟩ = some (.int .i64 5)) (q1 : w.cell? ⟨g, q * 3 + 1, none⟩ = some (.int .i64 nw)) (q2 : w.cell? ⟨g, q * 3 + 2, none⟩ = some (.slice (some ⟨b5, o5, none⟩) l5 c5)) (hb5 : b5 < w.heap.size) (hl5 : 0 < l5) (s0 : w.cell? ⟨b5, o5, none⟩ = some (.int .i64 k)) : Calls Try.prog 23 #[.pointer (some ⟨bb, 0, none⟩), .int .i64 i, .int .i64 k] w fun e w' => ∃ p c, e = .returned (.tuple #[.slice p (l4 - 2) c, .int .i64 0]) ∧ RdW w' (.slice p (l4 - 2) c) xs ∧ Below w.heap.size w w' := by
  have h : decide (inL L i ∧ inL L k) = true := decide_eq_true ⟨⟨by omega, by omega⟩, ⟨by omega, by omega⟩⟩
  have hil : (i : Int) < L.length := by omega
  have hql : (q : Int) < L.length := by omega
  go_enter Try.func23, Try.ntmps23
  go_wp2_with (go_at_call 16; refine (phas_two B.out i k).mono ?_; rintro ev w2 ⟨rfl, B2⟩; rw [h]; have y0 := (B2.cell (p := ⟨bb, 0, none⟩) hbb).trans c0; have y1 := (B2.cell (p := ⟨g, i * 3, none⟩) hg).trans n0; have y2 := (B2.cell (p := ⟨g, i * 3 + 2, none⟩) hg).trans n2; have y3 := (B2.cell (p := ⟨b, o, none⟩) hb).trans a0; have y4 := (B2.cell (p := ⟨g, q * 3, none⟩) hg).trans q0; have y5 := (B2.cell (p := ⟨g, q * 3 + 1, none⟩) hg).trans q1; have y6 := (B2.cell (p := ⟨g, q * 3 + 2, none⟩) hg).trans q2; have y7 := (B2.cell (p := ⟨b5, o5, none⟩) hb5).trans s0; have y8 := Nat.lt_of_lt_of_le hb5 B2.size; have y9 := Nat.lt_of_lt_of_le hb B2.size; have y10 := Nat.lt_of_lt_of_le hbb B2.size; have y11 := Nat.lt_of_lt_of_le hg B2.size)
  go_region
  go_wp2_with (fail)
  all_goals (
    have hB := B2.trans ((((Below.refl _ w2).alloc (Nat.le_refl _) (.cells #[.int .i64 5, .int .i64 nw, .slice (some ⟨b5, o5, none⟩) l5 c5] 33)).drew).mono B2.size)
    go_ret2
    refine ⟨_, _, rfl, ?_, hB⟩
    rw [← hxs]
    refine ⟨_, _, rfl, ?_⟩
    first
      | exact .inl (List.eq_nil_of_length_eq_zero (by omega))
      | exact .inr ⟨b, o + 2, rfl, Nat.lt_of_lt_of_le hb hB.size, fun t ht => (hB.cell (p := ⟨b, o + 2 + t, none⟩) hb).trans (hR.out t (by omega))⟩)
set_option maxHeartbeats 4000000 in
theorem psigned_kind (kd kw : Int) (hkd : (kd != 8) = true ∨ (kw != 5) = true) (n0 : w.cell? ⟨g, i * 3, none⟩ = some (.int .i64 kd)) (q0 : w.cell? ⟨g, k * 3, none⟩ = some (.int .i64 kw)) : Calls Try.prog 25 #[.pointer (some ⟨bb, 0, none⟩), .int .i64 i, .int .i64 k] w fun e w' => e = .returned (.tuple #[.slice none 0 0, .int .i64 6]) ∧ Below w.heap.size w w' := by
  have h : decide (inL L i ∧ inL L k) = true := decide_eq_true ⟨⟨by omega, by omega⟩, ⟨by omega, by omega⟩⟩
  have hil : (i : Int) < L.length := by omega
  have hkl : (k : Int) < L.length := by omega
  by_cases h8 : kd = 8
  · subst h8
    have hkw : kw ≠ 5 := by rcases hkd with h | h; simp at h; simpa using h
    clear hkd
    go_enter Try.func25, Try.ntmps25
    go_wp2_with (go_at_call 16; refine (phas_two B.out i k).mono ?_; rintro ev w2 ⟨rfl, B2⟩; rw [h]; have y0 := (B2.cell (p := ⟨bb, 0, none⟩) hbb).trans c0; have y1 := (B2.cell (p := ⟨g, i * 3, none⟩) hg).trans n0; have y2 := (B2.cell (p := ⟨g, k * 3, none⟩) hg).trans q0)
    go_ret2
    exact ⟨rfl, B2⟩
  · clear hkd
    go_enter Try.func25, Try.ntmps25
    go_wp2_with (go_at_call 16; refine (phas_two B.out i k).mono ?_; rintro ev w2 ⟨rfl, B2⟩; rw [h]; have y0 := (B2.cell (p := ⟨bb, 0, none⟩) hbb).trans c0; have y1 := (B2.cell (p := ⟨g, i * 3, none⟩) hg).trans n0; have y2 := (B2.cell (p := ⟨g, k * 3, none⟩) hg).trans q0)
    go_ret2
    exact ⟨rfl, B2⟩
set_option maxHeartbeats 4000000 in
theorem psigned_else (b o l4 c4 b5 o5 l5 c5 : Nat) (hb : b < w.heap.size) (hl : 0 < l4) (hb5 : b5 < w.heap.size) (hl5 : 0 < l5) (q s : Int) (a0 : w.cell? ⟨b, o, none⟩ = some (.int .i64 q)) (s0 : w.cell? ⟨b5, o5, none⟩ = some (.int .i64 s)) (hqs : q ≠ s) (n0 : w.cell? ⟨g, i * 3, none⟩ = some (.int .i64 8)) (n2 : w.cell? ⟨g, i * 3 + 2, none⟩ = some (.slice (some ⟨b, o, none⟩) l4 c4)) (q0 : w.cell? ⟨g, k * 3, none⟩ = some (.int .i64 5)) (q2 : w.cell? ⟨g, k * 3 + 2, none⟩ = some (.slice (some ⟨b5, o5, none⟩) l5 c5)) : Calls Try.prog 25 #[.pointer (some ⟨bb, 0, none⟩), .int .i64 i, .int .i64 k] w fun e w' => e = .returned (.tuple #[.slice none 0 0, .int .i64 15]) ∧ Below w.heap.size w w' := by
  have h : decide (inL L i ∧ inL L k) = true := decide_eq_true ⟨⟨by omega, by omega⟩, ⟨by omega, by omega⟩⟩
  have hil : (i : Int) < L.length := by omega
  have hkl : (k : Int) < L.length := by omega
  go_enter Try.func25, Try.ntmps25
  go_wp2_with (go_at_call 16; refine (phas_two B.out i k).mono ?_; rintro ev w2 ⟨rfl, B2⟩; rw [h]; have y0 := (B2.cell (p := ⟨bb, 0, none⟩) hbb).trans c0; have y1 := (B2.cell (p := ⟨g, i * 3, none⟩) hg).trans n0; have y2 := (B2.cell (p := ⟨g, k * 3, none⟩) hg).trans q0; have y3 := (B2.cell (p := ⟨g, i * 3 + 2, none⟩) hg).trans n2; have y4 := (B2.cell (p := ⟨g, k * 3 + 2, none⟩) hg).trans q2; have y5 := (B2.cell (p := ⟨b, o, none⟩) hb).trans a0; have y6 := (B2.cell (p := ⟨b5, o5, none⟩) hb5).trans s0)
  go_quiet (fail)
  try simp only [Exit.then]
  go_wp2
  go_ret2
  exact ⟨rfl, below_drewM B2 _⟩
set_option maxHeartbeats 4000000 in
theorem psigned_yes (b o l4 c4 b5 o5 l5 c5 : Nat) (hb : b < w.heap.size) (hl : 1 ≤ l4) (hlc : l4 ≤ c4) (hb5 : b5 < w.heap.size) (hl5 : 0 < l5) (q : Int) (a0 : w.cell? ⟨b, o, none⟩ = some (.int .i64 q)) (s0 : w.cell? ⟨b5, o5, none⟩ = some (.int .i64 q)) (xs : List Int) (hxs : xs.length = l4 - 1) (hR : Hid (∀ t, t < l4 - 1 → w.cell? ⟨b, o + 1 + t, none⟩ = some (.int .i64 (xs.getD t 0)))) (n0 : w.cell? ⟨g, i * 3, none⟩ = some (.int .i64 8)) (n2 : w.cell? ⟨g, i * 3 + 2, none⟩ = some (.slice (some ⟨b, o, none⟩) l4 c4)) (q0 : w.cell? ⟨g, k * 3, none⟩ = some (.int .i64 5)) (q2 : w.cell? ⟨g, k * 3 + 2, none⟩ = some (.slice (some ⟨b5, o5, none⟩) l5 c5)) : Calls Try.prog 25 #[.pointer (some ⟨bb, 0, none⟩), .int .i64 i, .int .i64 k] w fun e w' => ∃ p c, e = .returned (.tuple #[.slice p (l4 - 1) c, .int .i64 0]) ∧ RdW w' (.slice p (l4 - 1) c) xs ∧ Below w.heap.size w w' := by
  have h : decide (inL L i ∧ inL L k) = true := decide_eq_true ⟨⟨by omega, by omega⟩, ⟨by omega, by omega⟩⟩
  have hil : (i : Int) < L.length := by omega
  have hkl : (k : Int) < L.length := by omega
  go_enter Try.func25, Try.ntmps25
  go_wp2_with (go_at_call 16; refine (phas_two B.out i k).mono ?_; rintro ev w2 ⟨rfl, B2⟩; rw [h]; have y0 := (B2.cell (p := ⟨bb, 0, none⟩) hbb).trans c0; have y1 := (B2.cell (p := ⟨g, i * 3, none⟩) hg).trans n0; have y2 := (B2.cell (p := ⟨g, k * 3, none⟩) hg).trans q0; have y3 := (B2.cell (p := ⟨g, i * 3 + 2, none⟩) hg).trans n2; have y4 := (B2.cell (p := ⟨g, k * 3 + 2, none⟩) hg).trans q2; have y5 := (B2.cell (p := ⟨b, o, none⟩) hb).trans a0; have y6 := (B2.cell (p := ⟨b5, o5, none⟩) hb5).trans s0)
  go_quiet (fail)
  try simp only [Exit.then]
  go_wp2
  all_goals (
    go_ret2
    refine ⟨_, _, rfl, ?_, below_drewM B2 _⟩
    rw [← hxs]
    refine ⟨_, _, rfl, ?_⟩
    first
      | exact .inl (List.eq_nil_of_length_eq_zero (by omega))
      | exact .inr ⟨b, o + 1, rfl, Nat.lt_of_lt_of_le hb B2.size, fun t ht => (B2.cell (p := ⟨b, o + 1 + t, none⟩) hb).trans (hR.out t (by omega))⟩)
end
end Go.Proofs.Ytehkfgjnapjefaa
