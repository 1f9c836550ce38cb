/-
  THE PAGE's ARENA: Open, Unbox, Signed. Own work.
-/
import Derived.Test.YtehkfgjnapjefaaSPq
import Derived.Test.YtehkfgjnapjefaaTYa
namespace Go.Proofs.Ytehkfgjnapjefaa
open Go.RowKit Go.Maps
set_option maxRecDepth 100000
attribute [local go_sem ↓] Go.wp_at_zero Go.wp_at_succ
theorem lit2 (w : World) (x y : Int) (e : TypeId) : RdW (w.alloc (.cells #[.int .i64 x, .int .i64 y] e)) (.slice (some ⟨w.heap.size, 0, none⟩) 2 2) [x, y] := (reads_lit (w := w) (n := 2) (cs := [.int .i64 x, .int .i64 y]) [x, y] rfl rfl e).rdw
theorem phas_two {F : Nat → Prop} {w : World} {bb : Nat} {L : List Tm} (B : PAr w bb L F) (i k : Int) : Calls Try.prog 16 #[.pointer (some ⟨bb, 0, none⟩), .slice (some ⟨w.heap.size, 0, none⟩) 2 2] (w.alloc (.cells #[.int .i64 i, .int .i64 k] 3)) fun e w' => e = .returned (.bool (decide (inL L i ∧ inL L k))) ∧ Below w.heap.size w w' := by
  have hBa := (Below.refl _ w).alloc (Nat.le_refl _) (.cells #[.int .i64 i, .int .i64 k] 3)
  obtain ⟨np, cp, c0, hbb⟩ := (B.below hBa).head
  refine (phas_ok hbb c0 (lit2 w i k _) (by simp)).mono ?_
  rintro e w' ⟨rfl, hB⟩
  exact ⟨congrArg (fun b => Ending.returned (.bool b)) (decide_eq_decide.2 (by simp [inL])), hBa.trans (hB.mono (by simp))⟩
section
variable {F : Nat → Prop} {bb : Nat} {w : World} {L : List Tm}
set_option maxHeartbeats 4000000 in
theorem popen_no (B : Hid (PAr w bb L F)) (i k : Int) (h : decide (inL L i ∧ inL L k) = false) : Calls Try.prog 20 #[.pointer (some ⟨bb, 0, none⟩), .int .i64 i, .int .i64 k] w fun e w' => e = .returned (.tuple #[.slice none 0 0, .int .i64 8]) ∧ Below w.heap.size w w' := by
  go_enter Try.func20, Try.ntmps20
  go_wp2_with (go_at_call 16; refine (phas_two B.out i k).mono ?_; rintro ev w2 ⟨rfl, B2⟩; rw [h])
  go_ret2
  exact ⟨rfl, B2⟩
set_option maxHeartbeats 4000000 in
theorem punbox_no (B : Hid (PAr w bb L F)) (i k : Int) (h : decide (inL L i ∧ inL L k) = false) : Calls Try.prog 23 #[.pointer (some ⟨bb, 0, none⟩), .int .i64 i, .int .i64 k] w fun e w' => e = .returned (.tuple #[.slice none 0 0, .int .i64 8]) ∧ Below w.heap.size w w' := by
  go_enter Try.func23, Try.ntmps23
  go_wp2_with (go_at_call 16; refine (phas_two B.out i k).mono ?_; rintro ev w2 ⟨rfl, B2⟩; rw [h])
  go_ret2
  exact ⟨rfl, B2⟩
set_option maxHeartbeats 4000000 in
theorem psigned_no (B : Hid (PAr w bb L F)) (i k : Int) (h : decide (inL L i ∧ inL L k) = false) : Calls Try.prog 25 #[.pointer (some ⟨bb, 0, none⟩), .int .i64 i, .int .i64 k] w fun e w' => e = .returned (.tuple #[.slice none 0 0, .int .i64 8]) ∧ Below w.heap.size w w' := by
  go_enter Try.func25, Try.ntmps25
  go_wp2_with (go_at_call 16; refine (phas_two B.out i k).mono ?_; rintro ev w2 ⟨rfl, B2⟩; rw [h])
  go_ret2
  exact ⟨rfl, B2⟩
variable {g cp : Nat} (B : Hid (PAr w bb L F)) (i k : Nat) (hi : i < L.length) (hk : k < L.length) (c0 : w.cell? ⟨bb, 0, none⟩ = some (.slice (some ⟨g, 0, none⟩) L.length cp)) (hbb : bb < w.heap.size) (hg : g < w.heap.size)
include B hi hk c0 hbb hg
set_option maxHeartbeats 4000000 in
theorem popen_kind (kd : Int) (hkd : kd ≠ 6) (n0 : w.cell? ⟨g, i * 3, none⟩ = some (.int .i64 kd)) : Calls Try.prog 20 #[.pointer (some ⟨bb, 0, none⟩), .int .i64 i, .int .i64 k] w fun e w' => e = .returned (.tuple #[.slice none 0 0, .int .i64 6]) ∧ Below w.heap.size w w' := by
  have h : decide (inL L i ∧ inL L k) = true := decide_eq_true ⟨⟨by omega, by omega⟩, ⟨by omega, by omega⟩⟩
  have hil : (i : Int) < L.length := by omega
  go_enter Try.func20, Try.ntmps20
  go_wp2_with (go_at_call 16; refine (phas_two B.out i k).mono ?_; rintro ev w2 ⟨rfl, B2⟩; rw [h]; have y0 := (B2.cell (p := ⟨bb, 0, none⟩) hbb).trans c0; have y1 := (B2.cell (p := ⟨g, i * 3, none⟩) hg).trans n0)
  go_ret2
  exact ⟨rfl, B2⟩
set_option maxHeartbeats 4000000 in
theorem popen_else (b o l4 c4 : Nat) (q : Int) (hb : b < w.heap.size) (hl : 0 < l4) (hq : q ≠ k) (n0 : w.cell? ⟨g, i * 3, none⟩ = some (.int .i64 6)) (n2 : w.cell? ⟨g, i * 3 + 2, none⟩ = some (.slice (some ⟨b, o, none⟩) l4 c4)) (a0 : w.cell? ⟨b, o, none⟩ = some (.int .i64 q)) : Calls Try.prog 20 #[.pointer (some ⟨bb, 0, none⟩), .int .i64 i, .int .i64 k] w fun e w' => e = .returned (.tuple #[.slice none 0 0, .int .i64 3]) ∧ Below w.heap.size w w' := by
  have h : decide (inL L i ∧ inL L k) = true := decide_eq_true ⟨⟨by omega, by omega⟩, ⟨by omega, by omega⟩⟩
  have hil : (i : Int) < L.length := by omega
  go_enter Try.func20, Try.ntmps20
  go_wp2_with (go_at_call 16; refine (phas_two B.out i k).mono ?_; rintro ev w2 ⟨rfl, B2⟩; rw [h]; have y0 := (B2.cell (p := ⟨bb, 0, none⟩) hbb).trans c0; have y1 := (B2.cell (p := ⟨g, i * 3, none⟩) hg).trans n0; have y2 := (B2.cell (p := ⟨g, i * 3 + 2, none⟩) hg).trans n2; have y3 := (B2.cell (p := ⟨b, o, none⟩) hb).trans a0)
  go_ret2
  exact ⟨rfl, B2⟩
set_option maxHeartbeats 4000000 in
theorem popen_yes (b o l4 c4 : Nat) (hb : b < w.heap.size) (hl : 1 ≤ l4) (hlc : l4 ≤ c4) (xs : List Int) (hxs : xs.length = l4 - 1) (hR : Hid (∀ t, t < l4 - 1 → w.cell? ⟨b, o + 1 + t, none⟩ = some (.int .i64 (xs.getD t 0)))) (n0 : w.cell? ⟨g, i * 3, none⟩ = some (.int .i64 6)) (n2 : w.cell? ⟨g, i * 3 + 2, none⟩ = some (.slice (some ⟨b, o, none⟩) l4 c4)) (a0 : w.cell? ⟨b, o, none⟩ = some (.int .i64 k)) : Calls Try.prog 20 #[.pointer (some ⟨bb, 0, none⟩), .int .i64 i, .int .i64 k] w fun e w' => ∃ p c, e = .returned (.tuple #[.slice p (l4 - 1) c, .int .i64 0]) ∧ RdW w' (.slice p (l4 - 1) c) xs ∧ Below w.heap.size w w' := by
  have h : decide (inL L i ∧ inL L k) = true := decide_eq_true ⟨⟨by omega, by omega⟩, ⟨by omega, by omega⟩⟩
  have hil : (i : Int) < L.length := by omega
  go_enter Try.func20, Try.ntmps20
  go_wp2_with (go_at_call 16; refine (phas_two B.out i k).mono ?_; rintro ev w2 ⟨rfl, B2⟩; rw [h]; have y0 := (B2.cell (p := ⟨bb, 0, none⟩) hbb).trans c0; have y1 := (B2.cell (p := ⟨g, i * 3, none⟩) hg).trans n0; have y2 := (B2.cell (p := ⟨g, i * 3 + 2, none⟩) hg).trans n2; have y3 := (B2.cell (p := ⟨b, o, none⟩) hb).trans a0)
  all_goals (
    go_ret2
    refine ⟨_, _, rfl, ?_, B2⟩
    rw [← hxs]
    refine ⟨_, _, rfl, ?_⟩
    first
      | exact .inl (List.eq_nil_of_length_eq_zero (by omega))
      | exact .inr ⟨b, o + 1, rfl, Nat.lt_of_lt_of_le hb B2.size, fun t ht => (B2.cell (p := ⟨b, o + 1 + t, none⟩) hb).trans (hR.out t (by omega))⟩)
end
end Go.Proofs.Ytehkfgjnapjefaa
