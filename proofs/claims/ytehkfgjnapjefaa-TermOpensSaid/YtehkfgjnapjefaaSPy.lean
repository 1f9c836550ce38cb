/-
  STEPS: what is opened, beside both arenas. Own work.
-/
import Derived.Test.YtehkfgjnapjefaaSPx
namespace Go.Proofs.Ytehkfgjnapjefaa
open Go.RowKit Go.Maps
set_option maxRecDepth 100000
attribute [local go_sem ↓] Go.wp_at_zero Go.wp_at_succ
theorem tm_len {L : List Tm} (h : Wf L) (i : Int) : (tmAt L i).2.2.length ≤ 400 := by
  unfold tmAt
  rw [List.getD_eq_getElem?_getD]
  rcases Nat.lt_or_ge i.toNat L.length with hlt | hge
  · rw [List.getElem?_eq_getElem hlt]
    exact (shape_k (h.good _ hlt).1).2.2.2
  · rw [List.getElem?_eq_none hge]
    exact Nat.zero_le _
theorem open_len {L : List Tm} (h : Wf L) (i k : Int) : (openOf L i k).1.length ≤ 400 := by
  have := tm_len h i
  unfold openOf
  (repeat' split) <;> simp
  omega
theorem unbox_len {L : List Tm} (h : Wf L) (i k : Int) : (unboxOf L i k).1.length ≤ 400 := by
  have := tm_len h i
  unfold unboxOf
  (repeat' split) <;> simp
  omega
theorem signed_len {L : List Tm} (h : Wf L) (i k : Int) : (signedOf L i k).1.length ≤ 400 := by
  have := tm_len h i
  unfold signedOf
  (repeat' split) <;> simp
  omega
section
variable {w wr w' : World} {aa bb : Nat} {L L' : List Tm} {u v : Value} {xs : List Int}
theorem open_two (T : Two w wr aa bb L L') (i k : Int) {zs : List Int} {s : Int} (ho : openOf L i k = (zs, s)) : Calls Try.prog 19 #[.pointer (some ⟨aa, 0, none⟩), .int .i64 i, .int .i64 k] wr fun e w' => ∃ p c, e = .returned (.tuple #[.slice p zs.length c, .int .i64 s]) ∧ TwoR w w' aa bb L L' (.slice p zs.length c) (.slice p zs.length c) zs := by
  obtain ⟨Fa, Fb, A, r⟩ := T.ex
  refine (open_ok A i k).mono ?_
  intro e w' h
  rw [ho] at h
  obtain ⟨p, c, rfl, hown, hB⟩ := h
  exact ⟨p, c, rfl, T.withRow hB hown⟩
theorem unbox_two (T : Two w wr aa bb L L') (i k : Int) {zs : List Int} {s : Int} (ho : unboxOf L i k = (zs, s)) : Calls Try.prog 22 #[.pointer (some ⟨aa, 0, none⟩), .int .i64 i, .int .i64 k] wr fun e w' => ∃ p c, e = .returned (.tuple #[.slice p zs.length c, .int .i64 s]) ∧ TwoR w w' aa bb L L' (.slice p zs.length c) (.slice p zs.length c) zs := by
  obtain ⟨Fa, Fb, A, r⟩ := T.ex
  refine (unbox_ok A i k).mono ?_
  intro e w' h
  rw [ho] at h
  obtain ⟨p, c, rfl, hown, hB⟩ := h
  exact ⟨p, c, rfl, T.withRow hB hown⟩
theorem signed_two (T : Two w wr aa bb L L') (i k : Int) {zs : List Int} {s : Int} (ho : signedOf L i k = (zs, s)) : Calls Try.prog 24 #[.pointer (some ⟨aa, 0, none⟩), .int .i64 i, .int .i64 k] wr fun e w' => ∃ p c, e = .returned (.tuple #[.slice p zs.length c, .int .i64 s]) ∧ TwoR w w' aa bb L L' (.slice p zs.length c) (.slice p zs.length c) zs := by
  obtain ⟨Fa, Fb, A, r⟩ := T.ex
  refine (signed_ok A i k).mono ?_
  intro e w' h
  rw [ho] at h
  obtain ⟨p, c, rfl, hown, hB⟩ := h
  exact ⟨p, c, rfl, T.withRow hB hown⟩
theorem popen_two (T : Two w wr aa bb L L') (i k : Int) {zs : List Int} {s : Int} (ho : openOf L' i k = (zs, s)) : Calls Try.prog 20 #[.pointer (some ⟨bb, 0, none⟩), .int .i64 i, .int .i64 k] wr fun e w' => ∃ p c, e = .returned (.tuple #[.slice p zs.length c, .int .i64 s]) ∧ RdW w' (.slice p zs.length c) zs ∧ Below wr.heap.size wr w' := by
  obtain ⟨Fa, Fb, A, B, r⟩ := T.ex
  refine (popen_ok B i k).mono ?_
  intro e w' h
  rw [ho] at h
  exact h
theorem punbox_two (T : Two w wr aa bb L L') (i k : Int) {zs : List Int} {s : Int} (ho : unboxOf L' i k = (zs, s)) : Calls Try.prog 23 #[.pointer (some ⟨bb, 0, none⟩), .int .i64 i, .int .i64 k] wr fun e w' => ∃ p c, e = .returned (.tuple #[.slice p zs.length c, .int .i64 s]) ∧ RdW w' (.slice p zs.length c) zs ∧ Below wr.heap.size wr w' := by
  obtain ⟨Fa, Fb, A, B, r⟩ := T.ex
  refine (punbox_ok B i k).mono ?_
  intro e w' h
  rw [ho] at h
  exact h
theorem psigned_two (T : Two w wr aa bb L L') (i k : Int) {zs : List Int} {s : Int} (ho : signedOf L' i k = (zs, s)) : Calls Try.prog 25 #[.pointer (some ⟨bb, 0, none⟩), .int .i64 i, .int .i64 k] wr fun e w' => ∃ p c, e = .returned (.tuple #[.slice p zs.length c, .int .i64 s]) ∧ RdW w' (.slice p zs.length c) zs ∧ Below wr.heap.size wr w' := by
  obtain ⟨Fa, Fb, A, B, r⟩ := T.ex
  refine (psigned_ok B i k).mono ?_
  intro e w' h
  rw [ho] at h
  exact h
theorem Two.pben (T : Two w wr aa bb L L') {i : Nat} (hi : i < L'.length) (h : L'.length ≤ 1000) : Calls Try.prog 27 #[.pointer (some ⟨bb, 0, none⟩), .int .i64 i] wr fun e w' => ∃ p c, e = .returned (.slice p (benOf L' i).length c) ∧ RdW w' (.slice p (benOf L' i).length c) (benOf L' i) ∧ Below wr.heap.size wr w' := by
  obtain ⟨Fa, Fb, A, B, r⟩ := T.ex
  refine (pbeneath_low B h i hi).mono ?_
  rintro e w' ⟨p, c, rfl, hown, hB⟩
  exact ⟨p, c, rfl, (irow_of hown).reads.rdw, hB⟩
set_option maxHeartbeats 1000000 in
theorem ben_no (T : Hid (Two w wr aa bb L L')) (i : Int) (h : decide (inL L i) = false) : Calls Try.prog 26 #[.pointer (some ⟨aa, 0, none⟩), .int .i64 i] wr fun e w' => e = .returned (.tuple #[.slice none 0 0, .int .i64 8]) ∧ w' = wr := by
  obtain ⟨Fa, Fb, A, r⟩ := T.out.ex
  go_enter Try.func26, Try.ntmps26
  go_wp2_with (go_at_call 33; refine (has_ar A i).mono ?_; rintro ev w ⟨rfl, rfl⟩; rw [h])
  go_ret2
  exact ⟨rfl, rfl⟩
end
end Go.Proofs.Ytehkfgjnapjefaa
