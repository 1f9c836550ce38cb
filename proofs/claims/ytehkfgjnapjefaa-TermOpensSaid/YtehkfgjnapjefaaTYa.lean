/-
  TERMS: Signed over an arena of a list. Own work.
-/
import Derived.Test.YtehkfgjnapjefaaTZ
import Derived.Deep.RegionHeld3
import Derived.Deep.QuietTactic
import Derived.BigQuiet
namespace Go.Proofs.Ytehkfgjnapjefaa
open Go.RowKit Go.Maps
set_option maxRecDepth 100000
attribute [local go_sem ↓] Go.wp_at_zero Go.wp_at_succ
theorem below_drewM {B : Nat} {w w' : World} (h : Below B w w') (n : Nat) : Below B w (w'.drewN n) := ⟨h.os, h.tape, h.output, h.size, h.block⟩
section
variable {ab ao m : Nat} {g cp : Nat} {w : World} {np : Option Addr}
set_option maxHeartbeats 4000000 in
theorem signed_no1 (i k : Int) (c0 : w.cell? ⟨ab, ao, none⟩ = some (.slice np m cp)) (h : decide (0 ≤ i ∧ i < m) = false) : Calls Try.prog 24 #[.pointer (some ⟨ab, ao, none⟩), .int .i64 i, .int .i64 k] w fun e w' => e = .returned (.tuple #[.slice none 0 0, .int .i64 8]) ∧ w' = w := by
  go_enter Try.func24, Try.ntmps24
  go_wp2_with (go_at_call 33; refine (has_ok ⟨ab, ao, none⟩ _ _ m cp _ c0).mono ?_; rintro ev w ⟨rfl, rfl⟩; rw [h])
  go_ret2
  exact ⟨rfl, rfl⟩
set_option maxHeartbeats 4000000 in
theorem signed_no2 (i k : Int) (c0 : w.cell? ⟨ab, ao, none⟩ = some (.slice np m cp)) (h : decide (0 ≤ i ∧ i < m) = true) (h2 : decide (0 ≤ k ∧ k < m) = false) : Calls Try.prog 24 #[.pointer (some ⟨ab, ao, none⟩), .int .i64 i, .int .i64 k] w fun e w' => e = .returned (.tuple #[.slice none 0 0, .int .i64 8]) ∧ w' = w := by
  go_enter Try.func24, Try.ntmps24
  go_wp2_with (go_at_call 33; refine (has_ok ⟨ab, ao, none⟩ _ _ m cp _ c0).mono ?_; rintro ev w ⟨rfl, rfl⟩; first | rw [h] | rw [h2])
  go_ret2
  exact ⟨rfl, rfl⟩
variable (i k : Nat) (hi : i < m) (hk : k < m) (c0 : w.cell? ⟨ab, ao, none⟩ = some (.slice (some ⟨g, 0, none⟩) m cp)) (hab : ab < w.heap.size) (hg : g < w.heap.size)
include hi hk c0 hab hg
set_option maxHeartbeats 4000000 in
theorem signed_kind (kd n : Int) (nw : Int) (kw : Int) (p4 p5 : Option Addr) (l4 c4 l5 c5 : Nat) (hkd : (kd != 8) = true) (n0 : w.cell? ⟨g, i * 3, none⟩ = some (.int .i64 kd)) (n1 : w.cell? ⟨g, i * 3 + 1, none⟩ = some (.int .i64 n)) (n2 : w.cell? ⟨g, i * 3 + 2, none⟩ = some (.slice p4 l4 c4)) (q0 : w.cell? ⟨g, k * 3, none⟩ = some (.int .i64 kw)) (q1 : w.cell? ⟨g, k * 3 + 1, none⟩ = some (.int .i64 nw)) (q2 : w.cell? ⟨g, k * 3 + 2, none⟩ = some (.slice p5 l5 c5)) : Calls Try.prog 24 #[.pointer (some ⟨ab, ao, none⟩), .int .i64 i, .int .i64 k] w fun e w' => e = .returned (.tuple #[.slice none 0 0, .int .i64 6]) ∧ Below w.heap.size w w' := by
  have h : decide ((0 : Int) ≤ i ∧ (i : Int) < m) = true := decide_eq_true (by omega)
  have h2 : decide ((0 : Int) ≤ k ∧ (k : Int) < m) = true := decide_eq_true (by omega)
  have hik : (i : Int) < m := by omega
  have hkk : (k : Int) < m := by omega
  have hBB : ∀ (w : World) o1 o2, Below w.heap.size w ((w.alloc o1).alloc o2).drew := fun w o1 o2 => (((Below.refl _ w).alloc (Nat.le_refl _) o1).alloc (by simp) o2).drew
  go_enter Try.func24, Try.ntmps24
  go_wp2_with (go_at_call 33; refine (has_ok ⟨ab, ao, none⟩ _ _ m cp _ c0).mono ?_; rintro ev w ⟨rfl, rfl⟩; first | rw [h] | rw [h2])
  go_region_held3 (fun w' => w'.cell? ⟨ab, ao, none⟩ = some (.slice (some ⟨g, 0, none⟩) m cp) ∧ w'.cell? ⟨g, i * 3, none⟩ = some (.int .i64 kd) ∧ w'.cell? ⟨g, i * 3 + 1, none⟩ = some (.int .i64 n) ∧ w'.cell? ⟨g, i * 3 + 2, none⟩ = some (.slice p4 l4 c4) ∧ w'.cell? ⟨g, k * 3, none⟩ = some (.int .i64 kw) ∧ w'.cell? ⟨g, k * 3 + 1, none⟩ = some (.int .i64 nw) ∧ w'.cell? ⟨g, k * 3 + 2, none⟩ = some (.slice p5 l5 c5))
    (go_keep) (first | (go_at_call 30; fail))
  all_goals (
    try simp only [Exit.then]
    go_wp2
    go_ret2
    exact ⟨rfl, hBB _ _ _⟩)
set_option maxHeartbeats 4000000 in
theorem signed_whom (n : Int) (nw : Int) (kw : Int) (p4 p5 : Option Addr) (l4 c4 l5 c5 : Nat) (hkw : (kw != 5) = true) (n0 : w.cell? ⟨g, i * 3, none⟩ = some (.int .i64 8)) (n1 : w.cell? ⟨g, i * 3 + 1, none⟩ = some (.int .i64 n)) (n2 : w.cell? ⟨g, i * 3 + 2, none⟩ = some (.slice p4 l4 c4)) (q0 : w.cell? ⟨g, k * 3, none⟩ = some (.int .i64 kw)) (q1 : w.cell? ⟨g, k * 3 + 1, none⟩ = some (.int .i64 nw)) (q2 : w.cell? ⟨g, k * 3 + 2, none⟩ = some (.slice p5 l5 c5)) : Calls Try.prog 24 #[.pointer (some ⟨ab, ao, none⟩), .int .i64 i, .int .i64 k] w fun e w' => e = .returned (.tuple #[.slice none 0 0, .int .i64 6]) ∧ Below w.heap.size w w' := by
  have h : decide ((0 : Int) ≤ i ∧ (i : Int) < m) = true := decide_eq_true (by omega)
  have h2 : decide ((0 : Int) ≤ k ∧ (k : Int) < m) = true := decide_eq_true (by omega)
  have hik : (i : Int) < m := by omega
  have hkk : (k : Int) < m := by omega
  have hBB : ∀ (w : World) o1 o2, Below w.heap.size w ((w.alloc o1).alloc o2).drew := fun w o1 o2 => (((Below.refl _ w).alloc (Nat.le_refl _) o1).alloc (by simp) o2).drew
  go_enter Try.func24, Try.ntmps24
  go_wp2_with (go_at_call 33; refine (has_ok ⟨ab, ao, none⟩ _ _ m cp _ c0).mono ?_; rintro ev w ⟨rfl, rfl⟩; first | rw [h] | rw [h2])
  go_region_held3 (fun w' => w'.cell? ⟨ab, ao, none⟩ = some (.slice (some ⟨g, 0, none⟩) m cp) ∧ w'.cell? ⟨g, i * 3, none⟩ = some (.int .i64 8) ∧ w'.cell? ⟨g, i * 3 + 1, none⟩ = some (.int .i64 n) ∧ w'.cell? ⟨g, i * 3 + 2, none⟩ = some (.slice p4 l4 c4) ∧ w'.cell? ⟨g, k * 3, none⟩ = some (.int .i64 kw) ∧ w'.cell? ⟨g, k * 3 + 1, none⟩ = some (.int .i64 nw) ∧ w'.cell? ⟨g, k * 3 + 2, none⟩ = some (.slice p5 l5 c5))
    (go_keep) (first | (go_at_call 30; fail))
  all_goals (
    try simp only [Exit.then]
    go_wp2
    go_ret2
    exact ⟨rfl, hBB _ _ _⟩)
set_option maxHeartbeats 4000000 in
theorem signed_else (n : Int) (nw : Int) (b o l4 c4 b5 o5 l5 c5 : Nat) (hb : b < w.heap.size) (hl : 0 < l4) (hb5 : b5 < w.heap.size) (hl5 : 0 < l5) (q s : Int) (a0 : w.cell? ⟨b, o, none⟩ = some (.int .i64 q)) (s0 : w.cell? ⟨b5, o5, none⟩ = some (.int .i64 s)) (hqs : (q != s) = true) (n0 : w.cell? ⟨g, i * 3, none⟩ = some (.int .i64 8)) (n1 : w.cell? ⟨g, i * 3 + 1, none⟩ = some (.int .i64 n)) (n2 : w.cell? ⟨g, i * 3 + 2, none⟩ = some (.slice (some ⟨b, o, none⟩) l4 c4)) (q0 : w.cell? ⟨g, k * 3, none⟩ = some (.int .i64 5)) (q1 : w.cell? ⟨g, k * 3 + 1, none⟩ = some (.int .i64 nw)) (q2 : w.cell? ⟨g, k * 3 + 2, none⟩ = some (.slice (some ⟨b5, o5, none⟩) l5 c5)) : Calls Try.prog 24 #[.pointer (some ⟨ab, ao, none⟩), .int .i64 i, .int .i64 k] w fun e w' => e = .returned (.tuple #[.slice none 0 0, .int .i64 15]) ∧ Below w.heap.size w w' := by
  have h : decide ((0 : Int) ≤ i ∧ (i : Int) < m) = true := decide_eq_true (by omega)
  have h2 : decide ((0 : Int) ≤ k ∧ (k : Int) < m) = true := decide_eq_true (by omega)
  have hik : (i : Int) < m := by omega
  have hkk : (k : Int) < m := by omega
  have hBB : ∀ (w : World) o1 o2, Below w.heap.size w ((w.alloc o1).alloc o2).drew := fun w o1 o2 => (((Below.refl _ w).alloc (Nat.le_refl _) o1).alloc (by simp) o2).drew
  go_enter Try.func24, Try.ntmps24
  go_wp2_with (go_at_call 33; refine (has_ok ⟨ab, ao, none⟩ _ _ m cp _ c0).mono ?_; rintro ev w ⟨rfl, rfl⟩; first | rw [h] | rw [h2])
  go_region_held3 (fun w' => w'.cell? ⟨ab, ao, none⟩ = some (.slice (some ⟨g, 0, none⟩) m cp) ∧ w'.cell? ⟨g, i * 3, none⟩ = some (.int .i64 8) ∧ w'.cell? ⟨g, i * 3 + 1, none⟩ = some (.int .i64 n) ∧ w'.cell? ⟨g, i * 3 + 2, none⟩ = some (.slice (some ⟨b, o, none⟩) l4 c4) ∧ w'.cell? ⟨g, k * 3, none⟩ = some (.int .i64 5) ∧ w'.cell? ⟨g, k * 3 + 1, none⟩ = some (.int .i64 nw) ∧ w'.cell? ⟨g, k * 3 + 2, none⟩ = some (.slice (some ⟨b5, o5, none⟩) l5 c5))
    (go_keep) (first | (go_at_call 30; fail))
  all_goals (
    try simp only [Exit.then]
    go_wp2
    go_quiet (fail)
    try simp only [Exit.then]
    go_wp2
    go_ret2
    exact ⟨rfl, below_drewM (hBB _ _ _) _⟩)
set_option maxHeartbeats 4000000 in
theorem signed_yes (n : Int) (nw : Int) (b o l4 c4 b5 o5 l5 c5 : Nat) (hb : b < w.heap.size) (hl : 0 < l4) (hb5 : b5 < w.heap.size) (hl5 : 0 < l5) (hlc : l4 ≤ c4) (q : Int) (a0 : w.cell? ⟨b, o, none⟩ = some (.int .i64 q)) (s0 : w.cell? ⟨b5, o5, none⟩ = some (.int .i64 q)) (xs : List Int) (hxs : xs.length = l4 - 1) (h4 : l4 ≤ 1000) (hR : Hid (Reads w (.slice (some ⟨b, o + 1, none⟩) (l4 - 1) (c4 - 1)) xs)) (hR2 : Hid (c4 = 1 → Reads w (.slice (some ⟨b, o, none⟩) (l4 - 1) 0) xs)) (n0 : w.cell? ⟨g, i * 3, none⟩ = some (.int .i64 8)) (n1 : w.cell? ⟨g, i * 3 + 1, none⟩ = some (.int .i64 n)) (n2 : w.cell? ⟨g, i * 3 + 2, none⟩ = some (.slice (some ⟨b, o, none⟩) l4 c4)) (q0 : w.cell? ⟨g, k * 3, none⟩ = some (.int .i64 5)) (q1 : w.cell? ⟨g, k * 3 + 1, none⟩ = some (.int .i64 nw)) (q2 : w.cell? ⟨g, k * 3 + 2, none⟩ = some (.slice (some ⟨b5, o5, none⟩) l5 c5)) : Calls Try.prog 24 #[.pointer (some ⟨ab, ao, none⟩), .int .i64 i, .int .i64 k] w fun e w' => ∃ p c, e = .returned (.tuple #[.slice p (l4 - 1) c, .int .i64 0]) ∧ w'.ownsRow w.heap.size 3 1 (.slice p (l4 - 1) c) (l4 - 1) (xs.map (Value.int .i64)) ∧ Below w.heap.size w w' := by
  have h : decide ((0 : Int) ≤ i ∧ (i : Int) < m) = true := decide_eq_true (by omega)
  have h2 : decide ((0 : Int) ≤ k ∧ (k : Int) < m) = true := decide_eq_true (by omega)
  have hik : (i : Int) < m := by omega
  have hkk : (k : Int) < m := by omega
  have hBB : ∀ (w : World) o1 o2, Below w.heap.size w ((w.alloc o1).alloc o2).drew := fun w o1 o2 => (((Below.refl _ w).alloc (Nat.le_refl _) o1).alloc (by simp) o2).drew
  have hBD : ∀ (w : World) o1 o2 n, Below w.heap.size w (((w.alloc o1).alloc o2).drewN n) := fun w o1 o2 n => below_drewM (((Below.refl _ w).alloc (Nat.le_refl _) o1).alloc (by simp) o2) n
  go_enter Try.func24, Try.ntmps24
  go_wp2_with (go_at_call 33; refine (has_ok ⟨ab, ao, none⟩ _ _ m cp _ c0).mono ?_; rintro ev w ⟨rfl, rfl⟩; first | rw [h] | rw [h2])
  go_region_held3 (fun w' => w'.cell? ⟨ab, ao, none⟩ = some (.slice (some ⟨g, 0, none⟩) m cp) ∧ w'.cell? ⟨g, i * 3, none⟩ = some (.int .i64 8) ∧ w'.cell? ⟨g, i * 3 + 1, none⟩ = some (.int .i64 n) ∧ w'.cell? ⟨g, i * 3 + 2, none⟩ = some (.slice (some ⟨b, o, none⟩) l4 c4) ∧ w'.cell? ⟨g, k * 3, none⟩ = some (.int .i64 5) ∧ w'.cell? ⟨g, k * 3 + 1, none⟩ = some (.int .i64 nw) ∧ w'.cell? ⟨g, k * 3 + 2, none⟩ = some (.slice (some ⟨b5, o5, none⟩) l5 c5))
    (go_keep) (first | (go_at_call 30; fail))
  all_goals (
    try simp only [Exit.then]
    go_wp2
    go_quiet (fail)
    try simp only [Exit.then]
    go_wp2_with (go_at_call 34; refine (clone_rd (by first | exact Reads.below (hR2.out (by omega)) (hBD _ _ _ _) | exact Reads.below hR.out (hBD _ _ _ _)) (by omega)).mono ?_; rintro ev w4 ⟨p5, c5, rfl, hown4, hB4⟩; rw [hxs] at hown4; simp only [hxs])
    all_goals (
      go_ret2
      exact ⟨p5, c5, rfl, row_lower hown4 (by simp; omega), (hBD _ _ _ _).trans (hB4.mono (by simp; omega))⟩))
end
/-- WHAT SIGNED ANSWERS. -/
def signedOf (L : List Tm) (i k : Int) : List Int × Int :=
  if ¬ (inL L i ∧ inL L k) then ([], 8) else if (tmAt L i).1 ≠ 8 ∨ (tmAt L k).1 ≠ 5 then ([], 6) else if arg0 (tmAt L i) ≠ arg0 (tmAt L k) then ([], 15) else ((tmAt L i).2.2.drop 1, 0)
theorem signed_ok {F : Nat → Prop} {w : World} {ab : Nat} {L : List Tm} (A : Ar w ab L F) (i k : Int) : Calls Try.prog 24 #[.pointer (some ⟨ab, 0, none⟩), .int .i64 i, .int .i64 k] w (TellsRow w (signedOf L i k)) := by
  obtain ⟨np, cp, c0, hab⟩ := A.head
  unfold signedOf
  by_cases hi : inL L i
  rotate_left
  · rw [if_pos (fun h => hi h.1)]
    refine (signed_no1 i k c0 (decide_eq_false hi)).mono ?_
    rintro e w' ⟨rfl, rfl⟩
    exact tells_none (Below.refl _ _)
  by_cases hk : inL L k
  rotate_left
  · rw [if_pos (fun h => hk h.2)]
    refine (signed_no2 i k c0 (decide_eq_true hi) (decide_eq_false hk)).mono ?_
    rintro e w' ⟨rfl, rfl⟩
    exact tells_none (Below.refl _ _)
  rw [if_neg (fun h => h ⟨hi, hk⟩)]
  obtain ⟨i, rfl⟩ : ∃ j : Nat, i = j := ⟨i.toNat, by have := hi.1; omega⟩
  obtain ⟨k, rfl⟩ : ∃ j : Nat, k = j := ⟨k.toNat, by have := hk.1; omega⟩
  have hi' : i < L.length := by have := hi.2; omega
  have hk' : k < L.length := by have := hk.2; omega
  rw [tmAt_nat hi', tmAt_nat hk']
  obtain ⟨g, cp, p4, c4, c0, hab, hg, _, n0, n1, n2, _⟩ := A.node i hi'
  obtain ⟨g', cp', p5, c5, c0', _, _, _, q0, q1, q2, _⟩ := A.node k hk'
  rw [c0] at c0'
  injection c0' with c0'
  injection c0' with c0' _ _
  injection c0' with c0'
  injection c0' with c0' _ _
  subst c0'
  by_cases h8 : L[i].1 = 8
  rotate_left
  · rw [if_pos (.inl h8)]
    refine (signed_kind i k hi' hk' c0 hab hg _ _ _ _ p4 p5 _ c4 _ c5 (by simpa using h8) n0 n1 n2 q0 q1 q2).mono ?_
    rintro e w' ⟨rfl, hB⟩
    exact tells_none hB
  rw [h8] at n0
  by_cases h5 : L[k].1 = 5
  rotate_left
  · rw [if_pos (.inr h5)]
    refine (signed_whom i k hi' hk' c0 hab hg _ _ _ p4 p5 _ c4 _ c5 (by simpa using h5) n0 n1 n2 q0 q1 q2).mono ?_
    rintro e w' ⟨rfl, hB⟩
    exact tells_none hB
  rw [if_neg (fun h => by rcases h with h | h; exact h h8; exact h h5)]
  clear n0 n1 n2 q0 q1 q2
  have hl := kind68 (A.wf.good i hi').1 (.inr h8)
  have hl5 := kind5 (A.wf.good k hk').1 h5
  obtain ⟨g1, cp1, b, c4, e0, _, _, n0, n1, n2, hb, hc, hcs⟩ := A.args i hi' (by omega)
  rw [c0] at e0
  injection e0 with e0
  injection e0 with e0 _ _
  injection e0 with e0
  injection e0 with e0 _ _
  subst e0
  obtain ⟨g2, cp2, b5, c5, e0, _, _, q0, q1, q2, hb5, hc5, hcs5⟩ := A.args k hk' (by omega)
  rw [c0] at e0
  injection e0 with e0
  injection e0 with e0 _ _
  injection e0 with e0
  injection e0 with e0 _ _
  subst e0
  have a0 := hcs 0 (by omega)
  have s0 := hcs5 0 (by omega)
  rw [h8] at n0
  rw [h5] at q0
  by_cases hs : arg0 L[i] = arg0 L[k]
  · rw [if_neg (fun h => h hs)]
    rw [show L[k].2.2.getD 0 0 = L[i].2.2.getD 0 0 from hs.symm] at s0
    refine (signed_yes i k hi' hk' c0 hab hg _ _ b 0 _ c4 b5 0 _ c5 hb hl hb5 (by omega) hc _ a0 s0 (L[i].2.2.drop 1) (by simp) (by have := (shape_k (A.wf.good i hi').1).2.2.2; omega) (drop_reads 1 hb rfl hl hcs) (fun h => .inr ⟨b, 0, 0, by simp, hb, fun t ht => by simp at ht; omega⟩) n0 n1 n2 q0 q1 q2).mono ?_
    rintro e w' ⟨p, c, rfl, hown, hB⟩
    have e2 : (L[i].2.2.drop 1).length = L[i].2.2.length - 1 := by simp
    unfold TellsRow
    simp only [e2]
    exact ⟨p, c, rfl, hown, hB⟩
  · rw [if_pos hs]
    refine (signed_else i k hi' hk' c0 hab hg _ _ b 0 _ c4 b5 0 _ c5 hb hl hb5 (by omega) _ _ a0 s0 (bne_iff_ne.2 hs) n0 n1 n2 q0 q1 q2).mono ?_
    rintro e w' ⟨rfl, hB⟩
    exact tells_none hB
end Go.Proofs.Ytehkfgjnapjefaa
