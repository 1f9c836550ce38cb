/-
  TERMS: Unbox, Open, Signed over an arena of a list. Own work.
-/
import Derived.Test.YtenllpaochcjfaaDoorTW
namespace Go.Proofs.YtenllpaochcjfaaDoor
open Go.RowKit Go.Maps
set_option maxRecDepth 100000
attribute [local go_sem ↓] Go.wp_at_zero Go.wp_at_succ
section
variable {ab ao m : Nat} {g cp : Nat} {w : World} {np : Option Addr}
set_option maxHeartbeats 4000000 in
theorem unbox_no1 (i k : Int) (c0 : w.cell? ⟨ab, ao, none⟩ = some (.slice np m cp)) (h : decide (0 ≤ i ∧ i < m) = false) : Calls Tryd.prog 35 #[.pointer (some ⟨ab, ao, none⟩), .int .i64 i, .int .i64 k] w fun e w' => e = .returned (.tuple #[.slice none 0 0, .int .i64 8]) ∧ w' = w := by
  go_enter Tryd.func35, Tryd.ntmps35
  go_wp2_with (go_at_call 43; refine (has_ok ⟨ab, ao, none⟩ _ _ m cp _ c0).mono ?_; rintro ev w ⟨rfl, rfl⟩; rw [h])
  go_ret2
  exact ⟨rfl, rfl⟩
set_option maxHeartbeats 4000000 in
theorem unbox_no2 (i k : Int) (c0 : w.cell? ⟨ab, ao, none⟩ = some (.slice np m cp)) (h : decide (0 ≤ i ∧ i < m) = true) (h2 : decide (0 ≤ k ∧ k < m) = false) : Calls Tryd.prog 35 #[.pointer (some ⟨ab, ao, none⟩), .int .i64 i, .int .i64 k] w fun e w' => e = .returned (.tuple #[.slice none 0 0, .int .i64 8]) ∧ w' = w := by
  go_enter Tryd.func35, Tryd.ntmps35
  go_wp2_with (go_at_call 43; refine (has_ok ⟨ab, ao, none⟩ _ _ m cp _ c0).mono ?_; rintro ev w ⟨rfl, rfl⟩; first | rw [h] | rw [h2])
  go_ret2
  exact ⟨rfl, rfl⟩
variable (i k : Nat) (hi : i < m) (hk : k < m) (c0 : w.cell? ⟨ab, ao, none⟩ = some (.slice (some ⟨g, 0, none⟩) m cp)) (hab : ab < w.heap.size) (hg : g < w.heap.size)
include hi hk c0 hab hg
set_option maxHeartbeats 4000000 in
theorem unbox_kind (kd n : Int) (p4 : Option Addr) (l4 c4 : Nat) (n0 : w.cell? ⟨g, i * 3, none⟩ = some (.int .i64 kd)) (n1 : w.cell? ⟨g, i * 3 + 1, none⟩ = some (.int .i64 n)) (n2 : w.cell? ⟨g, i * 3 + 2, none⟩ = some (.slice p4 l4 c4)) (hkd : kd ≠ 7) : Calls Tryd.prog 35 #[.pointer (some ⟨ab, ao, none⟩), .int .i64 i, .int .i64 k] w fun e w' => e = .returned (.tuple #[.slice none 0 0, .int .i64 6]) ∧ Below w.heap.size w w' := by
  have h : decide ((0 : Int) ≤ i ∧ (i : Int) < m) = true := decide_eq_true (by omega)
  have h2 : decide ((0 : Int) ≤ k ∧ (k : Int) < m) = true := decide_eq_true (by omega)
  go_enter Tryd.func35, Tryd.ntmps35
  go_wp2_with (go_at_call 43; refine (has_ok ⟨ab, ao, none⟩ _ _ m cp _ c0).mono ?_; rintro ev w ⟨rfl, rfl⟩; first | rw [h] | rw [h2])
  go_ret2
  exact ⟨rfl, (Below.refl _ w).alloc (Nat.le_refl _) _⟩
set_option maxHeartbeats 4000000 in
theorem unbox_whom (n : Int) (b o l4 c4 : Nat) (q : Nat) (n0 : w.cell? ⟨g, i * 3, none⟩ = some (.int .i64 7)) (n1 : w.cell? ⟨g, i * 3 + 1, none⟩ = some (.int .i64 n)) (n2 : w.cell? ⟨g, i * 3 + 2, none⟩ = some (.slice (some ⟨b, o, none⟩) l4 c4)) (hb : b < w.heap.size) (hl : 0 < l4) (a0 : w.cell? ⟨b, o, none⟩ = some (.int .i64 q)) (hq : q < m)
    (kw nw : Int) (p5 : Option Addr) (l5 c5 : Nat) (q0 : w.cell? ⟨g, q * 3, none⟩ = some (.int .i64 kw)) (q1 : w.cell? ⟨g, q * 3 + 1, none⟩ = some (.int .i64 nw)) (q2 : w.cell? ⟨g, q * 3 + 2, none⟩ = some (.slice p5 l5 c5)) (hkw : kw ≠ 5) : Calls Tryd.prog 35 #[.pointer (some ⟨ab, ao, none⟩), .int .i64 i, .int .i64 k] w fun e w' => e = .returned (.tuple #[.slice none 0 0, .int .i64 3]) ∧ Below w.heap.size w w' := by
  have h : decide ((0 : Int) ≤ i ∧ (i : Int) < m) = true := decide_eq_true (by omega)
  have h2 : decide ((0 : Int) ≤ k ∧ (k : Int) < m) = true := decide_eq_true (by omega)
  have hqq : (q : Int) < m := by omega
  go_enter Tryd.func35, Tryd.ntmps35
  go_wp2_with (go_at_call 43; refine (has_ok ⟨ab, ao, none⟩ _ _ m cp _ c0).mono ?_; rintro ev w ⟨rfl, rfl⟩; first | rw [h] | rw [h2])
  go_region
  go_wp2_with (fail)
  go_ret2
  exact ⟨rfl, (((Below.refl _ w).alloc (Nat.le_refl _) _).alloc (by simp) _).drew⟩
set_option maxHeartbeats 4000000 in
theorem unbox_else (n : Int) (b o l4 c4 : Nat) (q : Nat) (n0 : w.cell? ⟨g, i * 3, none⟩ = some (.int .i64 7)) (n1 : w.cell? ⟨g, i * 3 + 1, none⟩ = some (.int .i64 n)) (n2 : w.cell? ⟨g, i * 3 + 2, none⟩ = some (.slice (some ⟨b, o, none⟩) l4 c4)) (hb : b < w.heap.size) (hl : 0 < l4) (a0 : w.cell? ⟨b, o, none⟩ = some (.int .i64 q)) (hq : q < m)
    (nw : Int) (b5 o5 l5 c5 : Nat) (q0 : w.cell? ⟨g, q * 3, none⟩ = some (.int .i64 5)) (q1 : w.cell? ⟨g, q * 3 + 1, none⟩ = some (.int .i64 nw)) (q2 : w.cell? ⟨g, q * 3 + 2, none⟩ = some (.slice (some ⟨b5, o5, none⟩) l5 c5)) (hb5 : b5 < w.heap.size) (hl5 : 0 < l5) (s : Int) (s0 : w.cell? ⟨b5, o5, none⟩ = some (.int .i64 s)) (hs : s ≠ k) : Calls Tryd.prog 35 #[.pointer (some ⟨ab, ao, none⟩), .int .i64 i, .int .i64 k] w fun e w' => e = .returned (.tuple #[.slice none 0 0, .int .i64 3]) ∧ Below w.heap.size w w' := by
  have h : decide ((0 : Int) ≤ i ∧ (i : Int) < m) = true := decide_eq_true (by omega)
  have h2 : decide ((0 : Int) ≤ k ∧ (k : Int) < m) = true := decide_eq_true (by omega)
  have hqq : (q : Int) < m := by omega
  go_enter Tryd.func35, Tryd.ntmps35
  go_wp2_with (go_at_call 43; refine (has_ok ⟨ab, ao, none⟩ _ _ m cp _ c0).mono ?_; rintro ev w ⟨rfl, rfl⟩; first | rw [h] | rw [h2])
  go_region
  go_wp2_with (fail)
  go_ret2
  exact ⟨rfl, (((Below.refl _ w).alloc (Nat.le_refl _) _).alloc (by simp) _).drew⟩
set_option maxHeartbeats 4000000 in
theorem unbox_yes (n : Int) (b o l4 c4 : Nat) (q : Nat) (n0 : w.cell? ⟨g, i * 3, none⟩ = some (.int .i64 7)) (n1 : w.cell? ⟨g, i * 3 + 1, none⟩ = some (.int .i64 n)) (n2 : w.cell? ⟨g, i * 3 + 2, none⟩ = some (.slice (some ⟨b, o, none⟩) l4 c4)) (hb : b < w.heap.size) (hl : 2 ≤ l4) (hlc : l4 ≤ c4) (a0 : w.cell? ⟨b, o, none⟩ = some (.int .i64 q)) (hq : q < m)
    (nw : Int) (b5 o5 l5 c5 : Nat) (q0 : w.cell? ⟨g, q * 3, none⟩ = some (.int .i64 5)) (q1 : w.cell? ⟨g, q * 3 + 1, none⟩ = some (.int .i64 nw)) (q2 : w.cell? ⟨g, q * 3 + 2, none⟩ = some (.slice (some ⟨b5, o5, none⟩) l5 c5)) (hb5 : b5 < w.heap.size) (hl5 : 0 < l5) (s0 : w.cell? ⟨b5, o5, none⟩ = some (.int .i64 k)) (xs : List Int) (hxs : xs.length = l4 - 2) (h4 : l4 ≤ 1000) (hR : Reads w (.slice (some ⟨b, o + 2, none⟩) (l4 - 2) (c4 - 2)) xs) (hR2 : c4 = 2 → Reads w (.slice (some ⟨b, o, none⟩) (l4 - 2) 0) xs) : Calls Tryd.prog 35 #[.pointer (some ⟨ab, ao, none⟩), .int .i64 i, .int .i64 k] w fun e w' => ∃ p c, e = .returned (.tuple #[.slice p (l4 - 2) c, .int .i64 0]) ∧ w'.ownsRow w.heap.size 3 1 (.slice p (l4 - 2) c) (l4 - 2) (xs.map (Value.int .i64)) ∧ Below w.heap.size w w' := by
  have h : decide ((0 : Int) ≤ i ∧ (i : Int) < m) = true := decide_eq_true (by omega)
  have h2 : decide ((0 : Int) ≤ k ∧ (k : Int) < m) = true := decide_eq_true (by omega)
  have hqq : (q : Int) < m := by omega
  have hBB : ∀ (w : World) o1 o2, Below w.heap.size w ((w.alloc o1).alloc o2).drew := fun w o1 o2 => (((Below.refl _ w).alloc (Nat.le_refl _) o1).alloc (by simp) o2).drew
  go_enter Tryd.func35, Tryd.ntmps35
  go_wp2_with (go_at_call 43; refine (has_ok ⟨ab, ao, none⟩ _ _ m cp _ c0).mono ?_; rintro ev w ⟨rfl, rfl⟩; first | rw [h] | rw [h2])
  go_region
  try simp only [Exit.then]
  go_wp2_with (go_at_call 45; refine (clone_rd (by first | exact (hR2 (by omega)).below (hBB _ _ _) | exact hR.below (hBB _ _ _)) (by omega)).mono ?_; rintro ev w4 ⟨p5, c5, rfl, hown4, hB4⟩; rw [hxs] at hown4; simp only [hxs])
  all_goals (
    go_ret2
    exact ⟨p5, c5, rfl, row_lower hown4 (by simp; omega), (hBB _ _ _).trans (hB4.mono (by simp; omega))⟩)
end
/-! over an arena of a list -/
def inL (L : List Tm) (i : Int) : Prop := 0 ≤ i ∧ i < L.length
instance (L : List Tm) (i : Int) : Decidable (inL L i) := inferInstanceAs (Decidable (_ ∧ _))
def tmAt (L : List Tm) (i : Int) : Tm := L.getD i.toNat (0, 0, [])
def arg0 (t : Tm) : Int := t.2.2.getD 0 0
theorem tmAt_nat {L : List Tm} {i : Nat} (h : i < L.length) : tmAt L (i : Int) = L[i] := by
  unfold tmAt
  rw [Int.toNat_natCast, List.getD_eq_getElem?_getD, List.getElem?_eq_getElem h]
  rfl
theorem has_ar {F : Nat → Prop} {w : World} {ab : Nat} {L : List Tm} (A : Ar w ab L F) (i : Int) : Calls Tryd.prog 43 #[.pointer (some ⟨ab, 0, none⟩), .int .i64 i] w fun e w' => e = .returned (.bool (decide (inL L i))) ∧ w' = w := by
  obtain ⟨np, cp, c0, hab⟩ := A.head
  exact has_ok _ i _ _ _ _ c0
/-- Where the args of a node lie that has some. -/
theorem Ar.args {w : World} {ab : Nat} {L : List Tm} {F : Nat → Prop} (A : Ar w ab L F) (i : Nat) (hi : i < L.length) (h0 : 0 < L[i].2.2.length) : ∃ g cp b c4, w.cell? ⟨ab, 0, none⟩ = some (.slice (some ⟨g, 0, none⟩) L.length cp) ∧ ab < w.heap.size ∧ g < w.heap.size ∧
    w.cell? ⟨g, i * 3, none⟩ = some (.int .i64 L[i].1) ∧ w.cell? ⟨g, i * 3 + 1, none⟩ = some (.int .i64 L[i].2.1) ∧ w.cell? ⟨g, i * 3 + 2, none⟩ = some (.slice (some ⟨b, 0, none⟩) L[i].2.2.length c4) ∧ b < w.heap.size ∧ L[i].2.2.length ≤ c4 ∧ (∀ t, t < L[i].2.2.length → w.cell? ⟨b, t, none⟩ = some (.int .i64 (L[i].2.2.getD t 0))) := by
  obtain ⟨np, cp, mb, D, vs, hA, hR, hM, hm, ho⟩ := A.ex
  have hi' : i < vs.length := by rw [hR.len]; exact hi
  obtain ⟨e0, e1, e2⟩ := cellsOf_at hR.len i hi hi'
  have hrow := hA.row
  rcases hrow.2 with ⟨h, h0⟩ | ⟨g, cap, cur, h, _, hg, _⟩
  · omega
  · cases h
    have hx := hR.row i hi hi'
    have hlen := hrow.1
    have cAt := fun j hj => World.ownsRow.cellAt hrow j hj
    rcases hx.2 with ⟨_, h⟩ | ⟨b, c4, cur4, h, _, hb, hc, _⟩
    · omega
    refine ⟨g, cp, b, c4, hA.c0, hA.lt, (Array.getElem?_eq_some_iff.1 hg).1, (cAt _ (by omega)).trans e0, (cAt _ (by omega)).trans e1, ?_, (Array.getElem?_eq_some_iff.1 hb).1, hc, fun t ht => ?_⟩
    · rw [← h]
      exact (cAt _ (by omega)).trans e2
    · rw [h] at hx
      exact hx.cellAt t ht
theorem kind7 {t : Tm} (h : shape t = 0) (h7 : t.1 = 7) : 2 ≤ t.2.2.length := by
  unfold shape rightOf leastOf mostOf at h
  rw [h7] at h
  repeat' split at h
  all_goals omega
theorem kind5 {t : Tm} (h : shape t = 0) (h5 : t.1 = 5) : t.2.2.length = 1 := by
  unfold shape rightOf leastOf mostOf at h
  rw [h5] at h
  repeat' split at h
  all_goals omega
theorem kind68 {t : Tm} (h : shape t = 0) (h7 : t.1 = 6 ∨ t.1 = 8) : 1 ≤ t.2.2.length := by
  unfold shape rightOf leastOf mostOf at h
  repeat' split at h
  all_goals omega
theorem Wf.arg0 {L : List Tm} (h : Wf L) {i : Nat} (hi : i < L.length) (h0 : 0 < L[i].2.2.length) : ∃ q : Nat, q < i ∧ L[i].2.2.getD 0 0 = q := by
  have hf := (h.good i hi).2.2
  have h1 : L[i].2.2.getD 0 0 = L[i].2.2[0] := by rw [List.getD_eq_getElem?_getD, List.getElem?_eq_getElem h0]; rfl
  have h2 := hf _ (List.getElem_mem h0)
  exact ⟨(L[i].2.2[0]).toNat, by omega, by rw [h1]; omega⟩
/-- WHAT UNBOX ANSWERS. -/
def unboxOf (L : List Tm) (i k : Int) : List Int × Int :=
  if ¬ (inL L i ∧ inL L k) then ([], 8) else if (tmAt L i).1 ≠ 7 then ([], 6) else if (tmAt L (arg0 (tmAt L i))).1 ≠ 5 ∨ arg0 (tmAt L (arg0 (tmAt L i))) ≠ k then ([], 3) else ((tmAt L i).2.2.drop 2, 0)
def TellsRow (w : World) (a : List Int × Int) (e : Ending) (w' : World) : Prop := ∃ p c, e = .returned (.tuple #[.slice p a.1.length c, .int .i64 a.2]) ∧ w'.ownsRow w.heap.size 3 1 (.slice p a.1.length c) a.1.length (a.1.map (Value.int .i64)) ∧ Below w.heap.size w w'
theorem tells_none {w w' : World} {n : Int} (h : Below w.heap.size w w') : TellsRow w ([], n) (.returned (.tuple #[.slice none 0 0, .int .i64 n])) w' := ⟨none, 0, rfl, World.ownsRow_nil _ _ _ _, h⟩
theorem drop_reads {w : World} {b l c : Nat} {xs : List Int} (d : Nat) (hb : b < w.heap.size) (hl : xs.length = l) (hd : d ≤ l) (hc : ∀ t, t < l → w.cell? ⟨b, t, none⟩ = some (.int .i64 (xs.getD t 0))) : Reads w (.slice (some ⟨b, 0 + d, none⟩) (l - d) c) (xs.drop d) := by
  refine .inr ⟨b, 0 + d, c, by rw [List.length_drop, hl], hb, fun t ht => ?_⟩
  rw [List.length_drop, hl] at ht
  rw [Nat.zero_add, hc _ (by omega), List.getD_eq_getElem?_getD, List.getD_eq_getElem?_getD, List.getElem?_drop]
theorem unbox_ok {F : Nat → Prop} {w : World} {ab : Nat} {L : List Tm} (A : Ar w ab L F) (i k : Int) : Calls Tryd.prog 35 #[.pointer (some ⟨ab, 0, none⟩), .int .i64 i, .int .i64 k] w (TellsRow w (unboxOf L i k)) := by
  obtain ⟨np, cp, c0, hab⟩ := A.head
  unfold unboxOf
  by_cases hi : inL L i
  rotate_left
  · rw [if_pos (fun h => hi h.1)]
    refine (unbox_no1 i k c0 (decide_eq_false hi)).mono ?_
    rintro e w' ⟨rfl, rfl⟩
    exact tells_none (Below.refl _ _)
  by_cases hk : inL L k
  rotate_left
  · rw [if_pos (fun h => hk h.2)]
    refine (unbox_no2 i k c0 (decide_eq_true hi) (decide_eq_false hk)).mono ?_
    rintro e w' ⟨rfl, rfl⟩
    exact tells_none (Below.refl _ _)
  rw [if_neg (fun h => h ⟨hi, hk⟩)]
  obtain ⟨i, rfl⟩ : ∃ j : Nat, i = j := ⟨i.toNat, by have := hi.1; omega⟩
  obtain ⟨k, rfl⟩ : ∃ j : Nat, k = j := ⟨k.toNat, by have := hk.1; omega⟩
  have hi' : i < L.length := by have := hi.2; omega
  have hk' : k < L.length := by have := hk.2; omega
  rw [tmAt_nat hi']
  by_cases h7 : L[i].1 = 7
  rotate_left
  · rw [if_pos h7]
    obtain ⟨g, cp, p4, c4, c0, hab, hg, _, n0, n1, n2, _⟩ := A.node i hi'
    refine (unbox_kind i k hi' hk' c0 hab hg _ _ p4 _ c4 n0 n1 n2 h7).mono ?_
    rintro e w' ⟨rfl, hB⟩
    exact tells_none hB
  rw [if_neg (fun h => h h7)]
  have hl := kind7 (A.wf.good i hi').1 h7
  obtain ⟨g, cp, b, c4, c0, hab, hg, n0, n1, n2, hb, hc, hcs⟩ := A.args i hi' (by omega)
  obtain ⟨q, hqi, hq⟩ := A.wf.arg0 hi' (by omega)
  have hqL : q < L.length := by omega
  have a0 := hcs 0 (by omega)
  rw [hq] at a0
  rw [h7] at n0
  rw [show arg0 L[i] = (q : Int) from hq, tmAt_nat hqL]
  by_cases h5 : L[q].1 = 5
  rotate_left
  · rw [if_pos (.inl h5)]
    obtain ⟨g', cp', p5, c5, c0', _, _, _, q0, q1, q2, _⟩ := A.node q hqL
    rw [c0] at c0'
    injection c0' with c0'
    injection c0' with c0' _ _
    injection c0' with c0'
    injection c0' with c0' _ _
    subst c0'
    refine (unbox_whom i k hi' hk' c0 hab hg _ b 0 _ c4 q n0 n1 n2 hb (by omega) a0 hqL _ _ p5 _ c5 q0 q1 q2 h5).mono ?_
    rintro e w' ⟨rfl, hB⟩
    exact tells_none hB
  have hl5 := kind5 (A.wf.good q hqL).1 h5
  obtain ⟨g', cp', b5, c5, c0', _, _, q0, q1, q2, hb5, hc5, hcs5⟩ := A.args q hqL (by omega)
  rw [c0] at c0'
  injection c0' with c0'
  injection c0' with c0' _ _
  injection c0' with c0'
  injection c0' with c0' _ _
  subst c0'
  have s0 := hcs5 0 (by omega)
  rw [h5] at q0
  by_cases hs : arg0 L[q] = k
  · rw [if_neg (fun h => by rcases h with h | h; exact h h5; exact h hs)]
    rw [show L[q].2.2.getD 0 0 = (k : Int) from hs] at s0
    refine (unbox_yes i k hi' hk' c0 hab hg _ b 0 _ c4 q n0 n1 n2 hb hl hc a0 hqL _ b5 0 _ c5 q0 q1 q2 hb5 (by omega) s0 (L[i].2.2.drop 2) (by simp) (by have := (shape_k (A.wf.good i hi').1).2.2.2; omega) (drop_reads 2 hb rfl hl hcs) (fun h => .inr ⟨b, 0, 0, by simp, hb, fun t ht => by simp at ht; omega⟩)).mono ?_
    rintro e w' ⟨p, c, rfl, hown, hB⟩
    have e2 : (L[i].2.2.drop 2).length = L[i].2.2.length - 2 := by simp
    unfold TellsRow
    simp only [e2]
    exact ⟨p, c, rfl, hown, hB⟩
  · rw [if_pos (.inr hs)]
    refine (unbox_else i k hi' hk' c0 hab hg _ b 0 _ c4 q n0 n1 n2 hb (by omega) a0 hqL _ b5 0 _ c5 q0 q1 q2 hb5 (by omega) _ s0 hs).mono ?_
    rintro e w' ⟨rfl, hB⟩
    exact tells_none hB
end Go.Proofs.YtenllpaochcjfaaDoor
