/-
  TERMKEYS: what five Makes give, and what opens then: on lists alone. Own work.
-/
import Derived.Test.YtehkfgjnapjefaaSPk
import Derived.Test.YtehkfgjnapjefaaTYa
namespace Go.Proofs.Ytehkfgjnapjefaa
open Go.RowKit Go.Maps
set_option maxRecDepth 100000
theorem put_yes {L : List Tm} {t : Tm} (h : shape t = 0) (hf : fitsIn L.length t) (hr : L.length < 1048576) : ∃ (q : Nat) (M : List Tm), put L t = ((q : Int), 0, L ++ M) ∧ (L ++ M)[q]? = some t ∧ M.length ≤ 1 := by
  by_cases hin : t ∈ L
  · refine ⟨L.idxOf t, [], ?_, ?_, by simp⟩
    · rw [put_in h hf hin, List.append_nil]
    · have hi := List.idxOf_lt_length_iff.2 hin
      rw [List.append_nil, List.getElem?_eq_getElem hi, List.getElem_idxOf]
  · refine ⟨L.length, [t], put_new h hf hin (by omega), ?_, by simp⟩
    rw [List.getElem?_append_right (Nat.le_refl _)]
    simp
theorem at_mono {L M : List Tm} {q : Nat} {t : Tm} (h : L[q]? = some t) : (L ++ M)[q]? = some t := by
  obtain ⟨hq, he⟩ := List.getElem?_eq_some_iff.1 h
  rw [List.getElem?_append_left hq]
  exact h
theorem tmAt_of {L : List Tm} {q : Nat} {t : Tm} (h : L[q]? = some t) : tmAt L q = t ∧ inL L q := by
  obtain ⟨hq, he⟩ := List.getElem?_eq_some_iff.1 h
  exact ⟨(tmAt_nat hq).trans he, by unfold inL; omega⟩
structure KeyRun (L : List Tm) (key other : Nat) (xs : List Int) (s p b t q : Nat) (L1 L2 L3 L4 L5 : List Tm) : Prop where
  p1 : put L (6, 0, (key : Int) :: xs) = ((s : Int), 0, L1)
  p2 : put L1 (5, 0, [(key : Int)]) = ((p : Int), 0, L2)
  p3 : put L2 (7, 0, (p : Int) :: (other : Int) :: xs) = ((b : Int), 0, L3)
  p4 : put L3 (8, 0, (key : Int) :: xs) = ((t : Int), 0, L4)
  p5 : put L4 (5, 0, [(other : Int)]) = ((q : Int), 0, L5)
  o1 : openOf L5 s key = (xs, 0)
  o2 : unboxOf L5 b key = (xs, 0)
  o3 : signedOf L5 t p = (xs, 0)
  n1 : key ≠ other → openOf L5 s other = ([], 3)
  n2 : key ≠ other → unboxOf L5 b other = ([], 3)
  n3 : key ≠ other → signedOf L5 t q = ([], 15)
theorem keys_math {L : List Tm} {key other : Nat} {xs : List Int} (hL : L.length ≤ 1000) (hk : key < L.length) (ho : other < L.length) (hx : ∀ x ∈ xs, 0 ≤ x ∧ x < (L.length : Int)) (h4 : xs.length ≤ 20) : ∃ s p b t q L1 L2 L3 L4 L5, KeyRun L key other xs s p b t q L1 L2 L3 L4 L5 := by
  have sh : ∀ (k : Int) (ys : List Int), (k = 5 ∧ ys.length = 1) ∨ (k = 6 ∧ 1 ≤ ys.length ∧ ys.length ≤ 400) ∨ (k = 8 ∧ 1 ≤ ys.length ∧ ys.length ≤ 400) ∨ (k = 7 ∧ 2 ≤ ys.length ∧ ys.length ≤ 400) → shape (k, 0, ys) = 0 := by
    intro k ys h
    rw [shape_cnt (by omega) (by omega) (.inl rfl), if_pos (by unfold cntOk; omega)]
  have fit : ∀ (m : Nat) (k : Int), L.length ≤ m → fitsIn m (k, 0, (key : Int) :: xs) := by
    intro m k hm x hx'
    simp only [List.mem_cons] at hx'
    rcases hx' with rfl | hx'
    · omega
    · have := hx x hx'
      omega
  obtain ⟨s, M1, e1, a1, m1⟩ := put_yes (L := L) (sh 6 ((key : Int) :: xs) (.inr (.inl ⟨rfl, Nat.succ_le_succ (Nat.zero_le _), by rw [List.length_cons]; omega⟩))) (fit _ _ (Nat.le_refl _)) (by omega)
  obtain ⟨p, M2, e2, a2, m2⟩ := put_yes (L := L ++ M1) (sh 5 [(key : Int)] (by simp)) (by intro x hx'; simp only [List.mem_singleton] at hx'; subst hx'; simp only [List.length_append]; omega) (by simp only [List.length_append]; omega)
  have hp := (List.getElem?_eq_some_iff.1 a2).1
  obtain ⟨b, M3, e3, a3, m3⟩ := put_yes (L := L ++ M1 ++ M2) (sh 7 ((p : Int) :: (other : Int) :: xs) (.inr (.inr (.inr ⟨rfl, Nat.succ_le_succ (Nat.succ_le_succ (Nat.zero_le _)), by rw [List.length_cons, List.length_cons]; omega⟩)))) (by
    intro x hx'
    simp only [List.mem_cons] at hx'
    rcases hx' with rfl | rfl | hx'
    · omega
    · simp only [List.length_append]; omega
    · have := hx x hx'
      simp only [List.length_append]
      omega) (by simp only [List.length_append]; omega)
  obtain ⟨t, M4, e4, a4, m4⟩ := put_yes (L := L ++ M1 ++ M2 ++ M3) (sh 8 ((key : Int) :: xs) (.inr (.inr (.inl ⟨rfl, Nat.succ_le_succ (Nat.zero_le _), by rw [List.length_cons]; omega⟩)))) (fit _ _ (by simp only [List.length_append]; omega)) (by simp only [List.length_append]; omega)
  obtain ⟨q, M5, e5, a5, m5⟩ := put_yes (L := L ++ M1 ++ M2 ++ M3 ++ M4) (sh 5 [(other : Int)] (by simp)) (by intro x hx'; simp only [List.mem_singleton] at hx'; subst hx'; simp only [List.length_append]; omega) (by simp only [List.length_append]; omega)
  have s5 := tmAt_of (at_mono (M := M5) (at_mono (M := M4) (at_mono (M := M3) (at_mono (M := M2) a1))))
  have p5 := tmAt_of (at_mono (M := M5) (at_mono (M := M4) (at_mono (M := M3) a2)))
  have b5 := tmAt_of (at_mono (M := M5) (at_mono (M := M4) a3))
  have t5 := tmAt_of (at_mono (M := M5) a4)
  have q5 := tmAt_of a5
  have k5 : inL (L ++ M1 ++ M2 ++ M3 ++ M4 ++ M5) (key : Int) := by unfold inL; simp only [List.length_append]; omega
  have o5 : inL (L ++ M1 ++ M2 ++ M3 ++ M4 ++ M5) (other : Int) := by unfold inL; simp only [List.length_append]; omega
  refine ⟨s, p, b, t, q, _, _, _, _, _, e1, e2, e3, e4, e5, ?_, ?_, ?_, fun hne => ?_, fun hne => ?_, fun hne => ?_⟩
  · unfold openOf
    rw [if_neg (fun h => h ⟨s5.2, k5⟩), s5.1]
    simp [arg0]
  · unfold unboxOf
    rw [if_neg (fun h => h ⟨b5.2, k5⟩), b5.1]
    simp only [arg0, List.getD_cons_zero]
    rw [p5.1]
    simp
  · unfold signedOf
    rw [if_neg (fun h => h ⟨t5.2, p5.2⟩), t5.1, p5.1]
    simp [arg0]
  · unfold openOf
    rw [if_neg (fun h => h ⟨s5.2, o5⟩), s5.1]
    simp [arg0]
    omega
  · unfold unboxOf
    rw [if_neg (fun h => h ⟨b5.2, o5⟩), b5.1]
    simp only [arg0, List.getD_cons_zero]
    rw [p5.1]
    simp
    omega
  · unfold signedOf
    rw [if_neg (fun h => h ⟨t5.2, q5.2⟩), t5.1, q5.1]
    simp [arg0]
    omega
end Go.Proofs.Ytehkfgjnapjefaa
