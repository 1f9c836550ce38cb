/-
  TERMS: the old ways of Make: a wrong shape, an arg that is no node, a key that is known. Own work.
-/
import Derived.Test.YtenllpaochcjfaaDoorTM
import Derived.Maps.OwnSet
namespace Go.Proofs.YtenllpaochcjfaaDoor
open Go.RowKit Go.Maps
set_option maxRecDepth 100000
theorem grown_of {w w' : World} (h : Below w.heap.size w w') : w.grownBy w' none := ⟨h.os, h.tape, h.output, h.size, fun k hk _ => h.block k hk⟩
theorem zero3 (w : World) : (zeroValue 3).run Tryd.prog w = .ok (.int .i64 0) w := by kernel_rfl
theorem make_bad (a : Addr) (k n : Int) (p : Option Addr) (l c : Nat) (w : World) (h0 : rightOf k n l ≠ 0) : Calls Tryd.prog 26 #[.pointer (some a), .int .i64 k, .int .i64 n, .slice p l c] w fun e w' => e = .returned (.tuple #[.int .i64 0, .int .i64 (rightOf k n l)]) ∧ w' = w := by
  have hne : (rightOf k n l != 0) = true := by simpa using h0
  go_enter Tryd.func26, Tryd.ntmps26
  go_wp2_with (go_at_call 42; refine (right_ok _ _ _ _ _ _).mono ?_; rintro ev w ⟨rfl, rfl⟩)
  go_ret2
  exact ⟨rfl, rfl⟩
section
variable {ab ao mb m cp : Nat} {np : Option Addr} {k n : Int} {b o l c : Nat} {xs : List Int} {w : World}
set_option maxHeartbeats 8000000 in
theorem make_out (hl : xs.length = l) (h4 : l ≤ 1000) (hb : b < w.heap.size) (hc : ∀ t, t < l → w.cell? ⟨b, o + t, none⟩ = some (.int .i64 (xs.getD t 0))) (h0 : rightOf k n l = 0) (c0 : w.cell? ⟨ab, ao, none⟩ = some (.slice np m cp)) (ho : ∃ t, t < l ∧ ¬ (0 ≤ xs.getD t 0 ∧ xs.getD t 0 < m)) :
    Calls Tryd.prog 26 #[.pointer (some ⟨ab, ao, none⟩), .int .i64 k, .int .i64 n, .slice (some ⟨b, o, none⟩) l c] w fun e w' => e = .returned (.tuple #[.int .i64 0, .int .i64 8]) ∧ w' = w := by
  have hz : (rightOf k n l != 0) = false := by simp [h0]
  go_enter Tryd.func26, Tryd.ntmps26
  go_wp2_with (go_at_call 42; refine (right_ok _ _ _ _ _ _).mono ?_; rintro ev w ⟨rfl, rfl⟩)
  go_loopw [26] (fun i wr => ∃ j : Nat, j ≤ l ∧ i = .int .i64 j ∧ (∀ t, t < j → 0 ≤ xs.getD t 0 ∧ xs.getD t 0 < m) ∧ wr = w) (fun i _ => l - (intOf i).toNat)
  case atStart => exact ⟨0, by omega, rfl, fun t h => by omega, rfl⟩
  case round =>
    obtain ⟨j, hj, rfl, hin, rfl⟩ := hrel
    have hcj : j < l → wr.cell? ⟨b, o + j, none⟩ = some (.int .i64 (xs.getD j 0)) := hc j
    go_wp2_with (first
      | (go_at_call 43; refine (has_ok ⟨ab, ao, none⟩ _ np m cp _ c0).mono ?_; rintro ev w ⟨rfl, rfl⟩)
      | (go_at_call 44; exfalso; obtain ⟨t, ht, hn⟩ := ho; exact hn (hin t (by omega))))
    · go_ret2
      exact ⟨rfl, rfl⟩
    · refine ⟨⟨j + 1, by omega, by simp, ?_, trivial⟩, by simp [intOf]; omega⟩
      intro t ht
      rcases Nat.lt_or_ge t j with h | h
      · exact hin t h
      · obtain rfl : t = j := by omega
        have hxt : xs.getD t 0 = xs[t] := by rw [List.getD_eq_getElem?_getD, List.getElem?_eq_getElem (by omega)]; rfl
        rw [hxt]
        simp_all
set_option maxHeartbeats 8000000 in
theorem make_found {H : Type} {D : DataW H} {kl : Lit} (hl : xs.length = l) (h4 : l ≤ 1000) (hb : b < w.heap.size) (hc : ∀ t, t < l → w.cell? ⟨b, o + t, none⟩ = some (.int .i64 (xs.getD t 0))) (h0 : rightOf k n l = 0) (c0 : w.cell? ⟨ab, ao, none⟩ = some (.slice np m cp)) (hall : ∀ t, t < l → 0 ≤ xs.getD t 0 ∧ xs.getD t 0 < m) (c1 : w.cell? ⟨ab, ao + 1, none⟩ = some (.map (some mb))) (hown : w.ownsMap Tryd.prog 9 (plainElem Tryd.prog 3) mb m D) (hab : ab < w.heap.size)
    (hkey : keyOf Tryd.prog 9 (.string (bstr (nameL k n xs))) = some kl) (hhas : Maps.has D kl = true) :
    Calls Tryd.prog 26 #[.pointer (some ⟨ab, ao, none⟩), .int .i64 k, .int .i64 n, .slice (some ⟨b, o, none⟩) l c] w fun e w' => ∃ cc, D.atKey kl (.lit (.int .i64 0)) = .lit (.int .i64 cc) ∧ e = .returned (.tuple #[.int .i64 cc, .int .i64 0]) ∧ Below w.heap.size w w' := by
  have hz : (rightOf k n l != 0) = false := by simp [h0]
  go_enter Tryd.func26, Tryd.ntmps26
  go_wp2_with (go_at_call 42; refine (right_ok _ _ _ _ _ _).mono ?_; rintro ev w ⟨rfl, rfl⟩)
  go_loopw [26] (fun i wr => ∃ j : Nat, j ≤ l ∧ i = .int .i64 j ∧ (∀ t, t < j → 0 ≤ xs.getD t 0 ∧ xs.getD t 0 < m) ∧ wr = w) (fun i _ => l - (intOf i).toNat)
  case atStart => exact ⟨0, by omega, rfl, fun t h => by omega, rfl⟩
  case round =>
    obtain ⟨j, hj, rfl, hin, rfl⟩ := hrel
    have hcj : j < l → wr.cell? ⟨b, o + j, none⟩ = some (.int .i64 (xs.getD j 0)) := hc j
    have law9 : Keyed Tryd.prog 9 := string_keyed Tryd.underlying9
    go_wp2_with (first
      | (go_at_call 43; refine (has_ok ⟨ab, ao, none⟩ _ np m cp _ c0).mono ?_; rintro ev w ⟨rfl, rfl⟩)
      | (go_at_call 44; refine (name_ok k n xs b o l c _ hl h4 hb hc).mono ?_; rintro ev w3 ⟨rfl, hB3⟩; have c0' := (hB3.cell (p := ⟨ab, ao, none⟩) hab).trans c0; have c1' := (hB3.cell (p := ⟨ab, ao + 1, none⟩) hab).trans c1; have hown' := hown.kept (grown_of hB3) (by simp))
      | (at_lookup; refine wpList_lookup_own_ok_int _ rfl _ _ 90 rfl 9 3 .i64 law9 Tryd.underlying90 Tryd.underlying3 (zero3 _) mb m D rfl hown' _ kl rfl hkey ?_; intro cc hat hwc))
    · exfalso
      have hxt : xs.getD j 0 = xs[j] := by rw [List.getD_eq_getElem?_getD, List.getElem?_eq_getElem (by omega)]; rfl
      have hin2 := hall j (by omega)
      rw [hxt] at hin2
      simp_all
    · refine ⟨⟨j + 1, by omega, by simp, ?_, trivial⟩, by simp [intOf]; omega⟩
      intro t ht
      rcases Nat.lt_or_ge t j with h | h
      · exact hin t h
      · obtain rfl : t = j := by omega
        have hxt : xs.getD t 0 = xs[t] := by rw [List.getD_eq_getElem?_getD, List.getElem?_eq_getElem (by omega)]; rfl
        rw [hxt]
        simp_all
    · go_ret2
      exact ⟨cc, hat, rfl, hB3⟩
end
end Go.Proofs.YtenllpaochcjfaaDoor

