/-
  TERMS: Make where there is no room. Own work.
-/
import Derived.Test.YtenllpaochcjfaaDoorTS
import Derived.Deep.AppendLies
import Derived.Deep.DrawnRows
namespace Go.Proofs.YtenllpaochcjfaaDoor
open Go.RowKit Go.Maps
set_option maxRecDepth 100000
attribute [local go_sem ↓] Go.wp_at_zero Go.wp_at_succ
section
variable {ab ao mb m : Nat} {nv : Value} {nodes : List Value} {k n : Int} {b o l c : Nat} {xs : List Int} {w : World} {np : Option Addr} {cp : Nat}
set_option maxHeartbeats 8000000 in
theorem make_full {H : Type} {D : DataW H} {kl : Lit} (hl : xs.length = l) (h4 : l ≤ 1000) (hb : b < w.heap.size) (hc : ∀ t, t < l → w.cell? ⟨b, o + t, none⟩ = some (.int .i64 (xs.getD t 0))) (h0 : rightOf k n l = 0) (A : Arena w ab ao np m cp mb nodes D) (hall : ∀ t, t < l → 0 ≤ xs.getD t 0 ∧ xs.getD t 0 < m) (hm : 1048576 ≤ m)
    (hkey : keyOf Tryd.prog 9 (.string (bstr (nameL k n xs))) = some kl) (hhas : Maps.has D kl = false) :
    Calls Tryd.prog 26 #[.pointer (some ⟨ab, ao, none⟩), .int .i64 k, .int .i64 n, .slice (some ⟨b, o, none⟩) l c] w fun e w' => e = .returned (.tuple #[.int .i64 0, .int .i64 7]) ∧ Below w.heap.size w w' := by
  have c0 := A.c0
  have c1 := A.c1
  have f0 := A.f0
  have hrow := A.row
  have hown := A.own
  have hab := A.lt
  have hmab := A.map
  have hz : (rightOf k n l != 0) = false := by simp [h0]
  go_enter Tryd.func26, Tryd.ntmps26
  go_wp2_with (go_at_call 42; refine (right_ok _ _ _ _ _ _).mono ?_; rintro ev w ⟨rfl, rfl⟩)
  go_loopw [26] (fun i wr => ∃ j : Nat, j ≤ l ∧ i = .int .i64 j ∧ (∀ t, t < j → 0 ≤ xs.getD t 0 ∧ xs.getD t 0 < m) ∧ wr = w) (fun i _ => l - (intOf i).toNat)
  case atStart => exact ⟨0, by omega, rfl, fun t h => by omega, rfl⟩
  case round =>
    obtain ⟨j, hj, rfl, hin, rfl⟩ := hrel
    have hcj : j < l → wr.cell? ⟨b, o + j, none⟩ = some (.int .i64 (xs.getD j 0)) := hc j
    have law9 : Keyed Tryd.prog 9 := string_keyed Tryd.underlying9
    go_wp2_with (first
      | (go_at_call 43; refine (has_ok ⟨ab, ao, none⟩ _ np m cp _ c0).mono ?_; rintro ev w ⟨rfl, rfl⟩)
      | (go_at_call 44; refine (name_ok k n xs b o l c _ hl h4 hb hc).mono ?_; rintro ev w3 ⟨rfl, hB3⟩; have c0' := (hB3.cell (p := ⟨ab, ao, none⟩) hab).trans c0; have c1' := (hB3.cell (p := ⟨ab, ao + 1, none⟩) hab).trans c1; have hown' := hown.kept (grown_of hB3) (by simp))
      | (at_lookup; refine wpList_lookup_own_ok_int _ rfl _ _ 90 rfl 9 3 .i64 law9 Tryd.underlying90 Tryd.underlying3 (zero3 _) mb m D rfl hown' _ kl rfl hkey ?_))
    · exfalso
      have hxt : xs.getD j 0 = xs[j] := by rw [List.getD_eq_getElem?_getD, List.getElem?_eq_getElem (by omega)]; rfl
      have hin2 := hall j (by omega)
      rw [hxt] at hin2
      simp_all
    · refine ⟨⟨j + 1, by omega, by simp, ?_, trivial⟩, by simp [intOf]; omega⟩
      intro t ht
      rcases Nat.lt_or_ge t j with h | h
      · exact hin t h
      · obtain rfl : t = j := by omega
        have hxt : xs.getD t 0 = xs[t] := by rw [List.getD_eq_getElem?_getD, List.getElem?_eq_getElem (by omega)]; rfl
        rw [hxt]
        simp_all
    · intro cc hat hwc
      have hmm : (1048576 : Int) ≤ (m : Int) := by omega
      go_wp2_with fail
      go_ret2
      exact ⟨rfl, hB3⟩
set_option maxHeartbeats 8000000 in
theorem make_full_nil {H : Type} {D : DataW H} {kl : Lit} (h0 : rightOf k n 0 = 0) (A : Arena w ab ao np m cp mb nodes D) (hm : 1048576 ≤ m)
    (hkey : keyOf Tryd.prog 9 (.string (bstr (nameL k n []))) = some kl) (hhas : Maps.has D kl = false) :
    Calls Tryd.prog 26 #[.pointer (some ⟨ab, ao, none⟩), .int .i64 k, .int .i64 n, .slice none 0 0] w fun e w' => e = .returned (.tuple #[.int .i64 0, .int .i64 7]) ∧ Below w.heap.size w w' := by
  have c0 := A.c0
  have c1 := A.c1
  have f0 := A.f0
  have hrow := A.row
  have hown := A.own
  have hab := A.lt
  have hmab := A.map
  have hz : (rightOf k n 0 != 0) = false := by simp [h0]
  go_enter Tryd.func26, Tryd.ntmps26
  go_wp2_with (go_at_call 42; refine (right_ok _ _ _ _ _ _).mono ?_; rintro ev w ⟨rfl, rfl⟩)
  go_loopw [26] (fun i wr => i = .int .i64 0 ∧ wr = w) (fun _ _ => 0)
  case atStart => exact ⟨rfl, rfl⟩
  case round =>
    obtain ⟨rfl, rfl⟩ := hrel
    have law9 : Keyed Tryd.prog 9 := string_keyed Tryd.underlying9
    go_wp2_with (first
      | (go_at_call 44; refine (name_nil k n _).mono ?_; rintro ev w3 ⟨rfl, hB3⟩; have c0' := (hB3.cell (p := ⟨ab, ao, none⟩) hab).trans c0; have c1' := (hB3.cell (p := ⟨ab, ao + 1, none⟩) hab).trans c1; have hown' := hown.kept (grown_of hB3) (by simp))
      | (at_lookup; refine wpList_lookup_own_ok_int _ rfl _ _ 90 rfl 9 3 .i64 law9 Tryd.underlying90 Tryd.underlying3 (zero3 _) mb m D rfl hown' _ kl rfl hkey ?_))
    · intro cc hat hwc
      have hmm : (1048576 : Int) ≤ (m : Int) := by omega
      go_wp2_with fail
      go_ret2
      exact ⟨rfl, hB3⟩
end
end Go.Proofs.YtenllpaochcjfaaDoor
