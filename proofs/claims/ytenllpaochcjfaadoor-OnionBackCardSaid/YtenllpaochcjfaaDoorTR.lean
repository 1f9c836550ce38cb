/-
  TERMS: Make's known way with no args, New, Len. Own work.
-/
import Derived.Test.YtenllpaochcjfaaDoorTQ
namespace Go.Proofs.YtenllpaochcjfaaDoor
open Go.RowKit Go.Maps
set_option maxRecDepth 100000
section
variable {ab ao mb m : Nat} {nodes : List Value} {k n : Int} {w : World} {np : Option Addr} {cp : Nat}
set_option maxHeartbeats 8000000 in
theorem make_found_nil {H : Type} {D : DataW H} {kl : Lit} (h0 : rightOf k n 0 = 0) (A : Arena w ab ao np m cp mb nodes D)
    (hkey : keyOf Tryd.prog 9 (.string (bstr (nameL k n []))) = some kl) (hhas : Maps.has D kl = true) :
    Calls Tryd.prog 26 #[.pointer (some ⟨ab, ao, none⟩), .int .i64 k, .int .i64 n, .slice none 0 0] w fun e w' => ∃ cc, D.atKey kl (.lit (.int .i64 0)) = .lit (.int .i64 cc) ∧ e = .returned (.tuple #[.int .i64 cc, .int .i64 0]) ∧ Below w.heap.size w w' := by
  have c0 := A.c0
  have c1 := A.c1
  have hown := A.own
  have hab := A.lt
  have hz : (rightOf k n 0 != 0) = false := by simp [h0]
  go_enter Tryd.func26, Tryd.ntmps26
  go_wp2_with (go_at_call 42; refine (right_ok _ _ _ _ _ _).mono ?_; rintro ev w ⟨rfl, rfl⟩)
  go_loopw [26] (fun i wr => i = .int .i64 0 ∧ wr = w) (fun _ _ => 0)
  case atStart => exact ⟨rfl, rfl⟩
  case round =>
    obtain ⟨rfl, rfl⟩ := hrel
    have law9 : Keyed Tryd.prog 9 := string_keyed Tryd.underlying9
    go_wp2_with (first
      | (go_at_call 44; refine (name_nil k n _).mono ?_; rintro ev w3 ⟨rfl, hB3⟩; have c0' := (hB3.cell (p := ⟨ab, ao, none⟩) hab).trans c0; have c1' := (hB3.cell (p := ⟨ab, ao + 1, none⟩) hab).trans c1; have hown' := hown.kept (grown_of hB3) (by simp))
      | (at_lookup; refine wpList_lookup_own_ok_int _ rfl _ _ 90 rfl 9 3 .i64 law9 Tryd.underlying90 Tryd.underlying3 (zero3 _) mb m D rfl hown' _ kl rfl hkey ?_; intro cc hat hwc))
    go_ret2
    exact ⟨cc, hat, rfl, hB3⟩
set_option maxHeartbeats 2000000 in
theorem new_ok {H : Type} (w : World) : Calls Tryd.prog 27 #[] w fun e w' => ∃ ab mb, e = .returned (.pointer (some ⟨ab, 0, none⟩)) ∧ Arena w' ab 0 none 0 0 mb [] (.map [] : DataW H) ∧ w.heap.size ≤ ab ∧ w.heap.size ≤ mb ∧ Below w.heap.size w w' := by
  have hmk : ∀ w, (Instr.makeMap 90 none).run Tryd.prog w = .ok (.map (some w.heap.size)) (w.alloc (.map #[] 0)) := fun w => run_makeMap 90 w
  go_enter Tryd.func27, Tryd.ntmps27
  go_wp2_with fail
  go_ret
  have e : (w.alloc (.map #[] 0)).heap.size = w.heap.size + 1 := by simp
  have hc := World.news_of_block (heap_alloc_new (w.alloc (.map #[] 0)) (.cells #[.slice none 0 0, .map (some w.heap.size)] 92))
  have hm0 := (World.ownsMap_made (H := H) w Tryd.prog 9 (plainElem Tryd.prog 3)).alloc (.cells #[.slice none 0 0, .map (some w.heap.size)] 92)
  have hf : ((w.alloc (.map #[] 0)).alloc (.cells #[.slice none 0 0, .map (some w.heap.size)] 92)).frozen? ⟨(w.alloc (.map #[] 0)).heap.size, 0, none⟩ = false := by
    simp only [World.frozen?, heap_alloc_new]
    rfl
  rw [e] at hc hf
  exact ⟨w.heap.size + 1, w.heap.size, rfl, ⟨hc 0 _ rfl, hc 1 _ rfl, hf, World.ownsRow_nil _ _ _ _, hm0, by simp, by omega, fun a h => by cases h⟩, by omega, by omega, ((Below.refl _ w).alloc (Nat.le_refl _) _).alloc (by simp) _⟩
theorem len_ok (A : w.cell? ⟨ab, ao, none⟩ = some (.slice np m cp)) : Calls Tryd.prog 41 #[.pointer (some ⟨ab, ao, none⟩)] w fun e w' => e = .returned (.int .i64 m) ∧ w' = w := by
  go_enter Tryd.func41, Tryd.ntmps41
  go_wp2
  go_ret
  exact ⟨rfl, rfl⟩
end
end Go.Proofs.YtenllpaochcjfaaDoor
