/-
  NUMBERS MODULO L: what curve's and the page's Below answer. Own work.
-/
import Derived.Test.YtnlhpiieihnbiaaDoorLc
namespace Go.Proofs.YtnlhpiieihnbiaaDoor
open Go.Sh
set_option maxRecDepth 100000

def blT (t : Bool) : List Row := [⟨25, [rw4 8], .tp [rw4 9, .b t]⟩]
theorem blY_says : saysG noFacts tree [⟨26, [rw8 0], rw4 8⟩] glO (blT true) 100 3 10 [rw8 0] (.b true) = true := by kernel_rfl
theorem blN_says : saysG noFacts tree [⟨26, [rw8 0], rw4 8⟩] glO (blT false) 100 3 10 [rw8 0] (.b false) = true := by kernel_rfl
theorem bl_core (x s : Nat) (t : Bool) (h : PureG Tryd.prog glO 25 [num x] (.tuple #[num s, .bool t])) (hs : saysG noFacts tree [⟨26, [rw8 0], rw4 8⟩] glO (blT t) 100 3 10 [rw8 0] (.b t) = true) : PureG Tryd.prog glO 10 [byt x] (.bool t) := by
  refine pureG_of (ν := nuM 1 [x] [x, s]) (args := [rw8 0]) (noFacts_hold _) mixed tab_ok glO_ok (fun r hr => ?_) (fun r hr => ?_) hs (by simp [concT, nuM_b]) rfl
  · simp only [List.mem_cons, List.not_mem_nil, or_false] at hr
    subst hr
    exact ⟨[byt x], num x, by simp [concT, nuM_b], nuM_wc 1 [x] [x, s] 0, ReadS_ok x⟩
  · simp only [blT, List.mem_cons, List.not_mem_nil, or_false] at hr
    subst hr
    have h0 : conc2 (nuM 1 [x] [x, s]) (rw4 8) = some (num x) := nuM_w 1 [x] [x, s] 0
    exact ⟨[num x], _, by simp only [concT, h0], tp2 t (nuM_w 1 [x] [x, s] 1), h⟩
theorem Below_ok (x : Nat) (hx : x < B4) : PureG Tryd.prog glO 10 [byt x] (.bool (decide (x < ordL))) := by
  by_cases h : x < ordL
  · rw [decide_eq_true h]
    exact bl_core x _ true (minusL_lt x h) blY_says
  · rw [decide_eq_false h]
    exact bl_core x _ false (minusL_ge x hx (Nat.le_of_not_lt h)) blN_says
theorem pblY_says (t : Bool) : says noFacts tree [⟨29, [rw8 0], rw4 8⟩, ⟨20, [], kN ordL⟩, ⟨31, [rw4 8, kN ordL], .b t⟩] 100 3 13 [rw8 0] (heap0 [] gmax) (.b t) = true := by cases t <;> kernel_rfl
theorem pbl_core (x : Nat) (t : Bool) (h : Pure Tryd.prog 31 [num x, num ordL] (.bool t)) : Pure Tryd.prog 13 [byt x] (.bool t) := by
  refine pure_of (ν := nuM 1 [x] [x]) (args := [rw8 0]) (noFacts_hold _) mixed tab_ok (fun r hr => ?_) (pblY_says t) (by simp [concT, nuM_b]) rfl
  simp only [List.mem_cons, List.not_mem_nil, or_false] at hr
  rcases hr with rfl | rfl | rfl
  · exact rowOfP (nuM_b 1 [x] [x] 0 (by decide)) (nuM_wc 1 [x] [x] 0)
  · exact ⟨[], _, rfl, kN_valc _ _, L_ok⟩
  · exact rowLess t h (nuM_w 1 [x] [x] 0) (kN_val _ _)
theorem PBelow_ok (x : Nat) (hx : x < B4) : Pure Tryd.prog 13 [byt x] (.bool (decide (x < ordL))) := by
  by_cases h : x < ordL
  · rw [decide_eq_true h]
    exact pbl_core x true (less_yes (by decide) h)
  · rw [decide_eq_false h]
    exact pbl_core x false (less_no hx h)

end Go.Proofs.YtnlhpiieihnbiaaDoor
