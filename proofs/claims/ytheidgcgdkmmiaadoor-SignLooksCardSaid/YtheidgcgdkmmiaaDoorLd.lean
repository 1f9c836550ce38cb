/-
 NUMBERS MODULO L: what curve's and the page's Below answer. Own work.
-/
import Derived.Test.YtheidgcgdkmmiaaDoorLc
namespace Go.Proofs.YtheidgcgdkmmiaaDoor
open Go.Sh
set_option maxRecDepth 100000
def blT (t : Bool) : List Row := [⟨40, [rw4 8], .tp [rw4 9, .b t]⟩]
theorem blY_says : saysG qae tree [⟨41, [rw8 0], rw4 8⟩] glO (blT true) 100 3 21 [rw8 0] (.b true) = true := by kernel_rfl
theorem blN_says : saysG qae tree [⟨41, [rw8 0], rw4 8⟩] glO (blT false) 100 3 21 [rw8 0] (.b false) = true := by kernel_rfl
theorem bl_core (x s : Nat) (t : Bool) (h : qa4 Tryd.prog glO 40 [num x] (.tuple #[num s, .bool t])) (hs : saysG qae tree [⟨41, [rw8 0], rw4 8⟩] glO (blT t) 100 3 21 [rw8 0] (.b t) = true) : qa4 Tryd.prog glO 21 [byt x] (.bool t) := by
 refine qaY (ν := nuM 1 [x] [x, s]) (args := [rw8 0]) (qab _) qak qaf glO_ok (fun r hr => ?_) (fun r hr => ?_) hs (by simp [qai, nuM_b]) rfl
 ·simp only [List.mem_cons, List.not_mem_nil, or_false] at hr
  subst hr
  exact ⟨[byt x], num x, by simp [qai, nuM_b], nuM_wc 1 [x] [x, s] 0, ReadS_ok x⟩
 ·simp only [blT, List.mem_cons, List.not_mem_nil, or_false] at hr
  subst hr
  have h0 : qag (nuM 1 [x] [x, s]) (rw4 8) = some (num x) := nuM_w 1 [x] [x, s] 0
  exact ⟨[num x], _, by simp only [qai, h0], tp2 t (nuM_w 1 [x] [x, s] 1), h⟩
theorem Below_ok (x : Nat) (hx : x < B4) : qa4 Tryd.prog glO 21 [byt x] (.bool (decide (x < ordL))) := by
 by_cases h : x < ordL
 ·rw [decide_eq_true h]
  exact bl_core x _ true (minusL_lt x h) blY_says
 ·rw [decide_eq_false h]
  exact bl_core x _ false (minusL_ge x hx (Nat.le_of_not_lt h)) blN_says
end Go.Proofs.YtheidgcgdkmmiaaDoor
