/-
  STORE: a number out of eight bytes. Own work.
-/
import Derived.Test.YtafpfiadapabaaaDoorSTa
import Derived.Laws.BitsLemmas
namespace Go.Proofs.YtafpfiadapabaaaDoor
open Go.ChangeShapes Go.WideShapes Go.ChangeAt Go.RowKit Go.Maps Go.Deep
set_option maxRecDepth 100000
attribute [local go_sem ↓] Go.wp_at_zero Go.wp_at_succ
def numAt (x j : Nat) : Nat := if j = 0 then 0 else if j = 1 then x % 256 else x
theorem wraps_16 (n : Int) (h₀ : 0 ≤ n) (h₁ : n < 2 ^ 16) : IntKind.i64.wrap n = n := by rw [IntKind.wrap_i64]; omega
theorem or_zero16 (x : Nat) (hx : x < 65536) : bits .or .i64 (x : Int) 0 = (x : Int) := by
  rw [bits_join .i64 16 (by decide) wraps_16 0 _ _ (by omega) (by omega) (by omega) (by omega) (by omega) (by omega)]
  omega
theorem or_low16 (x : Nat) (hx : x < 65536) : bits .or .i64 (((x % 256 : Nat) : Int)) ((x : Int) / 256 * 256) = (x : Int) := by
  have hc : ∀ a b : Int, bits .or .i64 a b = bits .or .i64 b a := fun a b => by simp only [bits, BitVec.or_comm]
  rw [hc, bits_join .i64 16 (by decide) wraps_16 8 _ _ (by omega) (by omega) (by omega) (by omega) (by omega) (by omega)]
  omega
theorem or_byte16 (x : Nat) : bits .or .i64 0 ((x : Int) % 256) = (x : Int) % 256 := by
  have hc : ∀ a b : Int, bits .or .i64 a b = bits .or .i64 b a := fun a b => by simp only [bits, BitVec.or_comm]
  rw [hc, bits_join .i64 16 (by decide) wraps_16 0 _ _ (by omega) (by omega) (by omega) (by omega) (by omega) (by omega)]
  omega
set_option maxHeartbeats 4000000 in
theorem number_ok {w : World} {v : Value} {x : Nat} {rest : List Int} (h : RdV w v ((le2 x ++ rest).map (Value.int .u8))) (hx : x < 65536) : Calls Tryd.prog 45 #[v] w fun e w' => e = .returned (.int .i64 (x : Int)) ∧ w' = w := by
  obtain ⟨p, c, rfl⟩ := rdv_shape h
  have hlen : ((le2 x ++ rest).map (Value.int .u8)).length = 8 + rest.length := by simp [le2]; omega
  have hcell := fun j (hj : j < 8) => rdv_nth h (t := j) (by omega)
  rw [hlen] at h ⊢
  go_enter Tryd.func45, Tryd.ntmps45
  go_wp2
  go_loopw [3, 5] (fun n i wq => ∃ j : Nat, i = .int .i64 j ∧ j ≤ 8 ∧ n = .int .i64 (numAt x j : Nat) ∧ wq = w) (fun n i _ => 8 - (intOf i).toNat)
  case atStart => exact ⟨0, rfl, by omega, rfl, rfl⟩
  case round =>
    obtain ⟨j, rfl, hj, rfl, rfl⟩ := hrel
    by_cases hlt : j < 8
    · have hjI : (j : Int) < 8 := by omega
      obtain ⟨b, o, rfl, hbl, hc⟩ := hcell j hlt
      rw [List.getElem?_map] at hc
      have key : ∀ (j : Nat) (z : Int), z = (if j = 0 then (x : Int) % 256 else if j = 1 then (x : Int) / 256 * 256 else 0) → bits .or .i64 (numAt x j : Nat) z = ((numAt x (j + 1) : Nat) : Int) := by
        intro j z hz
        match j with
        | 0 => subst hz; simpa [numAt] using or_byte16 x
        | 1 => subst hz; simpa [numAt] using or_low16 x hx
        | j + 2 => subst hz; simpa [numAt] using or_zero16 x hx
      have hjc : j = 0 ∨ j = 1 ∨ j = 2 ∨ j = 3 ∨ j = 4 ∨ j = 5 ∨ j = 6 ∨ j = 7 := by omega
      clear hcell h
      rcases hjc with rfl | rfl | rfl | rfl | rfl | rfl | rfl | rfl
      all_goals
        simp [le2] at hc
        go_wp2
        first
          | exact ⟨⟨1, by rfl, by decide, rfl, trivial⟩, by simp [intOf]⟩
          | exact ⟨⟨2, by rfl, by decide, rfl, trivial⟩, by simp [intOf]⟩
          | exact ⟨⟨3, by rfl, by decide, rfl, trivial⟩, by simp [intOf]⟩
          | exact ⟨⟨4, by rfl, by decide, rfl, trivial⟩, by simp [intOf]⟩
          | exact ⟨⟨5, by rfl, by decide, rfl, trivial⟩, by simp [intOf]⟩
          | exact ⟨⟨6, by rfl, by decide, rfl, trivial⟩, by simp [intOf]⟩
          | exact ⟨⟨7, by rfl, by decide, rfl, trivial⟩, by simp [intOf]⟩
          | exact ⟨⟨8, by rfl, by decide, rfl, trivial⟩, by simp [intOf]⟩
    · obtain rfl : j = 8 := by omega
      go_wp2
      go_ret
      simp [numAt]
end Go.Proofs.YtafpfiadapabaaaDoor
