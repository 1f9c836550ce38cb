/-
  trystref01.Sum512: its words are those of the program; what is kept, seen through windows. Own work.
-/
import Derived.Test.YtjdcaipgfolgoaaDoorVc
namespace Go.Proofs.YtjdcaipgfolgoaaDoor
open Go.Sh
open Go.ChangeShapes Go.WideShapes Go.RowKit
set_option maxRecDepth 100000

/-! the words -/
def chain8 (m : Wd) (t : Nat) (x : Int) : Int := or8I .u64 (or8I .u64 (or8I .u64 (or8I .u64 (or8I .u64 (or8I .u64 (or8I .u64 (or8I .u64 x (m (8 * t))) (m (8 * t + 1))) (m (8 * t + 2))) (m (8 * t + 3))) (m (8 * t + 4))) (m (8 * t + 5))) (m (8 * t + 6))) (m (8 * t + 7))
def wpwQ (m W : Wd) (t : Nat) : Int := if t < 16 then chain8 m t (W t)
  else adI p512 (adI p512 (adI p512 (W (t - 16)) (W (t - 7))) (sgI p512 p512.s0 (W (t - 15)))) (sgI p512 p512.s1 (W (t - 2)))
def wpsQ (m : Wd) : Nat → Wd
  | 0 => fun _ => 0
  | t + 1 => fun j => if j = t then wpwQ m (wpsQ m t) t else wpsQ m t j
theorem word_eqQ {m : Wd} (_ : Bytes m 128) {t : Nat} (_ : t < 16) : chain8 m t 0 = (word4AQ t).val m := by
  have e : arith .shl .u64 0 ((8 : Nat) : Int) = 0 := by decide
  have h : or8I .u64 0 (m (8 * t)) = arith .or .u64 0 (IntKind.u64.wrap (m (8 * t))) := by
    unfold or8I
    rw [e]
  unfold chain8
  rw [h]
  rfl
theorem wps_loQ {m : Wd} (hm : Bytes m 128) : ∀ t, t ≤ 16 → ∀ j, wpsQ m t j = if j < t then w0IQ m j else 0
  | 0, _, j => by rw [if_neg (by omega)]; rfl
  | t + 1, ht, j => by
    have ih := wps_loQ hm t (by omega)
    show (if j = t then wpwQ m (wpsQ m t) t else wpsQ m t j) = _
    by_cases h : j = t
    · subst h
      rw [if_pos rfl, if_pos (by omega)]
      unfold wpwQ
      rw [if_pos (by omega), ih j, if_neg (by omega), word_eqQ hm (by omega)]
      show _ = (w0AQ j).val m
      unfold w0AQ
      rw [if_pos (by simp; omega)]
    · rw [if_neg h, ih j]
      by_cases h2 : j < t
      · rw [if_pos h2, if_pos (by omega)]
      · rw [if_neg h2, if_neg (by omega)]
theorem wps_hiQ {m : Wd} (hm : Bytes m 128) : ∀ i, wpsQ m (16 + i) = wst p512 (w0IQ m) i
  | 0 => by
    funext j
    rw [wps_loQ hm 16 (by omega)]
    show _ = w0IQ m j
    by_cases h : j < 16
    · rw [if_pos h]
    · rw [if_neg h]
      show 0 = (w0AQ j).val m
      unfold w0AQ
      rw [if_neg (by simp; omega)]
      rfl
  | i + 1 => by
    have ih := wps_hiQ hm i
    funext j
    show (if j = 16 + i then wpwQ m (wpsQ m (16 + i)) (16 + i) else wpsQ m (16 + i) j) = if j = 16 + i then wI p512 (wst p512 (w0IQ m) i) (16 + i) else wst p512 (w0IQ m) i j
    rw [ih]
    by_cases h : j = 16 + i
    · rw [if_pos h, if_pos h]
      unfold wpwQ
      rw [if_neg (by omega)]
      exact ad4 p512 (.inr rfl) _ _ _ _
    · rw [if_neg h, if_neg h]
theorem wps_allQ {m : Wd} (hm : Bytes m 128) : wpsQ m 80 = wst p512 (w0IQ m) 64 := wps_hiQ hm 64

/-! what is kept -/
end Go.Proofs.YtjdcaipgfolgoaaDoor
