/-
  The page's mod1305: what it answers. Own work.
-/
import Derived.Test.YtbdihdncnpajgaaPoh
namespace Go.Proofs.Ytbdihdncnpajgaa
open Go.Sh
open Go.ChangeShapes Go.WideShapes Go.ChangeAt Go.RowKit
set_option maxRecDepth 100000

theorem addW (x y : Nat) (h : x + y < 4294967296) : arith .add .u32 (x : Int) (y : Int) = ((x + y : Nat) : Int) := by
  show IntKind.u32.wrap ((x : Int) + (y : Int)) = _
  rw [← Int.natCast_add, w_u32, Nat.mod_eq_of_lt h]
theorem mulW (x y : Nat) (h : x * y < 4294967296) : arith .mul .u32 (x : Int) (y : Int) = ((x * y : Nat) : Int) := by
  show IntKind.u32.wrap ((x : Int) * (y : Int)) = _
  rw [← Int.natCast_mul, w_u32, Nat.mod_eq_of_lt h]
theorem andW (x m s : Nat) (hm : m + 1 = 2 ^ s) (hs : s ≤ 32) (hx : x < 4294967296) : arith .and .u32 (x : Int) (m : Int) = ((x % 2 ^ s : Nat) : Int) := andM (.inr (.inl rfl)) x m s hm (Nat.pow_le_pow_right (by decide) hs) hx
/-! digits -/
def chN (c : Nat) (v : Nat → Nat) : Nat → Nat
  | 0 => c + v 0
  | i + 1 => chN c v i / 256 + v (i + 1)
def dgN (c : Nat) (v : Nat → Nat) (i : Nat) : Nat := chN c v i % 256
theorem dv_dg (c : Nat) (v : Nat → Nat) : ∀ i, dv (dgN c v) (i + 1) + 256 ^ (i + 1) * (chN c v i / 256) = c + dv v (i + 1)
  | 0 => by
    show 0 + (c + v 0) % 256 * 256 ^ 0 + 256 ^ 1 * ((c + v 0) / 256) = c + (0 + v 0 * 256 ^ 0)
    omega
  | i + 1 => by
    have ih := dv_dg c v i
    show dv (dgN c v) (i + 1) + (chN c v i / 256 + v (i + 1)) % 256 * 256 ^ (i + 1) + 256 ^ (i + 1 + 1) * ((chN c v i / 256 + v (i + 1)) / 256) = c + (dv v (i + 1) + v (i + 1) * 256 ^ (i + 1))
    rw [Nat.pow_succ 256 (i + 1), Nat.mul_assoc, Nat.mul_comm ((chN c v i / 256 + v (i + 1)) % 256), Nat.add_assoc, ← Nat.mul_add, Nat.mod_add_div, Nat.mul_add, Nat.mul_comm (v (i + 1))]
    omega
theorem dv_up (v : Nat → Nat) (i : Nat) : ∀ m, ∃ t, dv v (i + m) = dv v i + 256 ^ i * t
  | 0 => ⟨0, rfl⟩
  | m + 1 => by
    obtain ⟨t, ht⟩ := dv_up v i m
    refine ⟨t + v (i + m) * 256 ^ m, ?_⟩
    rw [show dv v (i + (m + 1)) = dv v (i + m) + v (i + m) * 256 ^ (i + m) from rfl, ht, Nat.mul_add, show 256 ^ (i + m) = 256 ^ i * 256 ^ m from Nat.pow_add _ _ _, Nat.add_assoc, Nat.mul_left_comm (v (i + m))]
theorem dg_lt {c : Nat} {v : Nat → Nat} {i : Nat} : dgN c v i < 256 := Nat.mod_lt _ (by decide)
/-- A digit of a number. -/
theorem dg_at (c : Nat) (v : Nat → Nat) {i m : Nat} (h : i < m) : dgN c v i = (c + dv v m) / 256 ^ i % 256 := by
  obtain ⟨t, ht⟩ := dv_up v (i + 1) (m - (i + 1))
  rw [show i + 1 + (m - (i + 1)) = m by omega] at ht
  have h1 := dv_dg c v i
  have h2 : dv (dgN c v) i < 256 ^ i := dv_lt fun j _ => dg_lt
  have hp : 0 < 256 ^ i := Nat.pow_pos (by decide)
  have e : c + dv v m = dv (dgN c v) i + 256 ^ i * (dgN c v i + 256 * (chN c v i / 256 + t)) := by
    rw [ht, ← Nat.add_assoc, ← h1, show dv (dgN c v) (i + 1) = dv (dgN c v) i + dgN c v i * 256 ^ i from rfl, Nat.pow_succ, Nat.mul_add, Nat.mul_comm (dgN c v i), Nat.mul_assoc, Nat.mul_assoc, Nat.mul_add, Nat.mul_add]
    omega
  rw [e, Nat.add_mul_div_left _ _ hp, Nat.div_eq_of_lt h2, Nat.zero_add, Nat.add_mul_mod_self_left, Nat.mod_eq_of_lt dg_lt]
theorem dv_of (x : Nat) : ∀ m, dv (fun i => x / 256 ^ i % 256) m = x % 256 ^ m
  | 0 => by rw [Nat.pow_zero, Nat.mod_one]; rfl
  | m + 1 => by
    show dv (fun i => x / 256 ^ i % 256) m + x / 256 ^ m % 256 * 256 ^ m = _
    rw [dv_of x m, Nat.pow_succ, Nat.mod_mul, Nat.mul_comm (x / 256 ^ m % 256)]
theorem dv_add (u v : Nat → Nat) : ∀ m, dv (fun i => u i + v i) m = dv u m + dv v m
  | 0 => rfl
  | m + 1 => by
    show dv (fun i => u i + v i) m + (u m + v m) * 256 ^ m = dv u m + u m * 256 ^ m + (dv v m + v m * 256 ^ m)
    rw [dv_add u v m, Nat.add_mul]
    omega
theorem dv_mul (c : Nat) (v : Nat → Nat) : ∀ m, dv (fun i => c * v i) m = c * dv v m
  | 0 => rfl
  | m + 1 => by
    show dv (fun i => c * v i) m + c * v m * 256 ^ m = c * (dv v m + v m * 256 ^ m)
    rw [dv_mul c v m, Nat.mul_add, Nat.mul_assoc]
theorem dv_zero {v : Nat → Nat} : ∀ {m : Nat}, (∀ j, j < m → v j = 0) → dv v m = 0
  | 0, _ => rfl
  | m + 1, h => by
    show dv v m + v m * 256 ^ m = 0
    rw [dv_zero fun j hj => h j (by omega), h m (Nat.lt_succ_self m), Nat.zero_mul]
theorem dv_cut {v : Nat → Nat} {i m : Nat} (h : ∀ j, i ≤ j → j < i + m → v j = 0) : dv v (i + m) = dv v i := by
  induction m with
  | zero => rfl
  | succ m ih =>
    show dv v (i + m) + v (i + m) * 256 ^ (i + m) = dv v i
    rw [ih fun j h1 h2 => h j h1 (by omega), h (i + m) (by omega) (by omega), Nat.zero_mul]
    rfl
theorem dv_le {v : Nat → Nat} {c : Nat} : ∀ {m : Nat}, (∀ j, j < m → v j ≤ c) → dv v m ≤ c * 256 ^ m
  | 0, _ => Nat.zero_le _
  | m + 1, h => by
    have h1 := dv_le (v := v) (m := m) fun j hj => h j (by omega)
    have h2 : v m * 256 ^ m ≤ c * 256 ^ m := Nat.mul_le_mul_right _ (h m (Nat.lt_succ_self m))
    show dv v m + v m * 256 ^ m ≤ c * 256 ^ (m + 1)
    rw [Nat.pow_succ, ← Nat.mul_assoc]
    omega
/-! of the machine's digits -/
section
variable {ν : Nat → Int} {g : Nat → AI} {v : Nat → Nat} {c : AI} {cn : Nat}
theorem ch_num {m : Nat} (hc : c.val ν = (cn : Int)) (hcn : cn < 256) (hg : ∀ j, j < m → (g j).val ν = (v j : Int) ∧ v j < 16777216) : ∀ i, i < m → (chA c g i).val ν = (chN cn v i : Int) ∧ chN cn v i < 33554432
  | 0, h => by
    obtain ⟨h1, h2⟩ := hg 0 h
    refine ⟨?_, by show cn + v 0 < _; omega⟩
    show (eA .add .u32 c (g 0)).val ν = _
    rw [eA_val, hc, h1, addW _ _ (by omega)]
    rfl
  | i + 1, h => by
    obtain ⟨h1, h2⟩ := hg (i + 1) h
    obtain ⟨h3, h4⟩ := ch_num hc hcn hg i (by omega)
    refine ⟨?_, by show chN cn v i / 256 + v (i + 1) < _; omega⟩
    show (eA .add .u32 (eA .shr .u32 (chA c g i) (nA 8)) (g (i + 1))).val ν = _
    rw [eA_val, eA_val, h3, h1, nA_val, shrN (k := .u32) _ 8 (by decide), addW _ _ (by omega)]
    rfl
theorem dgA_num {m : Nat} (hc : c.val ν = (cn : Int)) (hcn : cn < 256) (hg : ∀ j, j < m → (g j).val ν = (v j : Int) ∧ v j < 16777216) {i : Nat} (hi : i < m) : (dgA c g i).val ν = (dgN cn v i : Int) := by
  obtain ⟨h1, h2⟩ := ch_num hc hcn hg i hi
  show (eA .and .u32 (chA c g i) (nA 255)).val ν = _
  rw [eA_val, h1, nA_val, andW _ 255 8 (by decide) (by decide) (by omega)]
  rfl
end
def hiN (d : Nat → Nat) (i : Nat) : Nat := if i + 17 < 64 then d (i + 16) / 4 + d (i + 17) * 64 % 256 else if i + 16 < 64 then d (i + 16) / 4 else 0
def loN (d : Nat → Nat) (i : Nat) : Nat := if i < 16 then d i else if i = 16 then d i % 4 else 0
def rmN (v : Nat → Nat) (i : Nat) : Nat := loN (dgN 0 v) i + 5 * hiN (dgN 0 v) i
theorem orW (x y s : Nat) (hx : x < 2 ^ s) (hs : s ≤ 16) (hy : y < 65536) : arith .or .u32 (x : Int) ((y * 2 ^ s : Nat) : Int) = ((x + y * 2 ^ s : Nat) : Int) := by
  have h1 : 2 ^ s ≤ 2 ^ 16 := Nat.pow_le_pow_right (by decide) hs
  have h2 : y * 2 ^ s ≤ 65535 * 65536 := Nat.mul_le_mul (by omega) h1
  rw [or32 _ _ (by omega) (by omega), Nat.or_comm, orAdd _ _ _ hx, Nat.add_comm]
theorem hi_num {ν : Nat → Int} {d : Nat → AI} {e : Nat → Nat} (hd : ∀ j, j < 64 → (d j).val ν = (e j : Int) ∧ e j < 256) {i : Nat} (hi : i < 64) : (hiA d i).val ν = (hiN e i : Int) := by
  unfold hiA hiN
  by_cases c : i + 17 < 64
  · obtain ⟨h1, h2⟩ := hd (i + 16) (by omega)
    obtain ⟨h3, h4⟩ := hd (i + 17) c
    rw [if_pos (by simpa using c), if_pos c, eA_val, eA_val, eA_val, eA_val, h1, h3, nA_val, nA_val, nA_val, shrN (k := .u32) _ 2 (by decide), shl32 _ 6 (by decide) (by omega), andW _ 255 8 (by decide) (by decide) (by omega),
      show e (i + 17) * 2 ^ 6 % 2 ^ 8 = e (i + 17) % 4 * 2 ^ 6 by omega, orW _ _ 6 (by omega) (by decide) (by omega)]
  · rw [if_neg (by simpa using c), if_neg c]
    by_cases c2 : i + 16 < 64
    · obtain ⟨h1, h2⟩ := hd (i + 16) c2
      rw [if_pos (by simpa using c2), if_pos c2, eA_val, h1, nA_val, shrN (k := .u32) _ 2 (by decide)]
    · rw [if_neg (by simpa using c2), if_neg c2]
      rfl
theorem lo_num {ν : Nat → Int} {d : Nat → AI} {e : Nat → Nat} (hd : ∀ j, j < 64 → (d j).val ν = (e j : Int) ∧ e j < 256) {i : Nat} (hi : i < 64) : (loA d i).val ν = (loN e i : Int) := by
  obtain ⟨h1, h2⟩ := hd i hi
  unfold loA loN
  by_cases c : i < 16
  · rw [if_pos (by simpa using c), if_pos c, h1]
  · rw [if_neg (by simpa using c), if_neg c]
    by_cases c2 : i = 16
    · rw [if_pos (by simpa using c2), if_pos c2, eA_val, h1, nA_val, andW _ 3 2 (by decide) (by decide) (by omega)]
    · rw [if_neg (by simpa using c2), if_neg c2]
      rfl
theorem hiN_le {e : Nat → Nat} (h : ∀ j, e j < 256) (i : Nat) : hiN e i < 256 := by
  have h1 := h (i + 16)
  have h2 := h (i + 17)
  unfold hiN
  split
  · omega
  · split <;> omega
theorem loN_le {e : Nat → Nat} (h : ∀ j, e j < 256) (i : Nat) : loN e i < 256 := by
  have h1 := h i
  unfold loN
  split
  · omega
  · split <;> omega
theorem rm_lt (v : Nat → Nat) (i : Nat) : rmN v i < 1600 := by
  have h1 := hiN_le (e := dgN 0 v) (fun j => dg_lt) i
  have h2 := loN_le (e := dgN 0 v) (fun j => dg_lt) i
  unfold rmN
  omega
theorem rm_num {ν : Nat → Int} {g : Nat → AI} {v : Nat → Nat} (hg : ∀ j, j < 64 → (g j).val ν = (v j : Int) ∧ v j < 16777216) {i : Nat} (hi : i < 64) : (rmA g i).val ν = (rmN v i : Int) := by
  have hd : ∀ j, j < 64 → (dgA (.c 0) g j).val ν = (dgN 0 v j : Int) ∧ dgN 0 v j < 256 := fun j hj => ⟨dgA_num (cn := 0) rfl (by decide) hg hj, dg_lt⟩
  have h1 := hiN_le (e := dgN 0 v) (fun j => dg_lt) i
  have h2 := loN_le (e := dgN 0 v) (fun j => dg_lt) i
  unfold rmA rmN
  rw [eA_val, eA_val, hi_num hd hi, lo_num hd hi, nA_val, mulW _ _ (by omega), addW _ _ (by omega)]
def red (x : Nat) : Nat := x % 1361129467683753853853498429727072845824 + 5 * (x / 1361129467683753853853498429727072845824)
theorem dv_rm {v : Nat → Nat} (h : dv v 64 < 256 ^ 64) : dv (rmN v) 64 = red (dv v 64) := by
  have hd : ∀ i, i < 64 → dgN 0 v i = dv v 64 / 256 ^ i % 256 := fun i hi => by rw [dg_at 0 v hi, Nat.zero_add]
  generalize dv v 64 = x at h hd
  have e0 : dv (rmN v) 64 = dv (loN (dgN 0 v)) 64 + 5 * dv (hiN (dgN 0 v)) 64 := by
    rw [← dv_mul, ← dv_add]
    rfl
  have e1 : dv (loN (dgN 0 v)) 64 = x % 1361129467683753853853498429727072845824 := by
    rw [show 64 = 17 + 47 from rfl, dv_cut fun j h1 h2 => by unfold loN; rw [if_neg (by omega), if_neg (by omega)]]
    show dv (loN (dgN 0 v)) 16 + loN (dgN 0 v) 16 * 256 ^ 16 = _
    rw [show dv (loN (dgN 0 v)) 16 = dv (fun i => x / 256 ^ i % 256) 16 from dv_congr fun j hj => by unfold loN; rw [if_pos hj]; exact hd j (by omega), dv_of,
      show loN (dgN 0 v) 16 = x / 256 ^ 16 % 256 % 4 by unfold loN; rw [if_neg (by decide), if_pos rfl, hd 16 (by decide)]]
    omega
  have e2 : dv (hiN (dgN 0 v)) 64 = x / 1361129467683753853853498429727072845824 := by
    rw [show 64 = 48 + 16 from rfl, dv_cut fun j h1 h2 => by unfold hiN; rw [if_neg (by omega), if_neg (by omega)]]
    rw [show dv (hiN (dgN 0 v)) 48 = dv (fun i => x / 1361129467683753853853498429727072845824 / 256 ^ i % 256) 48 from dv_congr fun j hj => ?_, dv_of, Nat.mod_eq_of_lt]
    · have : (256 : Nat) ^ 64 = 256 ^ 48 * 340282366920938463463374607431768211456 := by decide
      rw [this] at h
      generalize 256 ^ 48 = Y at h
      omega
    · have q1 : x / 256 ^ (j + 16) = x / 256 ^ 16 / 256 ^ j := by rw [Nat.div_div_eq_div_mul, ← Nat.pow_add, Nat.add_comm]
      have q2 : x / 256 ^ (j + 17) = x / 256 ^ 16 / 256 ^ j / 256 := by rw [Nat.div_div_eq_div_mul, Nat.div_div_eq_div_mul, ← Nat.pow_succ, ← Nat.pow_add, show 16 + (j + 1) = j + 17 by omega]
      have q3 : x / 1361129467683753853853498429727072845824 / 256 ^ j = x / 256 ^ 16 / 256 ^ j / 4 := by
        rw [Nat.div_div_eq_div_mul, Nat.div_div_eq_div_mul, Nat.div_div_eq_div_mul, Nat.mul_comm (256 ^ j) 4, ← Nat.mul_assoc]
      unfold hiN
      by_cases c : j + 17 < 64
      · rw [if_pos c, hd _ (by omega), hd _ c, q1, q2, q3]
        generalize x / 256 ^ 16 / 256 ^ j = y
        omega
      · rw [if_neg c, if_pos (by omega), hd _ (by omega), q1, q3]
        have hj47 : j = 47 := by omega
        subst hj47
        have hy : x / 256 ^ 16 / 256 ^ 47 < 256 := by
          rw [Nat.div_div_eq_div_mul]
          refine Nat.div_lt_of_lt_mul ?_
          rw [show 256 ^ 16 * 256 ^ 47 * 256 = 256 ^ 64 by decide]
          exact h
        generalize x / 256 ^ 16 / 256 ^ 47 = y at hy
        omega
  rw [e0, e1, e2]
  rfl
end Go.Proofs.Ytbdihdncnpajgaa
