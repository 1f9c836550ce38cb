/-
  The page's Tag: its numbers. Own work.
-/
import Derived.Test.YtbdihdncnpajgaaPol
namespace Go.Proofs.Ytbdihdncnpajgaa
open Go.Sh
open Go.ChangeShapes Go.WideShapes Go.ChangeAt Go.RowKit
set_option maxRecDepth 100000

/-! numbers -/
def pdN (a r : Nat → Nat) : Nat → Nat → Nat
  | 0, _ => 0
  | i + 1, m => pdN a r i m + (if i ≤ m ∧ m < i + 16 then a i * r (m - i) else 0)
theorem dv_shift (f : Nat → Nat) (i : Nat) : ∀ t, dv (fun m => if i ≤ m ∧ m < i + 16 then f (m - i) else 0) (i + t) = 256 ^ i * dv (fun j => if j < 16 then f j else 0) t
  | 0 => by
    rw [show i + 0 = i from rfl, dv_zero fun j hj => if_neg (by omega)]
    rfl
  | t + 1 => by
    show dv _ (i + t) + (if i ≤ i + t ∧ i + t < i + 16 then f (i + t - i) else 0) * 256 ^ (i + t) = 256 ^ i * (dv (fun j => if j < 16 then f j else 0) t + (if t < 16 then f t else 0) * 256 ^ t)
    rw [dv_shift f i t, Nat.add_sub_cancel_left, show (256 : Nat) ^ (i + t) = 256 ^ i * 256 ^ t from Nat.pow_add _ _ _, Nat.mul_add, Nat.mul_left_comm]
    by_cases c : t < 16
    · rw [if_pos ⟨by omega, by omega⟩, if_pos c]
    · rw [if_neg (by omega), if_neg c]
theorem dv_pd (a r : Nat → Nat) : ∀ i, i ≤ 17 → dv (pdN a r i) 64 = dv a i * dv r 16
  | 0, _ => by
    rw [dv_zero (v := pdN a r 0) fun j _ => rfl]
    exact (Nat.zero_mul _).symm
  | i + 1, h => by
    have e : dv (fun m => if i ≤ m ∧ m < i + 16 then a i * r (m - i) else 0) 64 = 256 ^ i * (a i * dv r 16) := by
      have h1 := dv_shift (fun j => a i * r j) i (64 - i)
      rw [show i + (64 - i) = 64 by omega] at h1
      have h4 : dv (fun j => if j < 16 then a i * r j else 0) 16 = a i * dv r 16 := by
        rw [← dv_mul]
        exact dv_congr fun j hj => if_pos hj
      rw [h1, show 64 - i = 16 + (48 - i) by omega, dv_cut fun j h2 h3 => if_neg (by omega), h4]
    show dv (fun m => pdN a r i m + (if i ≤ m ∧ m < i + 16 then a i * r (m - i) else 0)) 64 = (dv a i + a i * 256 ^ i) * dv r 16
    rw [dv_add, dv_pd a r i (by omega), e, Nat.add_mul, Nat.mul_left_comm, Nat.mul_assoc, Nat.mul_left_comm]
theorem pd_lt {a r : Nat → Nat} (ha : ∀ j, a j < 256) (hr : ∀ j, j < 16 → r j < 256) : ∀ i m, pdN a r i m ≤ i * 65025
  | 0, _ => Nat.le_refl _
  | i + 1, m => by
    have h1 := pd_lt ha hr i m
    show pdN a r i m + _ ≤ _
    split
    · have h2 : a i * r (m - i) ≤ 255 * 255 := Nat.mul_le_mul (by have := ha i; omega) (by have := hr (m - i) (by omega); omega)
      rw [Nat.succ_mul]
      exact Nat.add_le_add h1 h2
    · rw [Nat.succ_mul]
      exact Nat.le_trans h1 (Nat.le_add_right _ _)
def loP (K : Wd) (k : Nat → Nat) (n : Nat) (z : Wd) (zz : Nat → Nat) (q : Nat) : Nat → Int := fun x => if x < 32 then K x else if x < 100 then 0 else if x < 116 then (hfN k (x - 100) : Int) else if x = 301 then (n : Int) else if x = 302 then ((16 * q : Nat) : Int) else if x = 305 then ((aq n q : Nat) : Int) else if x < 400 then 0 else if x < 416 then z (16 * q + (x - 400)) else if x < 1000 then 0
  else if x < 1064 then ((accN (rN k) n zz q / 256 ^ (x - 1000) % 256 : Nat) : Int) else if x < 1100 then 0 else if x < 1164 then (((accN (rN k) n zz q + dv (pcN n zz q) 17) % pp / 256 ^ (x - 1100) % 256 : Nat) : Int) else if x < 1200 then 0 else ((accN (rN k) n zz (q + 1) / 256 ^ (x - 1200) % 256 : Nat) : Int)
def nuQ (K : Wd) (k : Nat → Nat) (n : Nat) (z : Wd) (zz : Nat → Nat) (q : Nat) : Nat → Int := nuR (loP K k n z zz q) (fun _ => n) (fun _ => aq n q) (fun _ => z)
section
variable {K z : Wd} {k zz : Nat → Nat} {n q : Nat}
theorem nuQ_K {j : Nat} (h : j < 32) : nuQ K k n z zz q j = K j := (nuR_lo (by omega)).trans (if_pos h)
theorem nuQ_r {j : Nat} (h : j < 16) : nuQ K k n z zz q (100 + j) = (hfN k j : Int) := by
  refine (nuR_lo (by omega)).trans ?_
  unfold loP
  rw [if_neg (by omega), if_neg (by omega), if_pos (by omega), Nat.add_sub_cancel_left]
theorem nuQ_n : nuQ K k n z zz q 301 = n := (nuR_lo (by decide)).trans rfl
theorem nuQ_i : nuQ K k n z zz q 302 = ((16 * q : Nat) : Int) := (nuR_lo (by decide)).trans rfl
theorem nuQ_p : nuQ K k n z zz q 305 = ((aq n q : Nat) : Int) := (nuR_lo (by decide)).trans rfl
theorem nuQ_x {j : Nat} (h : j < 16) : nuQ K k n z zz q (400 + j) = z (16 * q + j) := by
  refine (nuR_lo (by omega)).trans ?_
  unfold loP
  rw [if_neg (by omega), if_neg (by omega), if_neg (by omega), if_neg (by omega), if_neg (by omega), if_neg (by omega), if_neg (by omega), if_pos (by omega), Nat.add_sub_cancel_left]
theorem nuQ_a {j : Nat} (h : j < 64) : nuQ K k n z zz q (1000 + j) = ((accN (rN k) n zz q / 256 ^ j % 256 : Nat) : Int) := by
  refine (nuR_lo (by omega)).trans ?_
  unfold loP
  rw [if_neg (by omega), if_neg (by omega), if_neg (by omega), if_neg (by omega), if_neg (by omega), if_neg (by omega), if_neg (by omega), if_neg (by omega), if_neg (by omega), if_pos (by omega), Nat.add_sub_cancel_left]
theorem nuQ_b {j : Nat} (h : j < 64) : nuQ K k n z zz q (1100 + j) = (((accN (rN k) n zz q + dv (pcN n zz q) 17) % pp / 256 ^ j % 256 : Nat) : Int) := by
  refine (nuR_lo (by omega)).trans ?_
  unfold loP
  rw [if_neg (by omega), if_neg (by omega), if_neg (by omega), if_neg (by omega), if_neg (by omega), if_neg (by omega), if_neg (by omega), if_neg (by omega), if_neg (by omega), if_neg (by omega), if_neg (by omega), if_pos (by omega), Nat.add_sub_cancel_left]
theorem nuQ_c {j : Nat} (h : j < 64) : nuQ K k n z zz q (1200 + j) = ((accN (rN k) n zz (q + 1) / 256 ^ j % 256 : Nat) : Int) := by
  refine (nuR_lo (by omega)).trans ?_
  unfold loP
  rw [if_neg (by omega), if_neg (by omega), if_neg (by omega), if_neg (by omega), if_neg (by omega), if_neg (by omega), if_neg (by omega), if_neg (by omega), if_neg (by omega), if_neg (by omega), if_neg (by omega), if_neg (by omega), if_neg (by omega), Nat.add_sub_cancel_left]
theorem nuQ_L : nuQ K k n z zz q (pinL (tg 2)) = (n : Int) := nuR_L (by decide)
theorem nuQ_A : nuQ K k n z zz q (pinA (tg 2)) = (aq n q : Int) := nuR_A (by decide)
theorem nuQ_B {j : Nat} (h : j < 1099511627774) : nuQ K k n z zz q (pinB (tg 2) j) = z j := nuR_B (by decide) h
theorem acc_dv : dv (fun j => accN (rN k) n zz q / 256 ^ j % 256) 64 = accN (rN k) n zz q := by
  rw [dv_of]
  exact Nat.mod_eq_of_lt (Nat.lt_trans (accN_lt _ _) (by decide))
theorem pc_dv : dv (pcN n zz q) 64 = dv (pcN n zz q) 17 := by
  have hw := wq_le (n := n) (q := q)
  rw [show 64 = 17 + 47 from rfl, dv_cut fun j h1 h2 => by unfold pcN; rw [if_neg (by omega), if_neg (by omega)]]
theorem pc_lt (hz : ∀ j, j < n → z j = (zz j : Int) ∧ zz j < 256) (j : Nat) : pcN n zz q j < 256 := by
  unfold pcN
  by_cases c : j < wq n q
  · rw [if_pos c]
    exact (hz _ (by unfold wq at c; omega)).2
  · rw [if_neg c]
    split <;> decide
theorem hf_lt (hK : ∀ j, j < 32 → K j = (k j : Int) ∧ k j < 256) {j : Nat} (h : j < 16) : hfN k j < 256 := (hf_num hK h).2
theorem rowsPg_ok (hK : ∀ j, j < 32 → K j = (k j : Int) ∧ k j < 256) (hz : ∀ j, j < n → z j = (zz j : Int) ∧ zz j < 256) {w : Nat} (hw : w16 w = wq n q) : ∀ r ∈ rowsPg w, r.Ok (nuQ K k n z zz q) Try.prog := by
  intro r hr
  simp only [rowsPg, List.mem_cons, List.not_mem_nil, or_false] at hr
  have hw1 := wq_le (n := n) (q := q)
  rcases hr with rfl | rfl
  · have hd : dv (fun j => accN (rN k) n zz q / 256 ^ j % 256 + pcN n zz q j) 64 = accN (rN k) n zz q + dv (pcN n zz q) 17 := by rw [dv_add, acc_dv, pc_dv]
    refine rowMd_ok (v := fun j => accN (rN k) n zz q / 256 ^ j % 256 + pcN n zz q j) (fun j hj => ⟨?_, ?_⟩) ?_ (fun j hj => ?_)
    · rw [hw]
      have hA : accN (rN k) n zz q / 256 ^ j % 256 < 256 := Nat.mod_lt _ (by decide)
      have hQ := nuQ_a (K := K) (k := k) (z := z) (zz := zz) (n := n) (q := q) hj
      generalize accN (rN k) n zz q / 256 ^ j % 256 = A at hA hQ ⊢
      unfold gaA pcN
      by_cases c : j < wq n q
      · rw [if_pos (by simpa using c), if_pos c, eA_val, cA_val]
        show arith .add .u32 (nuQ K k n z zz q (1000 + j)) (IntKind.u32.wrap (nuQ K k n z zz q (400 + j))) = _
        have h1 := hz (16 * q + j) (by unfold wq at c; omega)
        rw [hQ, nuQ_x (by omega), h1.1, w_u32, Nat.mod_eq_of_lt (by omega), addW _ _ (by omega)]
      · rw [if_neg (by simpa using c), if_neg c]
        by_cases c2 : j = wq n q
        · rw [if_pos (by simpa using c2), if_pos c2, eA_val, nA_val]
          show arith .add .u32 (nuQ K k n z zz q (1000 + j)) _ = _
          rw [hQ, addW _ _ (by omega)]
        · rw [if_neg (by simpa using c2), if_neg c2, Nat.add_zero]
          exact hQ
    · have h1 := pc_lt (q := q) hz j
      have h2 : accN (rN k) n zz q / 256 ^ j % 256 < 256 := Nat.mod_lt _ (by decide)
      show accN (rN k) n zz q / 256 ^ j % 256 + pcN n zz q j < _
      omega
    · rw [hd]
      have h1 := accN_lt (n := n) (zz := zz) (rN k) q
      have h2 : dv (pcN n zz q) 17 < 256 ^ 17 := dv_lt fun j _ => pc_lt hz j
      have b1 : (256 : Nat) ^ 17 + pp < big := by decide
      omega
    · rw [nm_val, nuQ_b hj, hd]
  · have h1 : (accN (rN k) n zz q + dv (pcN n zz q) 17) % pp < pp := Nat.mod_lt _ (by decide)
    have hd : dv (pdN (fun j => (accN (rN k) n zz q + dv (pcN n zz q) 17) % pp / 256 ^ j % 256) (hfN k) 17) 64 = (accN (rN k) n zz q + dv (pcN n zz q) 17) % pp * rN k := by
      rw [dv_pd _ _ 17 (Nat.le_refl _), dv_of, Nat.mod_eq_of_lt (Nat.lt_trans h1 (by decide))]
      rfl
    have hp := pd_lt (a := fun j => (accN (rN k) n zz q + dv (pcN n zz q) 17) % pp / 256 ^ j % 256) (r := hfN k) (fun j => Nat.mod_lt _ (by decide)) (fun j hj => hf_lt hK hj)
    refine rowMd_ok (v := pdN (fun j => (accN (rN k) n zz q + dv (pcN n zz q) 17) % pp / 256 ^ j % 256) (hfN k) 17) (fun j hj => ⟨?_, by have := hp 17 j; omega⟩) ?_ (fun j hj => ?_)
    · have key : ∀ i, i ≤ 17 → (pdA i j).val (nuQ K k n z zz q) = (pdN (fun j => (accN (rN k) n zz q + dv (pcN n zz q) 17) % pp / 256 ^ j % 256) (hfN k) i j : Int) := by
        intro i
        induction i with
        | zero => intro _; rfl
        | succ i ih =>
          intro hi
          have ih := ih (by omega)
          have hpi := hp i j
          show (if Nat.ble i j && Nat.blt j (i + 16) then eA .add .u32 (pdA i j) (eA .mul .u32 (.s (1100 + i)) (.s (100 + (j - i)))) else pdA i j).val _ = ((pdN _ _ i j + (if i ≤ j ∧ j < i + 16 then _ else 0) : Nat) : Int)
          by_cases c : i ≤ j ∧ j < i + 16
          · rw [if_pos (by simpa using c), if_pos c, eA_val, eA_val, ih]
            show arith .add .u32 _ (arith .mul .u32 (nuQ K k n z zz q (1100 + i)) (nuQ K k n z zz q (100 + (j - i)))) = _
            have h3 := hf_lt hK (show j - i < 16 by omega)
            have h4 : (accN (rN k) n zz q + dv (pcN n zz q) 17) % pp / 256 ^ i % 256 < 256 := Nat.mod_lt _ (by decide)
            have h5 : (accN (rN k) n zz q + dv (pcN n zz q) 17) % pp / 256 ^ i % 256 * hfN k (j - i) ≤ 255 * 255 := Nat.mul_le_mul (by omega) (by omega)
            rw [nuQ_b (by omega), nuQ_r (by omega), mulW _ _ (by omega), addW _ _ (by omega)]
          · rw [if_neg (by simpa using c), if_neg c, ih, Nat.add_zero]
      exact key 17 (Nat.le_refl _)
    · rw [hd]
      have h2 : rN k < 256 ^ 16 := dv_lt fun j hj => hf_lt hK hj
      have h3 : (accN (rN k) n zz q + dv (pcN n zz q) 17) % pp * rN k ≤ pp * 256 ^ 16 := Nat.mul_le_mul (Nat.le_of_lt h1) (Nat.le_of_lt h2)
      exact Nat.lt_of_le_of_lt h3 (by decide)
    · rw [nm_val, nuQ_c hj, hd]
      show _ = (((accN (rN k) n zz q + dv (pcN n zz q) 17) % pp * rN k % pp / 256 ^ j % 256 : Nat) : Int)
      rw [show accN (rN k) n zz (q + 1) = (accN (rN k) n zz q + dv (pcN n zz q) 17) * rN k % pp from rfl, Nat.mod_mul_mod]
end
end Go.Proofs.Ytbdihdncnpajgaa
