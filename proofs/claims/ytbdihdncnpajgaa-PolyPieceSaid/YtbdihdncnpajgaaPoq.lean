/-
  PolyOnes and PolyPiece: whole numbers, digit by digit. Own work.
-/
import Derived.Test.YtbdihdncnpajgaaPoo
namespace Go.Proofs.Ytbdihdncnpajgaa
open Go.Sh
open Go.ChangeShapes Go.WideShapes Go.ChangeAt Go.RowKit
set_option maxRecDepth 100000

theorem addL (x y : Nat) (h : x + y < 4611686018427387904) : arith .add .i64 (x : Int) (y : Int) = ((x + y : Nat) : Int) := by
  show IntKind.i64.wrap ((x : Int) + (y : Int)) = _
  rw [← Int.natCast_add, i64_small (by omega) (by omega)]
theorem mulL (x y : Nat) (h : x * y < 4611686018427387904) : arith .mul .i64 (x : Int) (y : Int) = ((x * y : Nat) : Int) := by
  show IntKind.i64.wrap ((x : Int) * (y : Int)) = _
  rw [← Int.natCast_mul, i64_small (by omega) (by omega)]
theorem quoL (x m : Nat) (hx : x < 4611686018427387904) : arith .quo .i64 (x : Int) (m : Int) = ((x / m : Nat) : Int) := by
  have h : x / m ≤ x := Nat.div_le_self _ _
  show IntKind.i64.wrap ((x : Int).tdiv (m : Int)) = _
  rw [show (x : Int).tdiv (m : Int) = ((x / m : Nat) : Int) from rfl]
  generalize x / m = y at h ⊢
  exact i64_small (by omega) (by omega)
theorem remL (x m : Nat) : arith .rem .i64 (x : Int) (m : Int) = ((x % m : Nat) : Int) := rfl
theorem wrapL (x : Nat) (h : x < 4611686018427387904) : IntKind.i64.wrap (x : Int) = (x : Int) := i64_small (by omega) (by omega)
/-- Carried from digit to digit, as whole numbers. -/
def cgA (c : AI) (g : Nat → AI) : Nat → AI
  | 0 => eA .add .i64 c (g 0)
  | i + 1 => eA .add .i64 (eA .quo .i64 (cgA c g i) (nA 256)) (g (i + 1))
def d2A (c : AI) (g : Nat → AI) (m j : Nat) : AI := if Nat.blt j m then eA .rem .i64 (cgA c g j) (nA 256) else g j
def hgA (d : Nat → AI) : AI := eA .add .i64 (eA .quo .i64 (d 16) (nA 4)) (eA .mul .i64 (d 17) (nA 64))
def pr0 (d : Nat → AI) (j : Nat) : AI := if Nat.beq j 0 then eA .add .i64 (d 0) (eA .mul .i64 (nA 5) (hgA d)) else if Nat.beq j 16 then eA .rem .i64 (d 16) (nA 4) else if Nat.beq j 17 then .c 0 else d j
def prA (m : Nat) (g : Nat → AI) (j : Nat) : AI := pr0 (d2A (.c 0) g m) j
def d2N (c : Nat) (v : Nat → Nat) (m j : Nat) : Nat := if j < m then dgN c v j else v j
def hgN (d : Nat → Nat) : Nat := d 16 / 4 + d 17 * 64
def pr0N (d : Nat → Nat) (j : Nat) : Nat := if j = 0 then d 0 + 5 * hgN d else if j = 16 then d 16 % 4 else if j = 17 then 0 else d j
def prN (m : Nat) (v : Nat → Nat) (j : Nat) : Nat := pr0N (d2N 0 v m) j
section
variable {ν : Nat → Int} {g : Nat → AI} {v : Nat → Nat} {c : AI} {cn : Nat}
theorem cg_num {m : Nat} (hc : c.val ν = (cn : Int)) (hcn : cn < 256) (hg : ∀ j, j < m → (g j).val ν = (v j : Int) ∧ v j < 16777216) : ∀ i, i < m → (cgA c g i).val ν = (chN cn v i : Int) ∧ chN cn v i < 33554432
  | 0, h => by
    obtain ⟨h1, h2⟩ := hg 0 h
    refine ⟨?_, by show cn + v 0 < _; omega⟩
    show (eA .add .i64 c (g 0)).val ν = _
    rw [eA_val, hc, h1, addL _ _ (by omega)]
    rfl
  | i + 1, h => by
    obtain ⟨h1, h2⟩ := hg (i + 1) h
    obtain ⟨h3, h4⟩ := cg_num hc hcn hg i (by omega)
    refine ⟨?_, by show chN cn v i / 256 + v (i + 1) < _; omega⟩
    show (eA .add .i64 (eA .quo .i64 (cgA c g i) (nA 256)) (g (i + 1))).val ν = _
    rw [eA_val, eA_val, h3, h1, nA_val, quoL _ _ (by omega), addL _ _ (by omega)]
    rfl
theorem d2_num {m : Nat} (hc : c.val ν = (cn : Int)) (hcn : cn < 256) (hg : ∀ j, j < 20 → (g j).val ν = (v j : Int) ∧ v j < 16777216) (hm : m ≤ 20) {j : Nat} (hj : j < 20) : (d2A c g m j).val ν = (d2N cn v m j : Int) := by
  unfold d2A d2N
  by_cases h : j < m
  · obtain ⟨h1, h2⟩ := cg_num (m := m) hc hcn (fun j hj => hg j (by omega)) j h
    rw [if_pos (by simpa using h), if_pos h, eA_val, h1, nA_val, remL]
    rfl
  · rw [if_neg (by simpa using h), if_neg h]
    exact (hg j hj).1
end
theorem d2_lt {c m : Nat} {v : Nat → Nat} (hv : ∀ j, m ≤ j → j < 20 → v j < 256) {j : Nat} (hj : j < 20) : d2N c v m j < 256 := by
  unfold d2N
  split
  · exact dg_lt
  · exact hv j (by omega) hj
theorem pr0_num {ν : Nat → Int} {d : Nat → AI} {e : Nat → Nat} (hd : ∀ j, j < 20 → (d j).val ν = (e j : Int) ∧ e j < 256) {j : Nat} (hj : j < 20) : (pr0 d j).val ν = (pr0N e j : Int) := by
  have h0 := hd 0 (by decide)
  have h16 := hd 16 (by decide)
  have h17 := hd 17 (by decide)
  unfold pr0 pr0N
  by_cases c0 : j = 0
  · rw [if_pos (by simpa using c0), if_pos c0]
    unfold hgA hgN
    rw [eA_val, eA_val, eA_val, eA_val, eA_val, h0.1, h16.1, h17.1, nA_val, nA_val, nA_val, quoL _ _ (by omega), mulL _ _ (by omega), addL _ _ (by omega), mulL _ _ (by omega), addL _ _ (by omega)]
  · rw [if_neg (by simpa using c0), if_neg c0]
    by_cases c1 : j = 16
    · rw [if_pos (by simpa using c1), if_pos c1, eA_val, h16.1, nA_val, remL]
    · rw [if_neg (by simpa using c1), if_neg c1]
      by_cases c2 : j = 17
      · rw [if_pos (by simpa using c2), if_pos c2]
        rfl
      · rw [if_neg (by simpa using c2), if_neg c2]
        exact (hd j hj).1
theorem pr0_lt {e : Nat → Nat} (h : ∀ j, j < 20 → e j < 256) {j : Nat} (hj : j < 20) : pr0N e j < 100000 := by
  have h0 := h 0 (by decide)
  have h16 := h 16 (by decide)
  have h17 := h 17 (by decide)
  have hh := h j hj
  unfold pr0N hgN
  split
  · omega
  · split
    · omega
    · split <;> omega
/-- What it makes of a number. -/
theorem dv_pr0 {e : Nat → Nat} {x : Nat} (hx : x < 256 ^ 18) (he : ∀ j, j < 20 → e j = x / 256 ^ j % 256) : dv (pr0N e) 20 = red x := by
  have q16 : (256 : Nat) ^ 16 = 340282366920938463463374607431768211456 := by decide
  have q18 : (256 : Nat) ^ 18 = 22300745198530623141535718272648361505980416 := by decide
  have t18 : e 18 = 0 := by rw [he 18 (by decide), Nat.div_eq_of_lt hx]
  have t19 : e 19 = 0 := by rw [he 19 (by decide), Nat.div_eq_of_lt (Nat.lt_trans hx (by decide))]
  have e0 : dv (pr0N e) 20 = dv (loN e) 20 + dv (fun j => if j < 1 then 5 * hgN e else 0) 20 := by
    rw [← dv_add]
    refine dv_congr fun j hj => ?_
    unfold pr0N loN
    by_cases c0 : j = 0
    · subst c0
      rw [if_pos rfl, if_pos (by decide), if_pos (by decide)]
    · rw [if_neg c0, if_neg (show ¬ j < 1 by omega), Nat.add_zero]
      by_cases c1 : j < 16
      · rw [if_pos c1, if_neg (by omega), if_neg (by omega)]
      · rw [if_neg c1]
        by_cases c2 : j = 16
        · subst c2
          rw [if_pos rfl, if_pos rfl]
        · rw [if_neg c2, if_neg c2]
          have : j = 17 ∨ j = 18 ∨ j = 19 := by omega
          rcases this with rfl | rfl | rfl
          · rw [if_pos rfl]
          · rw [if_neg (by decide), t18]
          · rw [if_neg (by decide), t19]
  have e1 : dv (loN e) 20 = x % 1361129467683753853853498429727072845824 := by
    rw [show 20 = 17 + 3 from rfl, dv_cut fun j h1 h2 => by unfold loN; rw [if_neg (by omega), if_neg (by omega)]]
    show dv (loN e) 16 + loN e 16 * 256 ^ 16 = _
    rw [show dv (loN e) 16 = dv (fun i => x / 256 ^ i % 256) 16 from dv_congr fun j hj => by unfold loN; rw [if_pos hj]; exact he j (by omega), dv_of,
      show loN e 16 = x / 256 ^ 16 % 256 % 4 by unfold loN; rw [if_neg (by decide), if_pos rfl, he 16 (by decide)], q16]
    omega
  have e2 : dv (fun j => if j < 1 then 5 * hgN e else 0) 20 = 5 * hgN e := by
    rw [show 20 = 1 + 19 from rfl, dv_cut fun j h1 h2 => if_neg (by omega)]
    show 0 + (if 0 < 1 then 5 * hgN e else 0) * 256 ^ 0 = _
    rw [if_pos (by decide), Nat.zero_add, Nat.pow_zero, Nat.mul_one]
  have e3 : hgN e = x / 1361129467683753853853498429727072845824 := by
    unfold hgN
    rw [he 16 (by decide), he 17 (by decide), show 256 ^ 17 = 256 ^ 16 * 256 from rfl, ← Nat.div_div_eq_div_mul, q16]
    rw [q18] at hx
    omega
  rw [e0, e1, e2, e3]
  rfl
theorem d2_at {m : Nat} {v : Nat → Nat} {x : Nat} (hx : dv v 20 = x) (h256 : x < 256 ^ m) {j : Nat} (hj : j < 20) : d2N 0 v m j = x / 256 ^ j % 256 := by
  unfold d2N
  by_cases c : j < m
  · rw [if_pos c, dg_at 0 v hj, Nat.zero_add, hx]
  · rw [if_neg c]
    have h1 : v j * 256 ^ j ≤ x := by
      obtain ⟨t, ht⟩ := dv_up v (j + 1) (20 - (j + 1))
      rw [show j + 1 + (20 - (j + 1)) = 20 by omega] at ht
      rw [← hx, ht]
      show v j * 256 ^ j ≤ dv v j + v j * 256 ^ j + _
      omega
    have h2 : 256 ^ m ≤ 256 ^ j := Nat.pow_le_pow_right (by decide) (by omega)
    have h3 : v j = 0 := by
      rcases Nat.eq_zero_or_pos (v j) with h | h
      · exact h
      · have : 1 * 256 ^ j ≤ v j * 256 ^ j := Nat.mul_le_mul_right _ h
        omega
    rw [h3, Nat.div_eq_of_lt (Nat.lt_of_lt_of_le h256 h2)]
theorem dv_pr {m : Nat} {v : Nat → Nat} (h18 : 18 ≤ m) (hx : dv v 20 < 256 ^ 18) : dv (prN m v) 20 = red (dv v 20) := by
  refine dv_pr0 hx fun j hj => ?_
  exact d2_at rfl (Nat.lt_of_lt_of_le hx (Nat.pow_le_pow_right (by decide) h18)) hj
theorem pr_num {ν : Nat → Int} {g : Nat → AI} {v : Nat → Nat} {m : Nat} (hm : m ≤ 20) (hg : ∀ j, j < 20 → (g j).val ν = (v j : Int) ∧ v j < 16777216) (hv : ∀ j, m ≤ j → j < 20 → v j < 256) {j : Nat} (hj : j < 20) : (prA m g j).val ν = (prN m v j : Int) ∧ prN m v j < 100000 :=
  ⟨pr0_num (fun j hj => ⟨d2_num (cn := 0) rfl (by decide) hg hm hj, d2_lt hv hj⟩) hj, pr0_lt (fun j hj => d2_lt hv hj) hj⟩
theorem red_id {x : Nat} (h : x < 1361129467683753853853498429727072845824) : red x = x := by
  unfold red
  omega
theorem red_small {x : Nat} (h : x < 1361129467683753853853498429727072845824 * 1000000) : red (red x) < 1361129467683753853853498429727072845824 + 10 := by
  unfold red
  omega
/-- The tag is a sum, digit by digit. -/
theorem tag_dg {k zz : Nat → Nat} {n i : Nat} (hi : i < 16) : tagN k n zz i = dgN 0 (fun j => accN (rN k) n zz ((n + 15) / 16) / 256 ^ j % 256 + k (16 + j)) i := by
  let v : Nat → Nat := fun j => accN (rN k) n zz ((n + 15) / 16) / 256 ^ j % 256 + (if j < 16 then k (16 + j) else 0)
  have hs : dv v 64 = accN (rN k) n zz ((n + 15) / 16) + dv (fun j => k (16 + j)) 16 := by
    show dv (fun j => accN (rN k) n zz ((n + 15) / 16) / 256 ^ j % 256 + (if j < 16 then k (16 + j) else 0)) 64 = _
    rw [dv_add, acc_dv, show 64 = 16 + 48 from rfl, dv_cut fun j h1 h2 => if_neg (by omega)]
    exact congrArg _ (dv_congr fun j hj => if_pos hj)
  have e : dv v 16 = dv (fun j => accN (rN k) n zz ((n + 15) / 16) / 256 ^ j % 256 + k (16 + j)) 16 := dv_congr fun j hj => by
    show _ + (if j < 16 then k (16 + j) else 0) = _
    rw [if_pos hj]
  rw [dg_at 0 _ hi, ← e, ← dg_at 0 v hi, dg_at 0 v (show i < 64 by omega), hs, Nat.zero_add]
  rfl
/-! the end: five more, or not; held against the tag -/
def fdA (m : Nat) (g : Nat → AI) (b : Bool) (j : Nat) : AI := if b then d2A (nA 5) (d2A (.c 0) g m) m j else d2A (.c 0) g m j
def ckA (f : Nat → AI) : Nat → AI
  | 0 => eA .add .i64 (eA .add .i64 (.c 0) (f 0)) (cA .i64 (.s 0))
  | i + 1 => eA .add .i64 (eA .add .i64 (eA .quo .i64 (ckA f i) (nA 256)) (f (i + 1))) (cA .i64 (.s (i + 1)))
def fOe (m : Nat) (g : Nat → AI) (b : Bool) : List (BinOp × AI × AI × Bool) := (.geq, d2A (nA 5) (d2A (.c 0) g m) m 16, nA 4, b) :: (List.range 16).map (fun i => (.neq, .s (140 + i), cA .u8 (eA .rem .i64 (ckA (fdA m g b) i) (nA 256)), false))
theorem ck_num {ν : Nat → Int} {f : Nat → AI} {e s : Nat → Nat} (hf : ∀ j, j < 16 → (f j).val ν = (e j : Int) ∧ e j < 256) (hs : ∀ j, j < 16 → ν j = (s j : Int) ∧ s j < 256) : ∀ i, i < 16 → (ckA f i).val ν = (chN 0 (fun j => e j + s j) i : Int) ∧ chN 0 (fun j => e j + s j) i < 1024
  | 0, h => by
    obtain ⟨h1, h2⟩ := hf 0 h
    obtain ⟨h3, h4⟩ := hs 0 h
    refine ⟨?_, by show 0 + (e 0 + s 0) < 1024; omega⟩
    show (eA .add .i64 (eA .add .i64 (.c 0) (f 0)) (cA .i64 (.s 0))).val ν = ((0 + (e 0 + s 0) : Nat) : Int)
    rw [eA_val, eA_val, cA_val, h1]
    show arith .add .i64 (arith .add .i64 ((0 : Nat) : Int) (e 0 : Int)) (IntKind.i64.wrap (ν 0)) = _
    rw [h3, wrapL _ (by omega), addL _ _ (by omega), addL _ _ (by omega), Nat.add_assoc]
  | i + 1, h => by
    obtain ⟨h1, h2⟩ := hf (i + 1) h
    obtain ⟨h3, h4⟩ := hs (i + 1) h
    obtain ⟨h5, h6⟩ := ck_num hf hs i (by omega)
    refine ⟨?_, by show chN 0 (fun j => e j + s j) i / 256 + (e (i + 1) + s (i + 1)) < 1024; omega⟩
    show (eA .add .i64 (eA .add .i64 (eA .quo .i64 (ckA f i) (nA 256)) (f (i + 1))) (cA .i64 (.s (i + 1)))).val ν = ((chN 0 (fun j => e j + s j) i / 256 + (e (i + 1) + s (i + 1)) : Nat) : Int)
    rw [eA_val, eA_val, eA_val, cA_val, h1, h5, nA_val, quoL _ _ (by omega)]
    show arith .add .i64 (arith .add .i64 _ (e (i + 1) : Int)) (IntKind.i64.wrap (ν (i + 1))) = _
    rw [h3, wrapL _ (by omega), addL _ _ (by omega), addL _ _ (by omega), Nat.add_assoc]
/-- What the law's end has to know. -/
theorem oe_hold {ν : Nat → Int} {g : Nat → AI} {m n : Nat} {v s k zz : Nat → Nat} (hm : m ≤ 20) (h18 : 18 ≤ m) (hg : ∀ j, j < 20 → (g j).val ν = (v j : Int) ∧ v j < 16777216) (hx : dv v 20 < 1361129467683753853853498429727072845824) (hs : ∀ j, j < 16 → ν j = (s j : Int) ∧ s j < 256)
    (hk : ∀ j, j < 16 → k (16 + j) = s j) (hacc : accN (rN k) n zz ((n + 15) / 16) = dv v 20 % pp) (ht : ∀ j, j < 16 → ν (140 + j) = (tagN k n zz j : Int)) :
    ∀ p ∈ fOe m g (decide (4 ≤ (5 + dv v 20) / 256 ^ 16 % 256)), compare p.1 (p.2.1.val ν) (p.2.2.1.val ν) = p.2.2.2 := by
  have q16 : (256 : Nat) ^ 16 = 340282366920938463463374607431768211456 := by decide
  have x18 : dv v 20 < 256 ^ 18 := Nat.lt_trans hx (by decide)
  have xm : dv v 20 < 256 ^ m := Nat.lt_of_lt_of_le x18 (Nat.pow_le_pow_right (by decide) h18)
  have hd : ∀ j, j < 20 → (d2A (.c 0) g m j).val ν = (d2N 0 v m j : Int) ∧ d2N 0 v m j < 256 := fun j hj => ⟨d2_num (cn := 0) rfl (by decide) hg hm hj, by rw [d2_at rfl xm hj]; exact Nat.mod_lt _ (by decide)⟩
  have hdx : dv (d2N 0 v m) 20 = dv v 20 := by
    rw [show dv (d2N 0 v m) 20 = dv (fun i => dv v 20 / 256 ^ i % 256) 20 from dv_congr fun j hj => d2_at rfl xm hj, dv_of]
    exact Nat.mod_eq_of_lt (Nat.lt_trans x18 (by decide))
  have ht5 : ∀ j, j < 17 → (d2A (nA 5) (d2A (.c 0) g m) m j).val ν = (((5 + dv v 20) / 256 ^ j % 256 : Nat) : Int) := fun j hj => by
    rw [d2_num (c := nA 5) (cn := 5) (v := d2N 0 v m) rfl (by decide) (fun j hj => ⟨(hd j hj).1, by have := (hd j hj).2; omega⟩) hm (by omega)]
    unfold d2N
    rw [if_pos (by omega), dg_at 5 _ (show j < 20 by omega)]
    rw [show (dv (fun j => if j < m then dgN 0 v j else v j) 20) = dv v 20 from hdx]
  have hf : ∀ j, j < 16 → (fdA m g (decide (4 ≤ (5 + dv v 20) / 256 ^ 16 % 256)) j).val ν = ((dv v 20 % pp / 256 ^ j % 256 : Nat) : Int) ∧ dv v 20 % pp / 256 ^ j % 256 < 256 := fun j hj => by
    refine ⟨?_, Nat.mod_lt _ (by decide)⟩
    unfold fdA
    by_cases c : 4 ≤ (5 + dv v 20) / 256 ^ 16 % 256
    · rw [decide_eq_true c, if_pos rfl, ht5 j (by omega)]
      rw [q16] at c
      obtain ⟨Y, hY⟩ : ∃ Y, 5 + dv v 20 = Y + 1361129467683753853853498429727072845824 := ⟨5 + dv v 20 - 1361129467683753853853498429727072845824, by omega⟩
      have hmm : dv v 20 % pp = Y := by
        rw [show dv v 20 = Y + pp by unfold pp; omega, Nat.add_mod_right, Nat.mod_eq_of_lt (by unfold pp; omega)]
      rw [hmm, hY, digit_off Y j hj]
    · rw [decide_eq_false c, if_neg (by decide), (hd j (by omega)).1, d2_at rfl xm (by omega)]
      rw [q16] at c
      have hmm : dv v 20 % pp = dv v 20 := Nat.mod_eq_of_lt (by unfold pp; omega)
      rw [hmm]
  intro p hp
  rcases List.mem_cons.1 hp with rfl | hp
  · show decide ((d2A (nA 5) (d2A (.c 0) g m) m 16).val ν ≥ ((4 : Nat) : Int)) = _
    rw [ht5 16 (by decide)]
    exact decide_eq_decide.2 (by omega)
  · obtain ⟨i, hi, rfl⟩ := List.mem_map.1 hp
    have hi := List.mem_range.1 hi
    show (ν (140 + i) != (cA .u8 (eA .rem .i64 (ckA (fdA m g _) i) (nA 256))).val ν) = false
    obtain ⟨h1, h2⟩ := ck_num hf hs i hi
    rw [cA_val, eA_val, h1, nA_val, remL, w_u8, Nat.mod_mod, ht i hi, tag_dg hi, hacc]
    have e : dgN 0 (fun j => dv v 20 % pp / 256 ^ j % 256 + k (16 + j)) i = chN 0 (fun j => dv v 20 % pp / 256 ^ j % 256 + s j) i % 256 := by
      rw [dg_at 0 _ hi]
      have := dg_at 0 (fun j => dv v 20 % pp / 256 ^ j % 256 + s j) hi
      rw [show chN 0 (fun j => dv v 20 % pp / 256 ^ j % 256 + s j) i % 256 = dgN 0 (fun j => dv v 20 % pp / 256 ^ j % 256 + s j) i from rfl, this,
        show dv (fun j => dv v 20 % pp / 256 ^ j % 256 + k (16 + j)) 16 = dv (fun j => dv v 20 % pp / 256 ^ j % 256 + s j) 16 from dv_congr fun j hj => by rw [hk j hj]]
    rw [e]
    exact bne_self_eq_false _
end Go.Proofs.Ytbdihdncnpajgaa
