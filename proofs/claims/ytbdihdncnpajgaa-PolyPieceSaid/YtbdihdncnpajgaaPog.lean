/-
  poly: THE TAG, as a number. Own work.
-/
import Derived.Test.YtbdihdncnpajgaaPof
namespace Go.Proofs.Ytbdihdncnpajgaa
open Go.Sh
open Go.ChangeShapes Go.WideShapes Go.ChangeAt Go.RowKit
set_option maxRecDepth 100000

/-- The first half, as far as its bits count. -/
def hfN (k : Nat → Nat) (j : Nat) : Nat := if j % 4 = 3 then k j % 16 else if j % 4 = 0 ∧ 0 < j then k j / 4 * 4 else k j
def rN (k : Nat → Nat) : Nat := dv (hfN k) 16
/-- A piece, and a byte 1 behind it. -/
def pcN (n : Nat) (z : Nat → Nat) (q j : Nat) : Nat := if j < wq n q then z (16 * q + j) else if j = wq n q then 1 else 0
def accN (r n : Nat) (z : Nat → Nat) : Nat → Nat
  | 0 => 0
  | q + 1 => (accN r n z q + dv (pcN n z q) 17) * r % pp
def tagN (k : Nat → Nat) (n : Nat) (z : Nat → Nat) (i : Nat) : Nat := (accN (rN k) n z ((n + 15) / 16) + dv (fun j => k (16 + j)) 16) / 256 ^ i % 256
theorem and252 : (List.range 256).all (fun x => decide (arith .and .u8 ((x : Nat) : Int) ((252 : Nat) : Int) = ((x / 4 * 4 : Nat) : Int))) = true := by decide +kernel
theorem hf_num {K : Wd} {k : Nat → Nat} (hK : ∀ j, j < 32 → K j = (k j : Int) ∧ k j < 256) {j : Nat} (hj : j < 16) : hfI K j = (hfN k j : Int) ∧ hfN k j < 256 := by
  obtain ⟨h1, h2⟩ := hK j (by omega)
  unfold hfI hfN
  by_cases c : j % 4 = 3
  · rw [if_pos (by simpa using c), if_pos c, h1]
    exact ⟨andM (.inr (.inr rfl)) (k j) 15 4 (by decide) (by decide) h2, by omega⟩
  · rw [if_neg (by simpa using c), if_neg c]
    by_cases c2 : j % 4 = 0 ∧ 0 < j
    · rw [if_pos (by simpa using c2), if_pos c2, h1]
      exact ⟨of_decide_eq_true (List.all_eq_true.1 and252 _ (List.mem_range.2 h2)), by omega⟩
    · rw [if_neg (by simpa using c2), if_neg c2]
      exact ⟨h1, h2⟩
section
variable {K z : Wd} {k zz : Nat → Nat} {n : Nat}
theorem rV_num (hK : ∀ j, j < 32 → K j = (k j : Int) ∧ k j < 256) : ∃ r : L5 Nat, L5.of (rV K) = r.cast ∧ B5 r 67108864 ∧ n5 r % pp = rN k % pp := by
  obtain ⟨l, h1, h2, h3⟩ := ad_num16 (b := hfI K) (B := hfN k) fun j hj => hf_num hK hj
  obtain ⟨r, g1, g2, g3⟩ := st_num h1 h2
  exact ⟨r, g1, g2, by rw [← g3, h3]; rfl⟩
theorem pc_num (hz : ∀ j, j < n → z j = (zz j : Int) ∧ zz j < 256) {q j : Nat} (hj : j < 17) : pcI n z q j = (pcN n zz q j : Int) ∧ pcN n zz q j < 256 := by
  have := hj
  unfold pcI pcN
  by_cases c : j < wq n q
  · rw [if_pos c, if_pos c]
    exact hz _ (by unfold wq at c; omega)
  · rw [if_neg c, if_neg c]
    split
    · exact ⟨rfl, by decide⟩
    · exact ⟨rfl, by decide⟩
theorem aV_num (hK : ∀ j, j < 32 → K j = (k j : Int) ∧ k j < 256) (hz : ∀ j, j < n → z j = (zz j : Int) ∧ zz j < 256) : ∀ q, ∃ a : L5 Nat, L5.of (aV K n z q) = a.cast ∧ B5 a 67108864 ∧ n5 a % pp = accN (rN k) n zz q
  | 0 => ⟨⟨0, 0, 0, 0, 0⟩, rfl, (by unfold B5; decide), (by show 0 % pp = 0; exact Nat.zero_mod _)⟩
  | q + 1 => by
    obtain ⟨a, h1, h2, h3⟩ := aV_num hK hz q
    obtain ⟨r, r1, r2, r3⟩ := rV_num hK
    obtain ⟨g1, g2⟩ := ad_num (B := pcN n zz q) h1 h2 fun j hj => pc_num hz hj
    obtain ⟨b, b1, b2, b3⟩ := st_num g1 g2
    obtain ⟨m1, m2⟩ := ml_num (h := a1V n z q (aV K n z q)) b1 r1 b2 r2
    obtain ⟨c, c1, c2, c3⟩ := st_num m1 m2
    refine ⟨c, c1, c2, ?_⟩
    rw [← c3, ml_mod, Nat.mul_mod, ← b3, r3, ← Nat.mul_mod, ad_n5]
    show (n5 a + dv (pcN n zz q) 17) * rN k % pp = (accN (rN k) n zz q + dv (pcN n zz q) 17) * rN k % pp
    rw [← h3]
    rw [Nat.mul_mod, ← Nat.mod_add_mod (n5 a), ← Nat.mul_mod]
theorem accN_lt (r : Nat) : ∀ q, accN r n zz q < pp
  | 0 => by show 0 < pp; decide
  | q + 1 => Nat.mod_lt _ (by decide)
/-- THE TAG. -/
theorem tag_num (hK : ∀ j, j < 32 → K j = (k j : Int) ∧ k j < 256) (hz : ∀ j, j < n → z j = (zz j : Int) ∧ zz j < 256) {i : Nat} (hi : i < 16) : tagV K n z i = (tagN k n zz i : Int) := by
  obtain ⟨a, h1, h2, h3⟩ := aV_num hK hz ((n + 15) / 16)
  have hb : B5 a 4611686018427387904 := ⟨by have := h2.1; omega, by have := h2.2.1; omega, by have := h2.2.2.1; omega, by have := h2.2.2.2.1; omega, by have := h2.2.2.2.2; omega⟩
  obtain ⟨c, c1, c2, c3⟩ := st_num h1 hb
  obtain ⟨d, d1, d2, d3⟩ := le_num c1 c2
  have e := tg_num (K := K) (s := fun j => k (16 + j)) d1 d2 (fun j hj => hK (16 + j) (by omega)) hi
  unfold tagV tagN
  rw [e, d3, ← c3, h3]
theorem tag_byte (hK : ∀ j, j < 32 → K j = (k j : Int) ∧ k j < 256) (hz : ∀ j, j < n → z j = (zz j : Int) ∧ zz j < 256) : Bytes (tagV K n z) 16 := fun i hi => ⟨_, tag_num hK hz hi, Nat.mod_lt _ (by decide)⟩
end
end Go.Proofs.Ytbdihdncnpajgaa
