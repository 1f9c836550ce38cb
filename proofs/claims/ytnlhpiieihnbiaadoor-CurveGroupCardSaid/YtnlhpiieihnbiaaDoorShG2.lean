/-
  THE CURVE: points by four numbers, their sums and multiples; points' bytes. Own work.
-/
import Derived.Test.YtnlhpiieihnbiaaDoorSh0
namespace Go.Sh
set_option maxRecDepth 100000

/-- x z, y z, z, x y z. -/
structure P4 where
  x : F
  y : F
  z : F
  t : F

def fadd (p q : P4) : P4 where
  x := ((p.y + p.x) * (q.y + q.x) - (p.y - p.x) * (q.y - q.x)) * ((p.z * q.z + p.z * q.z) - p.t * (2 * dE) * q.t)
  y := ((p.z * q.z + p.z * q.z) + p.t * (2 * dE) * q.t) * ((p.y + p.x) * (q.y + q.x) + (p.y - p.x) * (q.y - q.x))
  z := ((p.z * q.z + p.z * q.z) - p.t * (2 * dE) * q.t) * ((p.z * q.z + p.z * q.z) + p.t * (2 * dE) * q.t)
  t := ((p.y + p.x) * (q.y + q.x) - (p.y - p.x) * (q.y - q.x)) * ((p.y + p.x) * (q.y + q.x) + (p.y - p.x) * (q.y - q.x))

def Rep (p : P4) (P : Pt) : Prop := p.z ≠ 0 ∧ p.x = P.x * p.z ∧ p.y = P.y * p.z ∧ p.t = P.x * P.y * p.z

theorem g1 (x1 y1 z1 x2 y2 z2 : F) : (y1 * z1 + x1 * z1) * (y2 * z2 + x2 * z2) - (y1 * z1 - x1 * z1) * (y2 * z2 - x2 * z2) = 2 * (z1 * z2) * (x1 * y2 + x2 * y1) := by grobner
theorem g2 (x1 y1 z1 x2 y2 z2 : F) : (y1 * z1 + x1 * z1) * (y2 * z2 + x2 * z2) + (y1 * z1 - x1 * z1) * (y2 * z2 - x2 * z2) = 2 * (z1 * z2) * (y1 * y2 + x1 * x2) := by grobner
theorem g3 (x1 y1 z1 x2 y2 z2 d : F) : (z1 * z2 + z1 * z2) - x1 * y1 * z1 * (2 * d) * (x2 * y2 * z2) = 2 * (z1 * z2) * (1 - d * x1 * x2 * y1 * y2) := by grobner
theorem g4 (x1 y1 z1 x2 y2 z2 d : F) : (z1 * z2 + z1 * z2) + x1 * y1 * z1 * (2 * d) * (x2 * y2 * z2) = 2 * (z1 * z2) * (1 + d * x1 * x2 * y1 * y2) := by grobner
theorem g5 {w X D E N : F} (h : X * D = N) : 2 * w * N * (2 * w * E) = X * (2 * w * E * (2 * w * D)) := by grobner
theorem g6 {w Y D E M : F} (h : Y * E = M) : 2 * w * D * (2 * w * M) = Y * (2 * w * E * (2 * w * D)) := by grobner
theorem g7 {w X Y D E M N : F} (h : Y * E = M) (h' : X * D = N) : 2 * w * N * (2 * w * M) = X * Y * (2 * w * E * (2 * w * D)) := by grobner

theorem fadd_rep {p q : P4} {P Q : Pt} (hp : Rep p P) (hq : Rep q Q) : Rep (fadd p q) (P.add Q) := by
  obtain ⟨px, py, pz, pt⟩ := p
  obtain ⟨qx, qy, qz, qt⟩ := q
  obtain ⟨p1, p2, p3, p4⟩ := hp
  obtain ⟨q1, q2, q3, q4⟩ := hq
  simp only at p1 p2 p3 p4 q1 q2 q3 q4
  have d1 := den_p P.on Q.on
  have d2 := den_m P.on Q.on
  have hx := add_x P Q
  have hy := add_y P Q
  have hw : (2 : F) * (pz * qz) ≠ 0 := fnz two_ne (fnz p1 q1)
  subst p2 p3 p4 q2 q3 q4
  unfold Rep fadd
  simp only
  rw [g1, g2, g3, g4]
  exact ⟨fnz (fnz hw d2) (fnz hw d1), g5 hx, g6 hy, g7 hy hx⟩

/-- Bit by bit, from bit 255 on. -/
def ftimes (p : P4) (n : Nat) : Nat → P4
  | 0 => ⟨0, 1, 1, 0⟩
  | m + 1 => if n.testBit (255 - m) then fadd (fadd (ftimes p n m) (ftimes p n m)) p else fadd (ftimes p n m) (ftimes p n m)

theorem rep_zero : Rep ⟨0, 1, 1, 0⟩ .zero := by
  refine ⟨by decide +kernel, ?_, ?_, ?_⟩
  · show (0 : F) = 0 * 1
    grobner
  · show (1 : F) = 1 * 1
    grobner
  · show (0 : F) = 0 * 1 * 1
    grobner

theorem bit_next' (k m : Nat) (hm : m < 256) : k / 2 ^ (256 - (m + 1)) = 2 * (k / 2 ^ (256 - m)) + (k.testBit (255 - m)).toNat := by
  have e : 256 - m = 255 - m + 1 := by omega
  rw [e, Nat.pow_succ, ← Nat.div_div_eq_div_mul, show 256 - (m + 1) = 255 - m by omega, Nat.testBit_eq_decide_div_mod_eq]
  generalize k / 2 ^ (255 - m) = q
  by_cases h : q % 2 = 1
  · rw [decide_eq_true h]
    show q = 2 * (q / 2) + 1
    omega
  · rw [decide_eq_false h]
    show q = 2 * (q / 2) + 0
    omega

theorem ftimes_rep {p : P4} {P : Pt} (hp : Rep p P) {n : Nat} (hn : n < 2 ^ 256) : ∀ m, m ≤ 256 → Rep (ftimes p n m) (smul (n / 2 ^ (256 - m)) P) := by
  intro m
  induction m with
  | zero =>
    intro _
    have e : n / 2 ^ (256 - 0) = 0 := Nat.div_eq_of_lt hn
    rw [e]
    exact rep_zero
  | succ m ih =>
    intro hm
    have h := ih (by omega)
    rw [bit_next' n m (by omega)]
    generalize n / 2 ^ (256 - m) = q at *
    have e2 : smul (2 * q) P = (smul q P).add (smul q P) := by
      rw [← smul_add]
      exact congrArg (fun m => smul m P) (show 2 * q = q + q by omega)
    show Rep (if n.testBit (255 - m) then fadd (fadd (ftimes p n m) (ftimes p n m)) p else fadd (ftimes p n m) (ftimes p n m)) _
    generalize ftimes p n m = s at *
    cases n.testBit (255 - m)
    · show Rep (fadd s s) (smul (2 * q + 0) P)
      rw [Nat.add_zero, e2]
      exact fadd_rep h h
    · show Rep (fadd (fadd s s) p) (smul (2 * q + 1) P)
      rw [smul_succ, e2]
      exact fadd_rep (fadd_rep h h) hp
/-- So many times a point. -/
theorem ftimes_all {p : P4} {P : Pt} (hp : Rep p P) {n : Nat} (hn : n < 2 ^ 256) : Rep (ftimes p n 256) (smul n P) := by
  have h := ftimes_rep hp hn 256 (Nat.le_refl _)
  rwa [Nat.sub_self, Nat.pow_zero, Nat.div_one] at h

/-! Bytes. -/

def two255 : Nat := 57896044618658097711785492504343953926634992332820282019728792003956564819968
/-- A point's bytes, as a number. -/
def enc (P : Pt) : Nat := P.y.val + two255 * (P.x.val % 2)
theorem enc_lt (P : Pt) : enc P < B4 := by
  have h := val_lt P.y
  unfold enc two255 B4
  unfold prime at h
  omega
/-- The pair of numbers of a representative. -/
theorem rep_xy {p : P4} {P : Pt} (h : Rep p P) : p.x * inv p.z = P.x ∧ p.y * inv p.z = P.y := ⟨quot_eq h.1 h.2.1, quot_eq h.1 h.2.2.1⟩

/-- The numerator and the denominator of x². -/
theorem on_xx {P : Pt} : P.x * P.x = (P.y * P.y - 1) * inv (dE * (P.y * P.y) + 1) := by
  have hd := on_den P.on
  have hon := P.on
  unfold On at hon
  have hd' : dE * (P.y * P.y) + 1 ≠ 0 := fun h => hd (by
    rw [← h]
    generalize dE = d
    grobner)
  refine (quot_eq hd' ?_).symm
  generalize dE = d at *
  generalize P.x = x at *
  generalize P.y = y at *
  grobner
theorem xx_on {x y : F} (h : x * x = (y * y - 1) * inv (dE * (y * y) + 1)) (hd : dE * (y * y) + 1 ≠ 0) : On x y := by
  have hi := mul_inv hd
  generalize inv (dE * (y * y) + 1) = i at *
  unfold On
  generalize dE = d at *
  have h2 : x * x * (d * (y * y) + 1) = (y * y - 1) := by
    rw [h]
    generalize d * (y * y) + 1 = q at *
    generalize y * y - 1 = p at *
    grobner
  grobner
theorem den_all (y : F) : dE * (y * y) + 1 ≠ 0 := by
  intro h0
  by_cases hy : y = 0
  · subst hy
    have : (1 : F) = 0 := by grobner
    exact absurd this (by decide +kernel)
  have hi := mul_inv hy
  generalize inv y = i at hi
  have h2 : (iE * i) * (iE * i) = dE * (1 * 1) := by
    have := iE_sq
    generalize iE = e at *
    generalize dE = d at *
    grobner
  exact absurd (dE_ns h2) (by decide +kernel)

theorem sq_same {x y : F} (h : x * x = y * y) : x = y ∨ x = -y := by
  have h1 : (x - y) * (x + y) = 0 := by grobner
  rcases fz h1 with h2 | h2
  · exact .inl (by grobner)
  · exact .inr (by grobner)
theorem neg_val {x : F} (h : x ≠ 0) : (-x).val = prime - x.val := by
  have h1 : (-x).val = (prime - x.val) % prime := rfl
  have h2 := val_lt x
  have h3 : x.val ≠ 0 := fun h0 => h (Fin.ext h0)
  rw [h1, Nat.mod_eq_of_lt (by omega)]
theorem enc_inj {P Q : Pt} (h : enc P = enc Q) : P = Q := by
  have h1 := val_lt P.y
  have h2 := val_lt Q.y
  unfold enc two255 at h
  unfold prime at h1 h2
  have ey : P.y = Q.y := Fin.ext (by omega)
  have ex : P.x.val % 2 = Q.x.val % 2 := by omega
  have hs : P.x * P.x = Q.x * Q.x := by rw [on_xx, on_xx, ey]
  rcases sq_same hs with h3 | h3
  · exact Pt.ext h3 ey
  · by_cases h0 : Q.x = 0
    · refine Pt.ext ?_ ey
      rw [h3, h0]
      grobner
    · exfalso
      have h4 := neg_val h0
      rw [← h3] at h4
      have h5 := val_lt Q.x
      unfold prime at h4 h5
      omega
end Go.Sh
