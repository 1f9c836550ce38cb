/-
  THE CURVE: multiples; the ladder makes the place of a multiple; B, and that its order is the prime L. Own work.
-/
import Derived.Test.YtnlhpiieihnbiaaDoorSh9
namespace Go.Sh
set_option maxRecDepth 100000

/-! Multiples. -/

def smul : Nat → Pt → Pt
  | 0, _ => .zero
  | n + 1, P => (smul n P).add P

theorem smul_add (m : Nat) (P : Pt) : ∀ n, smul (m + n) P = (smul m P).add (smul n P)
  | 0 => (add_zero' _).symm
  | n + 1 => by
    show (smul (m + n) P).add P = (smul m P).add ((smul n P).add P)
    rw [smul_add m P n, add_assoc']
theorem smul_zero' : ∀ n, smul n Pt.zero = .zero
  | 0 => rfl
  | n + 1 => by
    show (smul n Pt.zero).add .zero = .zero
    rw [add_zero', smul_zero' n]
theorem smul_mul (m : Nat) (P : Pt) : ∀ n, smul (n * m) P = smul n (smul m P)
  | 0 => by
    rw [Nat.zero_mul]
    rfl
  | n + 1 => by
    show _ = (smul n (smul m P)).add (smul m P)
    rw [Nat.add_mul, Nat.one_mul, smul_add, smul_mul m P n]
theorem smul_one (P : Pt) : smul 1 P = P := zero_add' P
theorem smul_two (P : Pt) : smul 2 P = P.add P := by
  show (smul 1 P).add P = _
  rw [smul_one]
theorem smul_swap (m n : Nat) (P : Pt) : smul n (smul m P) = smul m (smul n P) := by rw [← smul_mul, ← smul_mul, Nat.mul_comm]
theorem add4 (A B P Q : Pt) : (A.add B).add (P.add Q) = (A.add P).add (B.add Q) := by
  have h1 := add_assoc' A B (P.add Q)
  have h2 := add_assoc' A P (B.add Q)
  have h3 : B.add (P.add Q) = P.add (B.add Q) := by
    have g1 := add_assoc' B P Q
    have g2 := add_assoc' P B Q
    have g3 := add_comm' B P
    exact g1.symm.trans ((congrArg (fun X => X.add Q) g3).trans g2)
  exact h1.trans ((congrArg (fun X => A.add X) h3).trans h2.symm)
theorem smul_succ (n : Nat) (P : Pt) : smul (n + 1) P = (smul n P).add P := rfl
theorem smul_sum (P Q : Pt) : ∀ n, smul n (P.add Q) = (smul n P).add (smul n Q) := by
  intro n
  induction n with
  | zero => exact (add_zero' .zero).symm
  | succ n ih =>
    have h := add4 (smul n P) (smul n Q) P Q
    have e : smul (n + 1) (P.add Q) = ((smul n P).add (smul n Q)).add (P.add Q) := (smul_succ n _).trans (congrArg (fun X => X.add (P.add Q)) ih)
    exact e.trans h
theorem cancel' {P Q R : Pt} (h : P.add R = Q.add R) : P = Q := by
  have h1 : (P.add R).add R.neg = (Q.add R).add R.neg := by rw [h]
  rwa [add_assoc', add_assoc', add_neg', add_zero', add_zero'] at h1

/-! The ladder's pairs. -/

/-- The pair is a place's number as a fraction: (1 + y) by (1 - y). -/
def Mx (x z : F) (P : Pt) : Prop := x * (1 - P.y) = z * (1 + P.y) ∧ x + z ≠ 0

theorem mx_c {x z : F} {P : Pt} (h : Mx x z P) : ∃ c, c ≠ 0 ∧ x = c * (1 + P.y) ∧ z = c * (1 - P.y) := by
  obtain ⟨h1, h2⟩ := h
  have i2 : (2 : F) * inv 2 = 1 := mul_inv two_ne
  refine ⟨(x + z) * inv 2, ?_, ?_, ?_⟩
  · intro h0
    rcases fz h0 with h | h
    · exact h2 h
    · rw [h] at i2
      have : (2 : F) * 0 = 0 := by grobner
      rw [this] at i2
      exact absurd i2 (by decide +kernel)
  · generalize inv 2 = i at *
    generalize P.y = y at *
    grobner
  · generalize inv 2 = i at *
    generalize P.y = y at *
    grobner

theorem den_s {x y d : F} (h : y * y - x * x = 1 + d * (x * x) * (y * y)) (hd : d * 121666 = -121665) (u v : F) (c : F) (hu : u = c * (1 + y)) (hv : v = c * (1 - y)) :
    ((u + v) * (u + v)) * ((u - v) * (u - v)) + ((u + v) * (u + v) - (u - v) * (u - v)) * ((u + v) * (u + v) + 121665 * ((u + v) * (u + v) - (u - v) * (u - v))) = 16 * (c * c) * (c * c) * (121666 * ((1 - d * x * x * y * y) * (1 + d * (y * y)))) := by
  have e1 : u + v = 2 * c := by grobner
  have e2 : u - v = 2 * c * y := by grobner
  rw [e1, e2]
  have k1 : (1 - d * x * x * y * y) * (1 + d * (y * y)) = 1 + 2 * d * (y * y) - d * (y * y) * (y * y) := by grobner
  rw [k1]
  clear h e1 e2 hu hv k1
  grobner
theorem dbl_s {x y d y' : F} (h : y * y - x * x = 1 + d * (x * x) * (y * y)) (hd : d * 121666 = -121665) (hy : y' * (1 - d * x * x * y * y) = y * y + x * x) :
    (y * y) * ((1 - d * x * x * y * y) * (1 + d * (y * y)) * (1 - y')) = (1 - y * y) * (121666 - 121665 * (y * y)) * ((1 - d * x * x * y * y) * (1 + y')) * (1 + d * (y * y)) := by
  have k1 : (1 - d * x * x * y * y) * (1 - y') = 2 - 2 * (y * y) := by grobner
  have k2 : (1 - d * x * x * y * y) * (1 + y') = 2 + 2 * (x * x) := by grobner
  have k3 : (1 + d * (y * y)) * (2 + 2 * (x * x)) = 2 * (y * y) * (1 + d) := by grobner
  have k4 : (1 - d * x * x * y * y) * (1 + d * (y * y)) * (1 - y') = (1 + d * (y * y)) * ((1 - d * x * x * y * y) * (1 - y')) := by
    clear k1 k2 k3 h hy hd
    grobner
  rw [k4, k1, k2]
  clear h hy k1 k2 k4
  grobner

theorem j1 (c y : F) : c * (1 + y) + c * (1 - y) = 2 * c := by grobner
theorem j2 (c y : F) : c * (1 + y) - c * (1 - y) = 2 * c * y := by grobner
theorem j3 (c py y' K M : F) : (2 * c) * (2 * c) * ((2 * c * py) * (2 * c * py)) * (1 - y') * (K * M) = 16 * (c * c) * (c * c) * ((py * py) * (K * M * (1 - y'))) := by grobner
theorem j4 (c py y' K M : F) : ((2 * c) * (2 * c) - (2 * c * py) * (2 * c * py)) * ((2 * c) * (2 * c) + 121665 * ((2 * c) * (2 * c) - (2 * c * py) * (2 * c * py))) * (1 + y') * (K * M) = 16 * (c * c) * (c * c) * ((1 - py * py) * (121666 - 121665 * (py * py)) * (K * (1 + y')) * M) := by grobner
theorem j5 (c c' py qy : F) : (c' * (1 + qy) - c' * (1 - qy)) * (c * (1 + py) + c * (1 - py)) + (c' * (1 + qy) + c' * (1 - qy)) * (c * (1 + py) - c * (1 - py)) = 4 * c * c' * (qy + py) := by grobner
theorem j6 (c c' py qy : F) : (c' * (1 + qy) - c' * (1 - qy)) * (c * (1 + py) + c * (1 - py)) - (c' * (1 + qy) + c' * (1 - qy)) * (c * (1 + py) - c * (1 - py)) = 4 * c * c' * (qy - py) := by grobner
theorem j7 {y0 D N : F} (h : y0 * D = N) : D * (1 - y0) = D - N ∧ D * (1 + y0) = D + N := ⟨by grobner, by grobner⟩
theorem j8 (c c' a yR D E y0 : F) : 4 * c * c' * a * (4 * c * c' * a) * (1 - yR) * (D * E * (1 - y0)) = 16 * (c * c) * (c' * c') * (a * a * (D * (1 - y0) * (E * (1 - yR)))) := by grobner
theorem j9 (c c' a yR D E y0 u : F) : u * (4 * c * c' * a * (4 * c * c' * a)) * (1 + yR) * (D * E * (1 - y0)) = 16 * (c * c) * (c' * c') * (a * a * (D * (u * (1 - y0)) * (E * (1 + yR)))) := by grobner
theorem j10 {s m yR : F} (h : s * s * (1 - yR) = m * (1 + yR)) (hz : s * s + m = 0) : 2 * (s * s) = 0 := by grobner
theorem j11 {m : F} (h : (0 : F) * 0 + m = 0) : m = 0 := by grobner
theorem j12 {a b : F} (h1 : a + b = 0) (h2 : a - b = 0) : 2 * a = 0 := by grobner
theorem j13 {b : F} (h1 : (0 : F) + b = 0) : b = 0 := by grobner
theorem j14 {y0 px qx d : F} (h0 : y0 * (1 + d * px * qx * 0 * 0) = 0 * 0 - px * qx) (on1 : (0 : F) * 0 - px * px = 1 + d * (px * px) * (0 * 0)) (on2 : (0 : F) * 0 - qx * qx = 1 + d * (qx * qx) * (0 * 0)) : y0 * y0 = 1 := by
  have a : y0 = - (px * qx) := by grobner
  have b : px * px = -1 := by grobner
  have c : qx * qx = -1 := by grobner
  subst a
  clear h0 on1 on2
  grobner
theorem j15 {y0 : F} (h : 1 - y0 = 0) : y0 * y0 = 1 := by grobner
theorem j16 {y0 : F} (h : 1 + y0 = 0) : y0 * y0 = 1 := by grobner
theorem j17 {u y0 : F} (hu : u * (1 - y0) = 1 + y0) (h : u = 0) : 1 + y0 = 0 := by
  subst h
  grobner

theorem mx_dbl {x z x3 z3 u : F} {P : Pt} (h : Mx x z P) : Mx (fstep u ⟨x, z, x3, z3⟩).x2 (fstep u ⟨x, z, x3, z3⟩).z2 (P.add P) := by
  obtain ⟨c, hc, hx, hz⟩ := mx_c h
  have h1 := den_m P.on P.on
  have h2 := on_den P.on
  have hy := add_y P P
  have hon := P.on
  unfold On at hon
  have hd := dE_eq
  unfold Mx
  generalize (P.add P).y = y' at *
  show ((x + z) * (x + z)) * ((x - z) * (x - z)) * (1 - y') = ((x + z) * (x + z) - (x - z) * (x - z)) * ((x + z) * (x + z) + 121665 * ((x + z) * (x + z) - (x - z) * (x - z))) * (1 + y') ∧ ((x + z) * (x + z)) * ((x - z) * (x - z)) + ((x + z) * (x + z) - (x - z) * (x - z)) * ((x + z) * (x + z) + 121665 * ((x + z) * (x + z) - (x - z) * (x - z))) ≠ 0
  generalize P.x = px at *
  generalize P.y = py at *
  generalize dE = d at *
  constructor
  · have e1 : x + z = 2 * c := by rw [hx, hz]; exact j1 _ _
    have e2 : x - z = 2 * c * py := by rw [hx, hz]; exact j2 _ _
    rw [e1, e2]
    have k := dbl_s hon hd hy
    generalize hK : (1 - d * px * px * py * py) = K at *
    refine fcancel (fnz h1 h2) ?_
    generalize hM : 1 + d * (py * py) = M at *
    rw [j3, j4, k]
  · rw [den_s hon hd x z c hx hz]
    have n16 : (16 : F) ≠ 0 := by decide +kernel
    have n6 : (121666 : F) ≠ 0 := by decide +kernel
    exact fnz (fnz (fnz n16 (fnz hc hc)) (fnz hc hc)) (fnz n6 (fnz h1 h2))

theorem diff_id {x1 y1 x2 y2 d : F} (h1 : y1 * y1 - x1 * x1 = 1 + d * (x1 * x1) * (y1 * y1)) (h2 : y2 * y2 - x2 * x2 = 1 + d * (x2 * x2) * (y2 * y2)) :
    (y2 + y1) * (y2 + y1) * ((1 + d * x1 * x2 * y1 * y2 - (y1 * y2 - x1 * x2)) * (1 - d * x1 * x2 * y1 * y2 - (y1 * y2 + x1 * x2))) = (y2 - y1) * (y2 - y1) * ((1 + d * x1 * x2 * y1 * y2 + (y1 * y2 - x1 * x2)) * (1 - d * x1 * x2 * y1 * y2 + (y1 * y2 + x1 * x2))) := by grobner

theorem mx_add {x2 z2 x3 z3 u y0 : F} {P Q : Pt} (hP : Mx x2 z2 P) (hQ : Mx x3 z3 Q) (h0 : y0 * (1 + dE * P.x * Q.x * P.y * Q.y) = P.y * Q.y - P.x * Q.x) (hy0 : y0 * y0 ≠ 1) (hu : u * (1 - y0) = 1 + y0) : Mx (fstep u ⟨x2, z2, x3, z3⟩).x3 (fstep u ⟨x2, z2, x3, z3⟩).z3 (P.add Q) := by
  obtain ⟨c, hc, hx2, hz2⟩ := mx_c hP
  obtain ⟨c', hc', hx3, hz3⟩ := mx_c hQ
  have d1 := den_p P.on Q.on
  have d2 := den_m P.on Q.on
  have hy := add_y P Q
  have on1 := P.on
  have on2 := Q.on
  unfold On at on1 on2
  have d3 : 1 - y0 ≠ 0 := fun h => hy0 (j15 h)
  have d4 : 1 + y0 ≠ 0 := fun h => hy0 (j16 h)
  unfold Mx
  generalize (P.add Q).y = yR at *
  show ((x3 - z3) * (x2 + z2) + (x3 + z3) * (x2 - z2)) * ((x3 - z3) * (x2 + z2) + (x3 + z3) * (x2 - z2)) * (1 - yR) = u * (((x3 - z3) * (x2 + z2) - (x3 + z3) * (x2 - z2)) * ((x3 - z3) * (x2 + z2) - (x3 + z3) * (x2 - z2))) * (1 + yR) ∧ ((x3 - z3) * (x2 + z2) + (x3 + z3) * (x2 - z2)) * ((x3 - z3) * (x2 + z2) + (x3 + z3) * (x2 - z2)) + u * (((x3 - z3) * (x2 + z2) - (x3 + z3) * (x2 - z2)) * ((x3 - z3) * (x2 + z2) - (x3 + z3) * (x2 - z2))) ≠ 0
  generalize P.x = px at *
  generalize P.y = py at *
  generalize Q.x = qx at *
  generalize Q.y = qy at *
  generalize dE = d at *
  have e1 : (x3 - z3) * (x2 + z2) + (x3 + z3) * (x2 - z2) = 4 * c * c' * (qy + py) := by rw [hx2, hz2, hx3, hz3]; exact j5 _ _ _ _
  have e2 : (x3 - z3) * (x2 + z2) - (x3 + z3) * (x2 - z2) = 4 * c * c' * (qy - py) := by rw [hx2, hz2, hx3, hz3]; exact j6 _ _ _ _
  rw [e1, e2]
  have key : 4 * c * c' * (qy + py) * (4 * c * c' * (qy + py)) * (1 - yR) = u * (4 * c * c' * (qy - py) * (4 * c * c' * (qy - py))) * (1 + yR) := by
    have k := diff_id on1 on2
    obtain ⟨a1, a2⟩ := j7 h0
    obtain ⟨a3, a4⟩ := j7 hy
    rw [← a1, ← a2, ← a3, ← a4] at k
    generalize 1 + d * px * qx * py * qy = D at *
    generalize 1 - d * px * qx * py * qy = E at *
    refine fcancel (fnz (fnz d1 d2) d3) ?_
    rw [j8, j9, hu, k]
  refine ⟨key, fun hz => ?_⟩
  have n4 : (4 : F) ≠ 0 := by decide +kernel
  have hs0 : 4 * c * c' * (qy + py) = 0 := by
    have := j10 key hz
    rcases fz this with h | h
    · exact (two_ne h).elim
    · rcases fz h with h | h <;> exact h
  have hm0 : u * (4 * c * c' * (qy - py) * (4 * c * c' * (qy - py))) = 0 := by
    rw [hs0] at hz
    exact j11 hz
  have hu0 : u ≠ 0 := fun h => d4 (j17 hu h)
  have p4 : 4 * c * c' ≠ 0 := fnz (fnz n4 hc) hc'
  have q1 : qy + py = 0 := (fz hs0).resolve_left p4
  have q2 : qy - py = 0 := by
    rcases fz hm0 with h | h
    · exact (hu0 h).elim
    · rcases fz h with h | h <;> exact (fz h).resolve_left p4
  have q3 : qy = 0 := (fz (j12 q1 q2)).resolve_left two_ne
  subst q3
  have q4 : py = 0 := j13 q1
  subst q4
  exact hy0 (j14 h0 on1 on2)

/-! The ladder on a point. -/

/-- A point's place. -/
def uOf (P : Pt) : F := (1 + P.y) * inv (1 - P.y)

theorem y_diff (P Q : Pt) : (Q.add P.neg).y * (1 + dE * P.x * Q.x * P.y * Q.y) = P.y * Q.y - P.x * Q.x := by
  have h := add_y Q P.neg
  have e1 : P.neg.x = -P.x := rfl
  have e2 : P.neg.y = P.y := rfl
  rw [e1, e2] at h
  generalize (Q.add P.neg).y = y at *
  generalize dE = d at *
  generalize P.x = a at *
  generalize P.y = b at *
  generalize Q.x = c at *
  generalize Q.y = e at *
  grobner
theorem back (P D : Pt) : (P.add D).add P.neg = D := by
  have h1 := add_comm' P D
  have h2 := add_assoc' D P P.neg
  have h3 := add_neg' P
  exact (congrArg (fun X => X.add P.neg) h1).trans (h2.trans ((congrArg (fun X => D.add X) h3).trans (add_zero' D)))
theorem y_step (P D : Pt) : D.y * (1 + dE * P.x * (P.add D).x * P.y * (P.add D).y) = P.y * (P.add D).y - P.x * (P.add D).x := by
  have h := y_diff P (P.add D)
  rwa [back] at h
theorem y_step' (P D : Pt) : D.y * (1 + dE * (P.add D).x * P.x * (P.add D).y * P.y) = (P.add D).y * P.y - (P.add D).x * P.x := by
  have h := y_step P D
  generalize P.add D = Q at *
  generalize dE = d at *
  generalize P.x = a at *
  generalize P.y = b at *
  generalize Q.x = c at *
  generalize Q.y = e at *
  grobner

theorem u_place {y u : F} (hu : u * (1 - y) = 1 + y) : u * (1 - y) = 1 * (1 + y) ∧ u + 1 ≠ 0 := by
  refine ⟨by rw [hu]; grobner, fun h => ?_⟩
  have : (2 : F) * 1 = 0 := by grobner
  rcases fz this with h | h
  · exact two_ne h
  · exact absurd h (by decide +kernel)

theorem mx_rnd {D : Pt} (hy : D.y * D.y ≠ 1) {u : F} (hu : u * (1 - D.y) = 1 + D.y) (n : Nat) (a b c d : F) (h2 : Mx a b (smul n D)) (h3 : Mx c d (smul (n + 1) D)) (t : Bool) :
    Mx (frnd u ⟨a, b, c, d⟩ t).x2 (frnd u ⟨a, b, c, d⟩ t).z2 (smul (2 * n + t.toNat) D) ∧ Mx (frnd u ⟨a, b, c, d⟩ t).x3 (frnd u ⟨a, b, c, d⟩ t).z3 (smul (2 * n + t.toNat + 1) D) := by
  have hd : smul (n + 1) D = (smul n D).add D := smul_succ n D
  cases t
  · have e1 : smul (2 * n + false.toNat) D = (smul n D).add (smul n D) := by
      rw [← smul_add]
      exact congrArg (fun m => smul m D) (show 2 * n + 0 = n + n by omega)
    have e2 : smul (2 * n + false.toNat + 1) D = (smul n D).add (smul (n + 1) D) := by
      rw [← smul_add]
      exact congrArg (fun m => smul m D) (show 2 * n + 0 + 1 = n + (n + 1) by omega)
    rw [e1, e2]
    have k := mx_add (u := u) (y0 := D.y) h2 h3 (by rw [hd]; exact y_step (smul n D) D) hy hu
    exact ⟨mx_dbl (u := u) h2, k⟩
  · have e1 : smul (2 * n + true.toNat) D = (smul (n + 1) D).add (smul n D) := by
      rw [← smul_add]
      exact congrArg (fun m => smul m D) (show 2 * n + 1 = n + 1 + n by omega)
    have e2 : smul (2 * n + true.toNat + 1) D = (smul (n + 1) D).add (smul (n + 1) D) := by
      rw [← smul_add]
      exact congrArg (fun m => smul m D) (show 2 * n + 1 + 1 = n + 1 + (n + 1) by omega)
    rw [e1, e2]
    have k := mx_add (u := u) (y0 := D.y) h3 h2 (by rw [hd]; exact y_step' (smul n D) D) hy hu
    exact ⟨k, mx_dbl (u := u) h3⟩

theorem lad_inv {D : Pt} (hy : D.y * D.y ≠ 1) {u : F} (hu : u * (1 - D.y) = 1 + D.y) {k : Nat} (hk : k < 2 ^ 255) : ∀ m, m ≤ 255 →
    Mx (flad u k m).x2 (flad u k m).z2 (smul (k / 2 ^ (255 - m)) D) ∧ Mx (flad u k m).x3 (flad u k m).z3 (smul (k / 2 ^ (255 - m) + 1) D) := by
  intro m
  induction m with
  | zero =>
    intro _
    have e : k / 2 ^ (255 - 0) = 0 := Nat.div_eq_of_lt hk
    rw [e]
    refine ⟨⟨?_, ?_⟩, ?_⟩
    · show (1 : F) * (1 - 1) = 0 * (1 + 1)
      grobner
    · show (1 : F) + 0 ≠ 0
      decide +kernel
    · rw [smul_one]
      exact u_place hu
  | succ m ih =>
    intro hm
    obtain ⟨h2, h3⟩ := ih (by omega)
    rw [bit_next k m (by omega)]
    exact mx_rnd hy hu (k / 2 ^ (255 - m)) _ _ _ _ h2 h3 (k.testBit (254 - m))

theorem one_sub_zero {y : F} (h : 1 - y = 0) : y = 1 := by grobner
theorem fout_mx {a b c d : F} {W : Pt} (h : Mx a b W) : fout ⟨a, b, c, d⟩ = uOf W := by
  obtain ⟨h1, h2⟩ := h
  show a * inv b = (1 + W.y) * inv (1 - W.y)
  by_cases hy : 1 - W.y = 0
  · have hb : b = 0 := by
      rw [one_sub_zero hy] at h1
      have : b * 2 = 0 := by grobner
      exact (fz this).resolve_right two_ne
    rw [hb, hy, inv_zero']
    grobner
  · have hb : b ≠ 0 := fun h0 => by
      rw [h0] at h1 h2
      have h3 : a * (1 - W.y) = 0 := by
        rw [h1]
        grobner
      have h4 := (fz h3).resolve_right hy
      apply h2
      rw [h4]
      grobner
    refine quot_eq hb ?_
    have hi := mul_inv hy
    generalize inv (1 - W.y) = i at *
    refine fcancel hy ?_
    rw [h1]
    generalize 1 - W.y = q at *
    generalize 1 + W.y = p at *
    grobner

/-- The ladder makes the place of so many times the point. -/
theorem lad_pt {D : Pt} (hy : D.y * D.y ≠ 1) {u : F} (hu : u * (1 - D.y) = 1 + D.y) {k : Nat} (hk : k < 2 ^ 255) : lad k u = uOf (smul k D) := by
  have h := (lad_inv hy hu hk 255 (Nat.le_refl _)).1
  have e : k / 2 ^ (255 - 255) = k := Nat.div_one k
  rw [e] at h
  unfold lad
  generalize flad u k 255 = s at *
  obtain ⟨a, b, c, d⟩ := s
  exact fout_mx h
theorem uOf_spec {P : Pt} (hy : P.y * P.y ≠ 1) : uOf P * (1 - P.y) = 1 + P.y ∧ uOf P ≠ 0 := by
  have d3 : 1 - P.y ≠ 0 := fun h => hy (j15 h)
  have d4 : 1 + P.y ≠ 0 := fun h => hy (j16 h)
  have hi := mul_inv d3
  have hiz : inv (1 - P.y) ≠ 0 := fun h => by
    rw [h] at hi
    have : (1 - P.y) * 0 = 0 := by grobner
    rw [this] at hi
    exact absurd hi (by decide +kernel)
  refine ⟨?_, fnz d4 hiz⟩
  unfold uOf
  generalize inv (1 - P.y) = i at *
  generalize 1 - P.y = q at *
  generalize 1 + P.y = p at *
  grobner

/-! B, and its order. -/

def pB0 : Pt := ⟨15112221349535400772501151409588531511454012693041857206046113283949847762202, 46316835694926478169428394003475163141307993866256225615783033603165251855960, by unfold On; decide +kernel⟩
theorem pB0_u : (9 : F) * (1 - pB0.y) = 1 + pB0.y := by decide +kernel
theorem pB0_y : pB0.y * pB0.y ≠ 1 := by decide +kernel
def ordL : Nat := 7237005577332262213973186563042994240857116359379907606001950938285454250989
theorem ord_run : nrun 9 (fun _ z2 _ _ => Nat.beq z2 0) (bitsOf ordL 255) 1 0 9 1 = true := by decide +kernel
theorem xy_one {P : Pt} (h : P.y = 1) : P = .zero := by
  have hon := P.on
  unfold On at hon
  rw [h] at hon
  have hd : (1 + dE) ≠ 0 := by decide +kernel
  have hx : P.x * P.x * (1 + dE) = 0 := by
    generalize dE = d at *
    generalize P.x = x at *
    grobner
  have hx0 : P.x = 0 := by
    rcases fz hx with h1 | h1
    · rcases fz h1 with h2 | h2 <;> exact h2
    · exact (hd h1).elim
  exact Pt.ext hx0 h
theorem order_L : smul ordL pB0 = .zero := by
  have h := (lad_inv pB0_y (u := 9) pB0_u (k := ordL) (by decide +kernel) 255 (Nat.le_refl _)).1
  have e : ordL / 2 ^ (255 - 255) = ordL := Nat.div_one ordL
  rw [e] at h
  have hz := flad_run 9 (by decide +kernel) ordL _ rfl (fun _ z2 _ _ => Nat.beq z2 0) ord_run
  have hz' : (flad (em 9) ordL 255).z2 = 0 := Fin.ext (Nat.eq_of_beq_eq_true hz)
  have e9 : em 9 = 9 := rfl
  rw [e9] at hz'
  generalize smul ordL pB0 = W at *
  generalize flad 9 ordL 255 = s at *
  obtain ⟨h1, h2⟩ := h
  rw [hz'] at h1 h2
  have hx : s.x2 ≠ 0 := fun h0 => h2 (by rw [h0]; grobner)
  have h3 : s.x2 * (1 - W.y) = 0 := by
    rw [h1]
    grobner
  exact xy_one (one_sub_zero ((fz h3).resolve_left hx))

theorem p2551 : IsPrime 2551 := prime_small (by decide) (by decide +kernel)
theorem p3797 : IsPrime 3797 := prime_small (by decide) (by decide +kernel)
theorem p1224481 : IsPrime 1224481 := prime_by1 p2551 (by decide +kernel) (by decide) (by decide)
theorem p531581 : IsPrime 531581 := prime_by1 p3797 (by decide +kernel) (by decide) (by decide)
theorem pW : IsPrime 1257559732178653 := prime_by2 p1224481 p531581 (by decide) (by decide +kernel) (by decide +kernel) (by decide) (by decide)
theorem pV : IsPrime 4434155615661930479 := prime_by1 pW (by decide +kernel) (by decide) (by decide)
theorem pT : IsPrime 172054593956031949258510691 := prime_by1 pV (by decide +kernel) (by decide) (by decide)
theorem pS : IsPrime 19757330305831588566944191468367130476339 := prime_by1 pT (by decide +kernel) (by decide) (by decide)
theorem pQ : IsPrime 276602624281642239937218680557139826668747 := prime_by1 pS (by decide +kernel) (by decide) (by decide)
/-- L is prime. -/
theorem ordL_prime : IsPrime ordL := prime_by1 pQ (by decide +kernel) (by decide) (by decide)

theorem smul_ord (q : Nat) : smul (ordL * q) pB0 = .zero := by
  have h := smul_mul ordL pB0 q
  rw [Nat.mul_comm] at h
  rw [h, order_L, smul_zero']
theorem ord_dvd {n : Nat} (h : smul n pB0 = .zero) : ordL ∣ n := by
  by_cases hd : ordL ∣ n
  · exact hd
  exfalso
  have hf := fermat_one ordL_prime hd
  have h1 : ordL - 1 = ordL - 2 + 1 := by decide +kernel
  rw [h1, Nat.pow_succ] at hf
  generalize n ^ (ordL - 2) = a at hf
  have h2 : a * n = ordL * (a * n / ordL) + 1 := by
    have := Nat.div_add_mod (a * n) ordL
    rw [hf] at this
    exact this.symm
  have h3 : smul (a * n) pB0 = .zero := by rw [smul_mul, h, smul_zero']
  rw [h2, smul_succ, smul_ord, zero_add'] at h3
  have h4 : pB0.y = 1 := by rw [h3]; rfl
  exact absurd h4 (by decide +kernel)
/-- A multiple of B that L does not divide is none of the points of x = 0. -/
theorem mul_y {n : Nat} (h : ¬ ordL ∣ n) : (smul n pB0).y * (smul n pB0).y ≠ 1 := by
  intro hy
  have hon := (smul n pB0).on
  unfold On at hon
  have hd : (1 + dE) ≠ 0 := by decide +kernel
  have hx : (smul n pB0).x * (smul n pB0).x * (1 + dE) = 0 := by
    generalize dE = d at *
    generalize (smul n pB0).x = x at *
    generalize (smul n pB0).y = y at *
    grobner
  have hx0 : (smul n pB0).x = 0 := by
    rcases fz hx with h1 | h1
    · rcases fz h1 with h2 | h2 <;> exact h2
    · exact (hd h1).elim
  have h2 : smul (2 * n) pB0 = .zero := by
    rw [smul_mul, smul_two]
    refine add_eq ?_ ?_
    · show _ = (0 : F) * _
      rw [hx0]
      generalize (smul n pB0).y = y at *
      generalize dE = d at *
      grobner
    · show _ = (1 : F) * _
      rw [hx0, hy]
      generalize (smul n pB0).y = y at *
      generalize dE = d at *
      grobner
  rcases ordL_prime.euclid (ord_dvd h2) with h3 | h3
  · exact absurd (Nat.le_of_dvd (by decide) h3) (by decide)
  · exact h h3
theorem not_prod {a b : Nat} (ha : ¬ ordL ∣ a) (hb : ¬ ordL ∣ b) : ¬ ordL ∣ a * b := fun h => (ordL_prime.euclid h).elim ha hb
/-- Eight times a number that is not 0 and below L. -/
theorem not_eight {m : Nat} (h0 : 0 < m) (h : m < ordL) : ¬ ordL ∣ 8 * m := not_prod (fun h => absurd (Nat.le_of_dvd (by decide) h) (by decide)) fun hd => by
  have := Nat.le_of_dvd h0 hd
  omega

end Go.Sh
