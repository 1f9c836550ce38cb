/-
  THE CURVE: its sums make a group. Own work.
-/
import Derived.Test.YtnlhpiieihnbiaaDoorSh7
namespace Go.Sh

/-! Points: -x² + y² = 1 + d x² y². -/

def On (x y : F) : Prop := y * y - x * x = 1 + dE * (x * x) * (y * y)
@[ext] structure Pt where
  x : F
  y : F
  on : On x y

theorem two_ne : (2 : F) ≠ 0 := by decide +kernel

theorem on_den {x y : F} (_ : On x y) : 1 + dE * (y * y) ≠ 0 := by
  intro h0
  by_cases hy : y = 0
  · subst hy
    have : (1 : F) = 0 := by grobner
    exact absurd this (by decide +kernel)
  have hi := mul_inv hy
  generalize inv y = i at hi
  have h2 : (iE * i) * (iE * i) = dE * (1 * 1) := by
    have := iE_sq
    generalize iE = e at *
    generalize dE = d at *
    grobner
  exact absurd (dE_ns h2) (by decide +kernel)

theorem dE_sq_x {d e x1 y1 x2 y2 i s : F} (h1 : On x1 y1) (h2 : On x2 y2) (hd : d = dE) (hi : i * i = -1) (hs : s = d * x1 * x2 * y1 * y2) (he : s * s = 1) (hsg : e = i) :
    (y1 + s * e * x1) * (y1 + s * e * x1) = d * ((x1 * y1 * (y2 + e * x2)) * (x1 * y1 * (y2 + e * x2))) := by
  unfold On at h1 h2
  rw [← hd] at h1 h2
  have k1 : (y1 + s * e * x1) * (y1 + s * e * x1) = y1 * y1 - x1 * x1 + 2 * s * e * x1 * y1 := by grobner
  have k2 : d * ((x1 * y1 * (y2 + e * x2)) * (x1 * y1 * (y2 + e * x2))) = d * (x1 * x1) * (y1 * y1) * (y2 * y2 - x2 * x2) + 2 * s * e * x1 * y1 := by grobner
  have k3 : d * (x1 * x1) * (y1 * y1) * (y2 * y2 - x2 * x2) = d * (x1 * x1) * (y1 * y1) + s * s := by grobner
  grobner

theorem no_unit {x1 y1 x2 y2 s : F} (h1 : On x1 y1) (h2 : On x2 y2) (hs : s = dE * x1 * x2 * y1 * y2) (he : s * s = 1) : False := by
  have a1 := dE_ns (dE_sq_x h1 h2 rfl iE_sq hs he rfl)
  have hi' : (-iE) * (-iE) = -1 := by
    have := iE_sq
    generalize iE = i at *
    grobner
  have a2 := dE_ns (dE_sq_x h1 h2 rfl hi' hs he rfl)
  generalize dE = d at *
  generalize iE = i at *
  have h3 : (2 : F) * 1 = 0 := by
    have k : x1 * y1 * y2 * 2 = 0 := by grobner
    have k2 : s * 2 = 0 := by grobner
    grobner
  rcases fz h3 with h | h
  · exact two_ne h
  · exact absurd h (by decide +kernel)

theorem den_p {x1 y1 x2 y2 : F} (h1 : On x1 y1) (h2 : On x2 y2) : 1 + dE * x1 * x2 * y1 * y2 ≠ 0 := fun h => by
  refine no_unit h1 h2 rfl ?_
  generalize dE = d at *
  grobner
theorem den_m {x1 y1 x2 y2 : F} (h1 : On x1 y1) (h2 : On x2 y2) : 1 - dE * x1 * x2 * y1 * y2 ≠ 0 := fun h => by
  refine no_unit h1 h2 rfl ?_
  generalize dE = d at *
  grobner

theorem on_sum {d x1 y1 x2 y2 u v : F} (h1 : y1 * y1 - x1 * x1 = 1 + d * (x1 * x1) * (y1 * y1)) (h2 : y2 * y2 - x2 * x2 = 1 + d * (x2 * x2) * (y2 * y2)) (hu : (1 + d * x1 * x2 * y1 * y2) * u = 1) (hv : (1 - d * x1 * x2 * y1 * y2) * v = 1) :
    ((y1 * y2 + x1 * x2) * v) * ((y1 * y2 + x1 * x2) * v) - ((x1 * y2 + x2 * y1) * u) * ((x1 * y2 + x2 * y1) * u) = 1 + d * (((x1 * y2 + x2 * y1) * u) * ((x1 * y2 + x2 * y1) * u)) * (((y1 * y2 + x1 * x2) * v) * ((y1 * y2 + x1 * x2) * v)) := by
  have k : (y1 * y2 + x1 * x2) * (y1 * y2 + x1 * x2) * ((1 + d * x1 * x2 * y1 * y2) * (1 + d * x1 * x2 * y1 * y2)) - (x1 * y2 + x2 * y1) * (x1 * y2 + x2 * y1) * ((1 - d * x1 * x2 * y1 * y2) * (1 - d * x1 * x2 * y1 * y2))
      = (1 + d * x1 * x2 * y1 * y2) * (1 + d * x1 * x2 * y1 * y2) * ((1 - d * x1 * x2 * y1 * y2) * (1 - d * x1 * x2 * y1 * y2)) + d * ((x1 * y2 + x2 * y1) * (x1 * y2 + x2 * y1)) * ((y1 * y2 + x1 * x2) * (y1 * y2 + x1 * x2)) := by grobner
  generalize y1 * y2 + x1 * x2 = M at *
  generalize x1 * y2 + x2 * y1 = N at *
  generalize 1 + d * x1 * x2 * y1 * y2 = D at *
  generalize 1 - d * x1 * x2 * y1 * y2 = E at *
  have k1 : (M * M * (D * D) - N * N * (E * E)) * (u * u) * (v * v) = (D * D * (E * E) + d * (N * N) * (M * M)) * (u * u) * (v * v) := by rw [k]
  have k2 : (M * M * (D * D) - N * N * (E * E)) * (u * u) * (v * v) = (M * v) * (M * v) * (D * u) * (D * u) - (N * u) * (N * u) * (E * v) * (E * v) := by grobner
  have k3 : (D * D * (E * E) + d * (N * N) * (M * M)) * (u * u) * (v * v) = (D * u) * (D * u) * (E * v) * (E * v) + d * ((N * u) * (N * u)) * ((M * v) * (M * v)) := by grobner
  rw [k2, k3, hu, hv] at k1
  grobner

def Pt.add (P Q : Pt) : Pt where
  x := (P.x * Q.y + Q.x * P.y) * inv (1 + dE * P.x * Q.x * P.y * Q.y)
  y := (P.y * Q.y + P.x * Q.x) * inv (1 - dE * P.x * Q.x * P.y * Q.y)
  on := on_sum P.on Q.on (mul_inv (den_p P.on Q.on)) (mul_inv (den_m P.on Q.on))
def Pt.zero : Pt := ⟨0, 1, by unfold On; decide +kernel⟩
def Pt.neg (P : Pt) : Pt := ⟨-P.x, P.y, by
  have h := P.on
  unfold On at *
  generalize dE = d at *
  grobner⟩

theorem add_comm' (P Q : Pt) : P.add Q = Q.add P := by
  apply Pt.ext
  · show (P.x * Q.y + Q.x * P.y) * inv (1 + dE * P.x * Q.x * P.y * Q.y) = (Q.x * P.y + P.x * Q.y) * inv (1 + dE * Q.x * P.x * Q.y * P.y)
    have e1 : 1 + dE * P.x * Q.x * P.y * Q.y = 1 + dE * Q.x * P.x * Q.y * P.y := by
      generalize dE = d
      grobner
    have e2 : P.x * Q.y + Q.x * P.y = Q.x * P.y + P.x * Q.y := by grobner
    rw [e1, e2]
  · show (P.y * Q.y + P.x * Q.x) * inv (1 - dE * P.x * Q.x * P.y * Q.y) = (Q.y * P.y + Q.x * P.x) * inv (1 - dE * Q.x * P.x * Q.y * P.y)
    have e1 : 1 - dE * P.x * Q.x * P.y * Q.y = 1 - dE * Q.x * P.x * Q.y * P.y := by
      generalize dE = d
      grobner
    have e2 : P.y * Q.y + P.x * Q.x = Q.y * P.y + Q.x * P.x := by grobner
    rw [e1, e2]

/-- A sum, told by its products. -/
theorem add_eq {P Q R : Pt} (hx : P.x * Q.y + Q.x * P.y = R.x * (1 + dE * P.x * Q.x * P.y * Q.y)) (hy : P.y * Q.y + P.x * Q.x = R.y * (1 - dE * P.x * Q.x * P.y * Q.y)) : P.add Q = R := by
  apply Pt.ext
  · exact quot_eq (den_p P.on Q.on) hx
  · exact quot_eq (den_m P.on Q.on) hy
theorem add_x (P Q : Pt) : (P.add Q).x * (1 + dE * P.x * Q.x * P.y * Q.y) = P.x * Q.y + Q.x * P.y := by
  have h := mul_inv (den_p P.on Q.on)
  show (P.x * Q.y + Q.x * P.y) * inv (1 + dE * P.x * Q.x * P.y * Q.y) * _ = _
  generalize 1 + dE * P.x * Q.x * P.y * Q.y = D at *
  generalize inv D = u at *
  grobner
theorem add_y (P Q : Pt) : (P.add Q).y * (1 - dE * P.x * Q.x * P.y * Q.y) = P.y * Q.y + P.x * Q.x := by
  have h := mul_inv (den_m P.on Q.on)
  show (P.y * Q.y + P.x * Q.x) * inv (1 - dE * P.x * Q.x * P.y * Q.y) * _ = _
  generalize 1 - dE * P.x * Q.x * P.y * Q.y = D at *
  generalize inv D = u at *
  grobner

theorem add_zero' (P : Pt) : P.add .zero = P := by
  apply add_eq
  · show P.x * 1 + 0 * P.y = P.x * (1 + dE * P.x * 0 * P.y * 1)
    generalize dE = d
    grobner
  · show P.y * 1 + P.x * 0 = P.y * (1 - dE * P.x * 0 * P.y * 1)
    generalize dE = d
    grobner
theorem zero_add' (P : Pt) : Pt.zero.add P = P := by rw [add_comm', add_zero']
theorem add_neg' (P : Pt) : P.add P.neg = .zero := by
  have h := P.on
  unfold On at h
  apply add_eq
  · show P.x * P.y + (-P.x) * P.y = 0 * (1 + dE * P.x * (-P.x) * P.y * P.y)
    generalize dE = d
    grobner
  · show P.y * P.y + P.x * (-P.x) = 1 * (1 - dE * P.x * (-P.x) * P.y * P.y)
    generalize dE = d at *
    grobner

theorem as_x {x1 x2 x3 y1 y2 y3 d : F} (h1 : y1 * y1 - x1 * x1 = 1 + d * (x1 * x1) * (y1 * y1)) (h2 : y2 * y2 - x2 * x2 = 1 + d * (x2 * x2) * (y2 * y2)) (h3 : y3 * y3 - x3 * x3 = 1 + d * (x3 * x3) * (y3 * y3)) :
   ((x1*y2+x2*y1)*(1-d*x1*x2*y1*y2)*y3 + x3*((y1*y2+x1*x2)*(1+d*x1*x2*y1*y2))) * ((1-d*x2*x3*y2*y3)*(1+d*x2*x3*y2*y3) + d*x1*(x2*y3+x3*y2)*y1*(y2*y3+x2*x3))
 = (x1*((y2*y3+x2*x3)*(1+d*x2*x3*y2*y3)) + (x2*y3+x3*y2)*(1-d*x2*x3*y2*y3)*y1) * ((1-d*x1*x2*y1*y2)*(1+d*x1*x2*y1*y2) + d*(x1*y2+x2*y1)*x3*(y1*y2+x1*x2)*y3) := by grobner
theorem as_y {x1 x2 x3 y1 y2 y3 d : F} (h1 : y1 * y1 - x1 * x1 = 1 + d * (x1 * x1) * (y1 * y1)) (h2 : y2 * y2 - x2 * x2 = 1 + d * (x2 * x2) * (y2 * y2)) (h3 : y3 * y3 - x3 * x3 = 1 + d * (x3 * x3) * (y3 * y3)) :
   ((y1*y2+x1*x2)*(1+d*x1*x2*y1*y2)*y3 + (x1*y2+x2*y1)*(1-d*x1*x2*y1*y2)*x3) * ((1-d*x2*x3*y2*y3)*(1+d*x2*x3*y2*y3) - d*x1*(x2*y3+x3*y2)*y1*(y2*y3+x2*x3))
 = (y1*((y2*y3+x2*x3)*(1+d*x2*x3*y2*y3)) + x1*((x2*y3+x3*y2)*(1-d*x2*x3*y2*y3))) * ((1-d*x1*x2*y1*y2)*(1+d*x1*x2*y1*y2) - d*(x1*y2+x2*y1)*x3*(y1*y2+x1*x2)*y3) := by grobner

theorem q1 (X Y D E y3 x3 : F) : X * D * E * y3 + x3 * (Y * E * D) = (X * y3 + x3 * Y) * (D * E) := by grobner
theorem q2 (W H V G d x1 y1 : F) : H * G + d * x1 * (V * G) * y1 * (W * H) = (1 + d * x1 * V * y1 * W) * (H * G) := by grobner
theorem q3 (W H V G x1 y1 : F) : x1 * (W * H * G) + V * G * H * y1 = (x1 * W + V * y1) * (H * G) := by grobner
theorem q4 (X Y D E d x3 y3 : F) : E * D + d * (X * D) * x3 * (Y * E) * y3 = (1 + d * X * x3 * Y * y3) * (D * E) := by grobner
theorem q5 (X Y D E y3 x3 : F) : Y * E * D * y3 + X * D * E * x3 = (Y * y3 + X * x3) * (D * E) := by grobner
theorem q6 (W H V G d x1 y1 : F) : H * G - d * x1 * (V * G) * y1 * (W * H) = (1 - d * x1 * V * y1 * W) * (H * G) := by grobner
theorem q7 (W H V G x1 y1 : F) : y1 * (W * H * G) + x1 * (V * G * H) = (y1 * W + x1 * V) * (H * G) := by grobner
theorem q8 (X Y D E d x3 y3 : F) : E * D - d * (X * D) * x3 * (Y * E) * y3 = (1 - d * X * x3 * Y * y3) * (D * E) := by grobner
theorem q9 (U p DE q HG Z : F) (h : U * p * DE * (q * HG) = Z * q * HG * (p * DE)) : U * (p * DE * (q * HG)) = Z * (p * DE * (q * HG)) := by grobner

/-- Fractions N/D, M/E and A/G, B/H. -/
theorem as_fin {N D M E A G B H X Y V W p q d x1 y1 x3 y3 U Z : F} (hD : D ≠ 0) (hE : E ≠ 0) (hG : G ≠ 0) (hH : H ≠ 0) (e1 : X * D = N) (e2 : Y * E = M) (e3 : V * G = A) (e4 : W * H = B)
    (k1 : U * p = X * y3 + x3 * Y) (hp : p ≠ 0) (hp' : p = 1 + d * X * x3 * Y * y3) (k2 : Z * q = x1 * W + V * y1) (hq : q ≠ 0) (hq' : q = 1 + d * x1 * V * y1 * W)
    (h : (N * E * y3 + x3 * (M * D)) * (H * G + d * x1 * A * y1 * B) = (x1 * (B * G) + A * H * y1) * (E * D + d * N * x3 * M * y3)) : U = Z := by
  have a1 : N * E * y3 + x3 * (M * D) = (U * p) * (D * E) := by
    rw [k1, ← e1, ← e2]; exact q1 _ _ _ _ _ _
  have a2 : H * G + d * x1 * A * y1 * B = q * (H * G) := by
    rw [hq', ← e3, ← e4]; exact q2 _ _ _ _ _ _ _
  have a3 : x1 * (B * G) + A * H * y1 = (Z * q) * (H * G) := by
    rw [k2, ← e3, ← e4]; exact q3 _ _ _ _ _ _
  have a4 : E * D + d * N * x3 * M * y3 = p * (D * E) := by
    rw [hp', ← e1, ← e2]; exact q4 _ _ _ _ _ _ _
  rw [a1, a2, a3, a4] at h
  have a5 : U * (p * (D * E) * (q * (H * G))) = Z * (p * (D * E) * (q * (H * G))) := q9 _ _ _ _ _ _ h
  exact fcancel (fnz (fnz hp (fnz hD hE)) (fnz hq (fnz hH hG))) a5
theorem as_fin' {N D M E A G B H X Y V W p q d x1 y1 x3 y3 U Z : F} (hD : D ≠ 0) (hE : E ≠ 0) (hG : G ≠ 0) (hH : H ≠ 0) (e1 : X * D = N) (e2 : Y * E = M) (e3 : V * G = A) (e4 : W * H = B)
    (k1 : U * p = Y * y3 + X * x3) (hp : p ≠ 0) (hp' : p = 1 - d * X * x3 * Y * y3) (k2 : Z * q = y1 * W + x1 * V) (hq : q ≠ 0) (hq' : q = 1 - d * x1 * V * y1 * W)
    (h : (M * D * y3 + N * E * x3) * (H * G - d * x1 * A * y1 * B) = (y1 * (B * G) + x1 * (A * H)) * (E * D - d * N * x3 * M * y3)) : U = Z := by
  have a1 : M * D * y3 + N * E * x3 = (U * p) * (D * E) := by
    rw [k1, ← e1, ← e2]; exact q5 _ _ _ _ _ _
  have a2 : H * G - d * x1 * A * y1 * B = q * (H * G) := by
    rw [hq', ← e3, ← e4]; exact q6 _ _ _ _ _ _ _
  have a3 : y1 * (B * G) + x1 * (A * H) = (Z * q) * (H * G) := by
    rw [k2, ← e3, ← e4]; exact q7 _ _ _ _ _ _
  have a4 : E * D - d * N * x3 * M * y3 = p * (D * E) := by
    rw [hp', ← e1, ← e2]; exact q8 _ _ _ _ _ _ _
  rw [a1, a2, a3, a4] at h
  have a5 : U * (p * (D * E) * (q * (H * G))) = Z * (p * (D * E) * (q * (H * G))) := q9 _ _ _ _ _ _ h
  exact fcancel (fnz (fnz hp (fnz hD hE)) (fnz hq (fnz hH hG))) a5

theorem add_assoc' (P Q R : Pt) : (P.add Q).add R = P.add (Q.add R) := by
  have p1 := den_p P.on Q.on
  have p2 := den_m P.on Q.on
  have p3 := den_p Q.on R.on
  have p4 := den_m Q.on R.on
  apply Pt.ext
  · exact as_fin (d := dE) p1 p2 p3 p4 (add_x P Q) (add_y P Q) (add_x Q R) (add_y Q R) (add_x (P.add Q) R) (den_p (P.add Q).on R.on) rfl (add_x P (Q.add R)) (den_p P.on (Q.add R).on) rfl (as_x P.on Q.on R.on)
  · exact as_fin' (d := dE) p1 p2 p3 p4 (add_x P Q) (add_y P Q) (add_x Q R) (add_y Q R) (add_y (P.add Q) R) (den_m (P.add Q).on R.on) rfl (add_y P (Q.add R)) (den_m P.on (Q.add R).on) rfl (as_y P.on Q.on R.on)

end Go.Sh
