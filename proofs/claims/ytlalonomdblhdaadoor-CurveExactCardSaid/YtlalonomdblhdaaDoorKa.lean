/-
  THE PAGE's CURVE: what trystref06's plus answers. Own work.
-/
import Derived.Test.YtlalonomdblhdaaDoorJc
namespace Go.Proofs.YtlalonomdblhdaaDoor
open Go.Sh
set_option maxRecDepth 100000

theorem nuwRc (l : List Nat) (j : Nat) : conc (nuw l) (rw4 j) = some (num (l.getD j 0)) := nuwR l j
theorem rowAddR' {ν : Nat → Int} {p q r : AV} {x y : Nat} (hx : x < B4) (hy : y < B4) (h1 : conc2 ν p = some (num x)) (h2 : conc2 ν q = some (num y)) (h3 : conc ν r = some (num ((x + y) % prime))) : Row.Ok ν Tryd.prog ⟨40, [p, q], r⟩ := ⟨[num x, num y], _, by simp [concT, h1, h2], h3, rAdd_ok x y hx hy⟩
def pnL (a b c d : Nat) : List Nat := numL a ++ (numL b ++ (numL c ++ numL d))
def ptn (a b c d : Nat) : Value := .agg ((pnL a b c d).map u64).toArray
def rwQ (i j k l : Nat) : AV := .ag (wel i ++ (wel j ++ (wel k ++ wel l)))
theorem wel_val (L : List Nat) (j : Nat) : concL (nuw L) (wel j) = some ((numL (L.getD j 0)).map u64) := nuw_wel L j
theorem ptn_of {ν : Nat → Int} {A B C D : List AV} {a b c d : Nat} (h1 : concL ν A = some ((numL a).map u64)) (h2 : concL ν B = some ((numL b).map u64)) (h3 : concL ν C = some ((numL c).map u64)) (h4 : concL ν D = some ((numL d).map u64)) (hd : ∃ k e r, A = .i k e :: r) : conc2 ν (.ag (A ++ (B ++ (C ++ D)))) = some (ptn a b c d) := by
  have e := concL_app h1 (concL_app h2 (concL_app h3 h4))
  obtain ⟨k, x, r, rfl⟩ := hd
  show (concL ν (.i k x :: r ++ (B ++ (C ++ D)))).map (fun vs => Value.agg vs.toArray) = _
  rw [e]
  simp [ptn, pnL]
theorem nuwQ (L : List Nat) (i j k l : Nat) : conc2 (nuw L) (rwQ i j k l) = some (ptn (L.getD i 0) (L.getD j 0) (L.getD k 0) (L.getD l 0)) := ptn_of (wel_val L i) (wel_val L j) (wel_val L k) (wel_val L l) ⟨_, _, _, rfl⟩
theorem nuwQc (L : List Nat) (i j k l : Nat) : conc (nuw L) (rwQ i j k l) = some (ptn (L.getD i 0) (L.getD j 0) (L.getD k 0) (L.getD l 0)) := nuwQ L i j k l

def plusRT : List Row := [⟨38, [rw4 1, rw4 0], rw4 9⟩, ⟨38, [rw4 5, rw4 4], rw4 10⟩, ⟨36, [rw4 9, rw4 10], rw4 11⟩, ⟨40, [rw4 1, rw4 0], rw4 12⟩, ⟨40, [rw4 5, rw4 4], rw4 13⟩, ⟨36, [rw4 12, rw4 13], rw4 14⟩, ⟨36, [rw4 3, rw4 8], rw4 15⟩, ⟨36, [rw4 15, rw4 7], rw4 16⟩, ⟨40, [rw4 16, rw4 16], rw4 17⟩, ⟨36, [rw4 2, rw4 6], rw4 18⟩, ⟨40, [rw4 18, rw4 18], rw4 19⟩, ⟨38, [rw4 14, rw4 11], rw4 20⟩, ⟨38, [rw4 19, rw4 17], rw4 21⟩, ⟨40, [rw4 19, rw4 17], rw4 22⟩, ⟨40, [rw4 14, rw4 11], rw4 23⟩, ⟨36, [rw4 20, rw4 21], rw4 24⟩, ⟨36, [rw4 22, rw4 23], rw4 25⟩, ⟨36, [rw4 21, rw4 22], rw4 26⟩, ⟨36, [rw4 20, rw4 23], rw4 27⟩]
theorem plusR_says : says noFacts tree plusRT 200 4 46 [rwQ 0 1 2 3, rwQ 4 5 6 7, rw4 8] (heap0 [] gmax) (rwQ 24 25 26 27) = true := by kernel_rfl
theorem plusR_core (px py pz pt qx qy qz qt k o0 o1 a o2 o3 b o4 c0 c zz e h f g i X Y Z T : Nat) (lpx : px < B4) (lpy : py < B4) (lpz : pz < B4) (lpt : pt < B4) (lqx : qx < B4) (lqy : qy < B4) (lqz : qz < B4) (lqt : qt < B4) (lk : k < B4) (ho0 : o0 = (py + (prime - px % prime)) % prime) (ho1 : o1 = (qy + (prime - qx % prime)) % prime) (ha : a = o0 * o1 % prime) (ho2 : o2 = (py + px) % prime) (ho3 : o3 = (qy + qx) % prime) (hb : b = o2 * o3 % prime) (ho4 : o4 = pt * k % prime) (hc0 : c0 = o4 * qt % prime) (hc : c = (c0 + c0) % prime) (hzz : zz = pz * qz % prime) (he : e = (zz + zz) % prime) (hh : h = (b + (prime - a % prime)) % prime) (hf : f = (e + (prime - c % prime)) % prime) (hg : g = (e + c) % prime) (hi : i = (b + a) % prime) (hX : X = h * f % prime) (hY : Y = g * i % prime) (hZ : Z = f * g % prime) (hT : T = h * i % prime) : Pure Tryd.prog 46 [ptn px py pz pt, ptn qx qy qz qt, num k] (ptn X Y Z T) := by
  have lo0 : o0 < B4 := ho0 ▸ prime_lt _
  have lo1 : o1 < B4 := ho1 ▸ prime_lt _
  have la : a < B4 := ha ▸ prime_lt _
  have lo2 : o2 < B4 := ho2 ▸ prime_lt _
  have lo3 : o3 < B4 := ho3 ▸ prime_lt _
  have lb : b < B4 := hb ▸ prime_lt _
  have lo4 : o4 < B4 := ho4 ▸ prime_lt _
  have lc0 : c0 < B4 := hc0 ▸ prime_lt _
  have lc : c < B4 := hc ▸ prime_lt _
  have lzz : zz < B4 := hzz ▸ prime_lt _
  have le : e < B4 := he ▸ prime_lt _
  have lh : h < B4 := hh ▸ prime_lt _
  have lf : f < B4 := hf ▸ prime_lt _
  have lg : g < B4 := hg ▸ prime_lt _
  have li : i < B4 := hi ▸ prime_lt _
  have lX : X < B4 := hX ▸ prime_lt _
  have lY : Y < B4 := hY ▸ prime_lt _
  have lZ : Z < B4 := hZ ▸ prime_lt _
  have lT : T < B4 := hT ▸ prime_lt _
  refine pure_of (ν := nuw [px, py, pz, pt, qx, qy, qz, qt, k, o0, o1, a, o2, o3, b, o4, c0, c, zz, e, h, f, g, i, X, Y, Z, T]) (args := [rwQ 0 1 2 3, rwQ 4 5 6 7, rw4 8]) (noFacts_hold _) mixed tab_ok (fun r hr => ?_) plusR_says (by simp [concT, nuwQ, nuwR]) (nuwQc [px, py, pz, pt, qx, qy, qz, qt, k, o0, o1, a, o2, o3, b, o4, c0, c, zz, e, h, f, g, i, X, Y, Z, T] 24 25 26 27)
  simp only [plusRT, List.mem_cons, List.not_mem_nil, or_false] at hr
  rcases hr with rfl | rfl | rfl | rfl | rfl | rfl | rfl | rfl | rfl | rfl | rfl | rfl | rfl | rfl | rfl | rfl | rfl | rfl | rfl
  · exact rowSubP' lpy lpx (nuwR _ 1) (nuwR _ 0) (by rw [← ho0]; exact nuwRc _ 9)
  · exact rowSubP' lqy lqx (nuwR _ 5) (nuwR _ 4) (by rw [← ho1]; exact nuwRc _ 10)
  · exact rowMulP lo0 lo1 (nuwR _ 9) (nuwR _ 10) (by rw [← ha]; exact nuwRc _ 11)
  · exact rowAddR' lpy lpx (nuwR _ 1) (nuwR _ 0) (by rw [← ho2]; exact nuwRc _ 12)
  · exact rowAddR' lqy lqx (nuwR _ 5) (nuwR _ 4) (by rw [← ho3]; exact nuwRc _ 13)
  · exact rowMulP lo2 lo3 (nuwR _ 12) (nuwR _ 13) (by rw [← hb]; exact nuwRc _ 14)
  · exact rowMulP lpt lk (nuwR _ 3) (nuwR _ 8) (by rw [← ho4]; exact nuwRc _ 15)
  · exact rowMulP lo4 lqt (nuwR _ 15) (nuwR _ 7) (by rw [← hc0]; exact nuwRc _ 16)
  · exact rowAddR' lc0 lc0 (nuwR _ 16) (nuwR _ 16) (by rw [← hc]; exact nuwRc _ 17)
  · exact rowMulP lpz lqz (nuwR _ 2) (nuwR _ 6) (by rw [← hzz]; exact nuwRc _ 18)
  · exact rowAddR' lzz lzz (nuwR _ 18) (nuwR _ 18) (by rw [← he]; exact nuwRc _ 19)
  · exact rowSubP' lb la (nuwR _ 14) (nuwR _ 11) (by rw [← hh]; exact nuwRc _ 20)
  · exact rowSubP' le lc (nuwR _ 19) (nuwR _ 17) (by rw [← hf]; exact nuwRc _ 21)
  · exact rowAddR' le lc (nuwR _ 19) (nuwR _ 17) (by rw [← hg]; exact nuwRc _ 22)
  · exact rowAddR' lb la (nuwR _ 14) (nuwR _ 11) (by rw [← hi]; exact nuwRc _ 23)
  · exact rowMulP lh lf (nuwR _ 20) (nuwR _ 21) (by rw [← hX]; exact nuwRc _ 24)
  · exact rowMulP lg li (nuwR _ 22) (nuwR _ 23) (by rw [← hY]; exact nuwRc _ 25)
  · exact rowMulP lf lg (nuwR _ 21) (nuwR _ 22) (by rw [← hZ]; exact nuwRc _ 26)
  · exact rowMulP lh li (nuwR _ 20) (nuwR _ 23) (by rw [← hT]; exact nuwRc _ 27)
theorem two_d (t k q : F) : t * k * q + t * k * q = t * (2 * k) * q := by grobner
theorem plusR_field {px py pz pt qx qy qz qt k o0 o1 a o2 o3 b o4 c0 c zz e h f g i X Y Z T : Nat} (hk : em k = dE) (ho0 : o0 = (py + (prime - px % prime)) % prime) (ho1 : o1 = (qy + (prime - qx % prime)) % prime) (ha : a = o0 * o1 % prime) (ho2 : o2 = (py + px) % prime) (ho3 : o3 = (qy + qx) % prime) (hb : b = o2 * o3 % prime) (ho4 : o4 = pt * k % prime) (hc0 : c0 = o4 * qt % prime) (hc : c = (c0 + c0) % prime) (hzz : zz = pz * qz % prime) (he : e = (zz + zz) % prime) (hh : h = (b + (prime - a % prime)) % prime) (hf : f = (e + (prime - c % prime)) % prime) (hg : g = (e + c) % prime) (hi : i = (b + a) % prime) (hX : X = h * f % prime) (hY : Y = g * i % prime) (hZ : Z = f * g % prime) (hT : T = h * i % prime) : (⟨em X, em Y, em Z, em T⟩ : P4) = fadd ⟨em px, em py, em pz, em pt⟩ ⟨em qx, em qy, em qz, em qt⟩ := by
  have fo0 : em o0 = em py - em px := by rw [ho0, em_sub]
  have fo1 : em o1 = em qy - em qx := by rw [ho1, em_sub]
  have fa : em a = em o0 * em o1 := by rw [ha, em_mul]
  have fo2 : em o2 = em py + em px := by rw [ho2, em_add]
  have fo3 : em o3 = em qy + em qx := by rw [ho3, em_add]
  have fb : em b = em o2 * em o3 := by rw [hb, em_mul]
  have fo4 : em o4 = em pt * em k := by rw [ho4, em_mul]
  have fc0 : em c0 = em o4 * em qt := by rw [hc0, em_mul]
  have fc : em c = em c0 + em c0 := by rw [hc, em_add]
  have fzz : em zz = em pz * em qz := by rw [hzz, em_mul]
  have fe : em e = em zz + em zz := by rw [he, em_add]
  have fh : em h = em b - em a := by rw [hh, em_sub]
  have ff : em f = em e - em c := by rw [hf, em_sub]
  have fg : em g = em e + em c := by rw [hg, em_add]
  have fi : em i = em b + em a := by rw [hi, em_add]
  have fX : em X = em h * em f := by rw [hX, em_mul]
  have fY : em Y = em g * em i := by rw [hY, em_mul]
  have fZ : em Z = em f * em g := by rw [hZ, em_mul]
  have fT : em T = em h * em i := by rw [hT, em_mul]
  have fc' : em c = em pt * (2 * dE) * em qt := by rw [fc, fc0, fo4, hk, two_d]
  rw [fX, fY, fZ, fT, fh, ff, fg, fi, fe, fzz, fc', fb, fa, fo0, fo1, fo2, fo3]
  rfl
/-- WHAT plus ANSWERS. -/
theorem plusR_ok (px py pz pt qx qy qz qt : Nat) (lpx : px < B4) (lpy : py < B4) (lpz : pz < B4) (lpt : pt < B4) (lqx : qx < B4) (lqy : qy < B4) (lqz : qz < B4) (lqt : qt < B4) : ∃ X Y Z T, X < prime ∧ Y < prime ∧ Z < prime ∧ T < prime ∧ em4 X Y Z T = fadd (em4 px py pz pt) (em4 qx qy qz qt) ∧ Pure Tryd.prog 46 [ptn px py pz pt, ptn qx qy qz qt, num dNat] (ptn X Y Z T) :=
  ⟨_, _, _, _, lt_prime _, lt_prime _, lt_prime _, lt_prime _, plusR_field (k := dNat) em_dNat rfl rfl rfl rfl rfl rfl rfl rfl rfl rfl rfl rfl rfl rfl rfl rfl rfl rfl rfl, plusR_core px py pz pt qx qy qz qt dNat _ _ _ _ _ _ _ _ _ _ _ _ _ _ _ _ _ _ _ lpx lpy lpz lpt lqx lqy lqz lqt (by decide) rfl rfl rfl rfl rfl rfl rfl rfl rfl rfl rfl rfl rfl rfl rfl rfl rfl rfl rfl⟩

/-! d -/

def n1' : Nat := 57896044618658097711785492504343953926634992332820282019728792003956564698284
def n2' : Nat := 37095705934669439343138083508754565189542113879843219016388785533085940283556
theorem n2'_is : 121666 ^ expInv % prime = n2' := by
  rw [← pm_eq 256 121666 expInv (by decide)]
  decide +kernel
def kN (x : Nat) : AV := .ag ((numL x).map fun n => .i .u64 (.c (.ofNat n)))
theorem kN_val (ν : Nat → Int) (x : Nat) : conc2 ν (kN x) = some (num x) := by kernel_rfl
theorem kN_valc (ν : Nat → Int) (x : Nat) : conc ν (kN x) = some (num x) := by kernel_rfl
def dT : List Row := [⟨38, [kN 0, kN 121665], kN n1'⟩, ⟨39, [kN 121666], kN n2'⟩, ⟨36, [kN n1', kN n2'], kN dNat⟩]
theorem d_says : says noFacts tree dT 100 4 41 [] (heap0 [] gmax) (kN dNat) = true := by kernel_rfl
theorem d_ok : Pure Tryd.prog 41 [] (num dNat) := by
  refine pure_of (ν := nuw []) (args := []) (noFacts_hold _) mixed tab_ok (fun r hr => ?_) d_says rfl (kN_valc _ _)
  simp only [dT, List.mem_cons, List.not_mem_nil, or_false] at hr
  rcases hr with rfl | rfl | rfl
  · exact rowSubP' (x := 0) (y := 121665) (by decide) (by decide) (kN_val _ _) (kN_val _ _) (by rw [show (0 + (prime - 121665 % prime)) % prime = n1' by decide +kernel]; exact kN_valc _ _)
  · exact ⟨[num 121666], _, by simp [concT, kN_val], by rw [n2'_is]; exact kN_valc _ _, rInv_ok 121666 (by decide)⟩
  · exact rowMulP (x := n1') (y := n2') (by decide) (by decide) (kN_val _ _) (kN_val _ _) (by rw [show n1' * n2' % prime = dNat by decide +kernel]; exact kN_valc _ _)

end Go.Proofs.YtlalonomdblhdaaDoor
