/-
 THE PAGE's side: Ka, Kb. Own work.
-/
import Derived.Test.YtheidgcgdkmmiaaDoorMa
namespace Go.Proofs.YtheidgcgdkmmiaaDoor
open Go.Sh
open Go.ChangeShapes Go.WideShapes Go.ChangeAt Go.RowKit
set_option maxRecDepth 100000
theorem nuwRc (l : List Nat) (j : Nat) : conc (nuw l) (rw4 j) = some (num (l.getD j 0)) := nuwR l j
theorem rowAddR' {ν : Nat → Int} {p q r : AV} {x y : Nat} (hx : x < B4) (hy : y < B4) (h1 : qag ν p = some (num x)) (h2 : qag ν q = some (num y)) (h3 : conc ν r = some (num ((x + y) % qaa))) : Row.Ok ν Tryd.prog ⟨68, [p, q], r⟩ := ⟨[num x, num y], _, by simp [qai, h1, h2], h3, rAdd_ok x y hx hy⟩
def pnL (a b c d : Nat) : List Nat := numL a ++ (numL b ++ (numL c ++ numL d))
def ptn (a b c d : Nat) : Value := .agg ((pnL a b c d).map u64).toArray
def rwQ (i j k l : Nat) : AV := .ag (wel i ++ (wel j ++ (wel k ++ wel l)))
theorem wel_val (L : List Nat) (j : Nat) : qap (nuw L) (wel j) = some ((numL (L.getD j 0)).map u64) := nuw_wel L j
theorem ptn_of {ν : Nat → Int} {A B C D : List AV} {a b c d : Nat} (h1 : qap ν A = some ((numL a).map u64)) (h2 : qap ν B = some ((numL b).map u64)) (h3 : qap ν C = some ((numL c).map u64)) (h4 : qap ν D = some ((numL d).map u64)) (hd : ∃ k e r, A = .i k e :: r) : qag ν (.ag (A ++ (B ++ (C ++ D)))) = some (ptn a b c d) := by
 have e := concL_app h1 (concL_app h2 (concL_app h3 h4))
 obtain ⟨k, x, r, rfl⟩ := hd
 show (qap ν (.i k x :: r ++ (B ++ (C ++ D)))).map (fun vs => Value.agg vs.toArray) = _
 rw [e]
 simp [ptn, pnL]
theorem nuwQ (L : List Nat) (i j k l : Nat) : qag (nuw L) (rwQ i j k l) = some (ptn (L.getD i 0) (L.getD j 0) (L.getD k 0) (L.getD l 0)) := ptn_of (wel_val L i) (wel_val L j) (wel_val L k) (wel_val L l) ⟨_, _, _, rfl⟩
theorem nuwQc (L : List Nat) (i j k l : Nat) : conc (nuw L) (rwQ i j k l) = some (ptn (L.getD i 0) (L.getD j 0) (L.getD k 0) (L.getD l 0)) := nuwQ L i j k l
def plusRT : List Row := [⟨66, [rw4 1, rw4 0], rw4 9⟩, ⟨66, [rw4 5, rw4 4], rw4 10⟩, ⟨64, [rw4 9, rw4 10], rw4 11⟩, ⟨68, [rw4 1, rw4 0], rw4 12⟩, ⟨68, [rw4 5, rw4 4], rw4 13⟩, ⟨64, [rw4 12, rw4 13], rw4 14⟩, ⟨64, [rw4 3, rw4 8], rw4 15⟩, ⟨64, [rw4 15, rw4 7], rw4 16⟩, ⟨68, [rw4 16, rw4 16], rw4 17⟩, ⟨64, [rw4 2, rw4 6], rw4 18⟩, ⟨68, [rw4 18, rw4 18], rw4 19⟩, ⟨66, [rw4 14, rw4 11], rw4 20⟩, ⟨66, [rw4 19, rw4 17], rw4 21⟩, ⟨68, [rw4 19, rw4 17], rw4 22⟩, ⟨68, [rw4 14, rw4 11], rw4 23⟩, ⟨64, [rw4 20, rw4 21], rw4 24⟩, ⟨64, [rw4 22, rw4 23], rw4 25⟩, ⟨64, [rw4 21, rw4 22], rw4 26⟩, ⟨64, [rw4 20, rw4 23], rw4 27⟩]
theorem plusR_says : says qae tree plusRT 200 4 70 [rwQ 0 1 2 3, rwQ 4 5 6 7, rw4 8] (qaA [] gmax) (rwQ 24 25 26 27) = true := by kernel_rfl
theorem plusR_core (px py pz pt qx qy qz qt k o0 o1 a o2 o3 b o4 c0 c zz e h f g i X Y Z T : Nat) (lpx : px < B4) (lpy : py < B4) (lpz : pz < B4) (lpt : pt < B4) (lqx : qx < B4) (lqy : qy < B4) (lqz : qz < B4) (lqt : qt < B4) (lk : k < B4) (ho0 : o0 = (py + (qaa - px % qaa)) % qaa) (ho1 : o1 = (qy + (qaa - qx % qaa)) % qaa) (ha : a = o0 * o1 % qaa) (ho2 : o2 = (py + px) % qaa) (ho3 : o3 = (qy + qx) % qaa) (hb : b = o2 * o3 % qaa) (ho4 : o4 = pt * k % qaa) (hc0 : c0 = o4 * qt % qaa) (hc : c = (c0 + c0) % qaa) (hzz : zz = pz * qz % qaa) (he : e = (zz + zz) % qaa) (hh : h = (b + (qaa - a % qaa)) % qaa) (hf : f = (e + (qaa - c % qaa)) % qaa) (hg : g = (e + c) % qaa) (hi : i = (b + a) % qaa) (hX : X = h * f % qaa) (hY : Y = g * i % qaa) (hZ : Z = f * g % qaa) (hT : T = h * i % qaa) : Pure Tryd.prog 70 [ptn px py pz pt, ptn qx qy qz qt, num k] (ptn X Y Z T) := by
 have lo0 : o0 < B4 := ho0 ▸ qah _
 have lo1 : o1 < B4 := ho1 ▸ qah _
 have la : a < B4 := ha ▸ qah _
 have lo2 : o2 < B4 := ho2 ▸ qah _
 have lo3 : o3 < B4 := ho3 ▸ qah _
 have lb : b < B4 := hb ▸ qah _
 have lo4 : o4 < B4 := ho4 ▸ qah _
 have lc0 : c0 < B4 := hc0 ▸ qah _
 have lc : c < B4 := hc ▸ qah _
 have lzz : zz < B4 := hzz ▸ qah _
 have le : e < B4 := he ▸ qah _
 have lh : h < B4 := hh ▸ qah _
 have lf : f < B4 := hf ▸ qah _
 have lg : g < B4 := hg ▸ qah _
 have li : i < B4 := hi ▸ qah _
 have lX : X < B4 := hX ▸ qah _
 have lY : Y < B4 := hY ▸ qah _
 have lZ : Z < B4 := hZ ▸ qah _
 have lT : T < B4 := hT ▸ qah _
 refine qan (ν := nuw [px, py, pz, pt, qx, qy, qz, qt, k, o0, o1, a, o2, o3, b, o4, c0, c, zz, e, h, f, g, i, X, Y, Z, T]) (args := [rwQ 0 1 2 3, rwQ 4 5 6 7, rw4 8]) (qab _) qak qaf (fun r hr => ?_) plusR_says (by simp [qai, nuwQ, nuwR]) (nuwQc [px, py, pz, pt, qx, qy, qz, qt, k, o0, o1, a, o2, o3, b, o4, c0, c, zz, e, h, f, g, i, X, Y, Z, T] 24 25 26 27)
 simp only [plusRT, List.mem_cons, List.not_mem_nil, or_false] at hr
 rcases hr with rfl | rfl | rfl | rfl | rfl | rfl | rfl | rfl | rfl | rfl | rfl | rfl | rfl | rfl | rfl | rfl | rfl | rfl | rfl
 ·exact rowSubP' lpy lpx (nuwR _ 1) (nuwR _ 0) (by rw [← ho0]; exact nuwRc _ 9)
 ·exact rowSubP' lqy lqx (nuwR _ 5) (nuwR _ 4) (by rw [← ho1]; exact nuwRc _ 10)
 ·exact qaH lo0 lo1 (nuwR _ 9) (nuwR _ 10) (by rw [← ha]; exact nuwRc _ 11)
 ·exact rowAddR' lpy lpx (nuwR _ 1) (nuwR _ 0) (by rw [← ho2]; exact nuwRc _ 12)
 ·exact rowAddR' lqy lqx (nuwR _ 5) (nuwR _ 4) (by rw [← ho3]; exact nuwRc _ 13)
 ·exact qaH lo2 lo3 (nuwR _ 12) (nuwR _ 13) (by rw [← hb]; exact nuwRc _ 14)
 ·exact qaH lpt lk (nuwR _ 3) (nuwR _ 8) (by rw [← ho4]; exact nuwRc _ 15)
 ·exact qaH lo4 lqt (nuwR _ 15) (nuwR _ 7) (by rw [← hc0]; exact nuwRc _ 16)
 ·exact rowAddR' lc0 lc0 (nuwR _ 16) (nuwR _ 16) (by rw [← hc]; exact nuwRc _ 17)
 ·exact qaH lpz lqz (nuwR _ 2) (nuwR _ 6) (by rw [← hzz]; exact nuwRc _ 18)
 ·exact rowAddR' lzz lzz (nuwR _ 18) (nuwR _ 18) (by rw [← he]; exact nuwRc _ 19)
 ·exact rowSubP' lb la (nuwR _ 14) (nuwR _ 11) (by rw [← hh]; exact nuwRc _ 20)
 ·exact rowSubP' le lc (nuwR _ 19) (nuwR _ 17) (by rw [← hf]; exact nuwRc _ 21)
 ·exact rowAddR' le lc (nuwR _ 19) (nuwR _ 17) (by rw [← hg]; exact nuwRc _ 22)
 ·exact rowAddR' lb la (nuwR _ 14) (nuwR _ 11) (by rw [← hi]; exact nuwRc _ 23)
 ·exact qaH lh lf (nuwR _ 20) (nuwR _ 21) (by rw [← hX]; exact nuwRc _ 24)
 ·exact qaH lg li (nuwR _ 22) (nuwR _ 23) (by rw [← hY]; exact nuwRc _ 25)
 ·exact qaH lf lg (nuwR _ 21) (nuwR _ 22) (by rw [← hZ]; exact nuwRc _ 26)
 ·exact qaH lh li (nuwR _ 20) (nuwR _ 23) (by rw [← hT]; exact nuwRc _ 27)
theorem two_d (t k q : F) : t * k * q + t * k * q = t * (2 * k) * q := by grobner
theorem plusR_field {px py pz pt qx qy qz qt k o0 o1 a o2 o3 b o4 c0 c zz e h f g i X Y Z T : Nat} (hk : em k = dE) (ho0 : o0 = (py + (qaa - px % qaa)) % qaa) (ho1 : o1 = (qy + (qaa - qx % qaa)) % qaa) (ha : a = o0 * o1 % qaa) (ho2 : o2 = (py + px) % qaa) (ho3 : o3 = (qy + qx) % qaa) (hb : b = o2 * o3 % qaa) (ho4 : o4 = pt * k % qaa) (hc0 : c0 = o4 * qt % qaa) (hc : c = (c0 + c0) % qaa) (hzz : zz = pz * qz % qaa) (he : e = (zz + zz) % qaa) (hh : h = (b + (qaa - a % qaa)) % qaa) (hf : f = (e + (qaa - c % qaa)) % qaa) (hg : g = (e + c) % qaa) (hi : i = (b + a) % qaa) (hX : X = h * f % qaa) (hY : Y = g * i % qaa) (hZ : Z = f * g % qaa) (hT : T = h * i % qaa) : (⟨em X, em Y, em Z, em T⟩ : P4) = fadd ⟨em px, em py, em pz, em pt⟩ ⟨em qx, em qy, em qz, em qt⟩ := by
 have fo0 : em o0 = em py - em px := by rw [ho0, em_sub]
 have fo1 : em o1 = em qy - em qx := by rw [ho1, em_sub]
 have fa : em a = em o0 * em o1 := by rw [ha, qaW]
 have fo2 : em o2 = em py + em px := by rw [ho2, em_add]
 have fo3 : em o3 = em qy + em qx := by rw [ho3, em_add]
 have fb : em b = em o2 * em o3 := by rw [hb, qaW]
 have fo4 : em o4 = em pt * em k := by rw [ho4, qaW]
 have fc0 : em c0 = em o4 * em qt := by rw [hc0, qaW]
 have fc : em c = em c0 + em c0 := by rw [hc, em_add]
 have fzz : em zz = em pz * em qz := by rw [hzz, qaW]
 have fe : em e = em zz + em zz := by rw [he, em_add]
 have fh : em h = em b - em a := by rw [hh, em_sub]
 have ff : em f = em e - em c := by rw [hf, em_sub]
 have fg : em g = em e + em c := by rw [hg, em_add]
 have fi : em i = em b + em a := by rw [hi, em_add]
 have fX : em X = em h * em f := by rw [hX, qaW]
 have fY : em Y = em g * em i := by rw [hY, qaW]
 have fZ : em Z = em f * em g := by rw [hZ, qaW]
 have fT : em T = em h * em i := by rw [hT, qaW]
 have fc' : em c = em pt * (2 * dE) * em qt := by rw [fc, fc0, fo4, hk, two_d]
 rw [fX, fY, fZ, fT, fh, ff, fg, fi, fe, fzz, fc', fb, fa, fo0, fo1, fo2, fo3]
 rfl
theorem plusR_ok (px py pz pt qx qy qz qt : Nat) (lpx : px < B4) (lpy : py < B4) (lpz : pz < B4) (lpt : pt < B4) (lqx : qx < B4) (lqy : qy < B4) (lqz : qz < B4) (lqt : qt < B4) : ∃ X Y Z T, X < qaa ∧ Y < qaa ∧ Z < qaa ∧ T < qaa ∧ em4 X Y Z T = fadd (em4 px py pz pt) (em4 qx qy qz qt) ∧ Pure Tryd.prog 70 [ptn px py pz pt, ptn qx qy qz qt, num dNat] (ptn X Y Z T) :=
 ⟨_, _, _, _, qar _, qar _, qar _, qar _, plusR_field (k := dNat) em_dNat rfl rfl rfl rfl rfl rfl rfl rfl rfl rfl rfl rfl rfl rfl rfl rfl rfl rfl rfl, plusR_core px py pz pt qx qy qz qt dNat _ _ _ _ _ _ _ _ _ _ _ _ _ _ _ _ _ _ _ lpx lpy lpz lpt lqx lqy lqz lqt (by decide) rfl rfl rfl rfl rfl rfl rfl rfl rfl rfl rfl rfl rfl rfl rfl rfl rfl rfl rfl⟩
/-! d -/
def n1' : Nat := 57896044618658097711785492504343953926634992332820282019728792003956564698284
def n2' : Nat := 37095705934669439343138083508754565189542113879843219016388785533085940283556
theorem n2'_is : 121666 ^ qbg % qaa = n2' := by
 rw [← pm_eq 256 121666 qbg (by decide)]
 decide +kernel
def kN (x : Nat) : AV := .ag ((numL x).map fun n => .i .u64 (.c (.ofNat n)))
theorem qbk (ν : Nat → Int) (x : Nat) : qag ν (kN x) = some (num x) := by kernel_rfl
theorem kN_valc (ν : Nat → Int) (x : Nat) : conc ν (kN x) = some (num x) := by kernel_rfl
def dT : List Row := [⟨66, [kN 0, kN 121665], kN n1'⟩, ⟨67, [kN 121666], kN n2'⟩, ⟨64, [kN n1', kN n2'], kN dNat⟩]
theorem d_says : says qae tree dT 100 4 69 [] (qaA [] gmax) (kN dNat) = true := by kernel_rfl
theorem d_ok : Pure Tryd.prog 69 [] (num dNat) := by
 refine qan (ν := nuw []) (args := []) (qab _) qak qaf (fun r hr => ?_) d_says rfl (kN_valc _ _)
 simp only [dT, List.mem_cons, List.not_mem_nil, or_false] at hr
 rcases hr with rfl | rfl | rfl
 ·exact rowSubP' (x := 0) (y := 121665) (by decide) (by decide) (qbk _ _) (qbk _ _) (by rw [show (0 + (qaa - 121665 % qaa)) % qaa = n1' by decide +kernel]; exact kN_valc _ _)
 ·exact ⟨[num 121666], _, by simp [qai, qbk], by rw [n2'_is]; exact kN_valc _ _, rInv_ok 121666 (by decide)⟩
 ·exact qaH (x := n1') (y := n2') (by decide) (by decide) (qbk _ _) (qbk _ _) (by rw [show n1' * n2' % qaa = dNat by decide +kernel]; exact kN_valc _ _)
/-! its pieces -/
def mlp : IC := t52.body
def mlA : IC := mlp.sub [false]
def mlB : IC := mlp.sub [true, false]
def mlB2 : IC := mlp.sub [true, true, false]
def mlC : IC := mlp.sub [true, true, true, false, false]
def mlBody : IC := mlp.sub [true, true, true, false, true, false, false]
def mlE : IC := mlp.sub [true, true, true, true]
theorem ml_shape : t52 = ⟨.seq mlA (.seq mlB (.seq mlB2 (.seq (.seq mlC (.block 0 (.loop mlBody))) mlE))), [.c 4 (some 16)], 33⟩ := by kernel_rfl
def bN (cs : List AV) : ABlk := ⟨cs, 39, true⟩
def bQ (cs : List AV) : ABlk := ⟨cs, 56, true⟩
def qcl (j : Nat) : List AV := wel j ++ (wel (j + 1) ++ (wel (j + 2) ++ wel (j + 3)))
def z16 : List AV := List.replicate 16 (.i .u64 (.c (.ofNat 0)))
def cN (x : Nat) : List AV := (numL x).map fun n => .i .u64 (.c (.ofNat n))
def mlE0 : List (Nat × AV) := [(2, .p 64 0), (3, .p 65 0), (4, .p 66 0), (5, .p 67 0), (6, .p 69 0)]
def mlH (cs : List AV) : List (Nat × ABlk) := [(64, bN (wel 0)), (65, bQ (qcl 1)), (66, bQ z16), (67, bN (cN dNat)), (69, bQ cs)]
def mlN (k : Int) (cs : List AV) : Now := ⟨(7, .i .i64 (.c k)) :: mlE0, mlH cs, 70⟩
def bitW (k : Nat) (b : Bool) : Facts := ⟨[], [(.eql, .e .and .u64 (.e .shr .u64 (.s (k / 64)) (.c (.ofNat (k % 64)))) (.c (.ofNat 1)), .c (.ofNat 1), b)], []⟩
def mlT (b : Bool) : List Row := if b then [⟨70, [rwQ 5 6 7 8, rwQ 5 6 7 8, kN dNat], rwQ 9 10 11 12⟩, ⟨70, [rwQ 9 10 11 12, rwQ 1 2 3 4, kN dNat], rwQ 13 14 15 16⟩] else [⟨70, [rwQ 5 6 7 8, rwQ 5 6 7 8, kN dNat], rwQ 9 10 11 12⟩]
noncomputable def mlGo (k : Nat) : Bool := goes (bitW k true) tree (mlT true) 60 3 mlBody (mlN (.ofNat k) (qcl 5)) .normal (mlN ((k : Int) - 1) (qcl 13)) && goes (bitW k false) tree (mlT false) 60 3 mlBody (mlN (.ofNat k) (qcl 5)) .normal (mlN ((k : Int) - 1) (qcl 9))
theorem ml_goes0 : (List.range 64).all (fun k => mlGo k) = true := by kernel_rfl
theorem ml_goes1 : (List.range 64).all (fun k => mlGo (64 + k)) = true := by kernel_rfl
theorem ml_goes2 : (List.range 64).all (fun k => mlGo (128 + k)) = true := by kernel_rfl
theorem ml_goes3 : (List.range 64).all (fun k => mlGo (192 + k)) = true := by kernel_rfl
theorem ml_goes (k : Nat) (h : k < 256) : mlGo k = true := by
 by_cases h0 : k < 64
 ·exact List.all_eq_true.1 ml_goes0 k (List.mem_range.2 h0)
 ·by_cases h1 : k < 128
  ·have := List.all_eq_true.1 ml_goes1 (k - 64) (List.mem_range.2 (by omega))
   rwa [show 64 + (k - 64) = k by omega] at this
  ·by_cases h2 : k < 192
   ·have := List.all_eq_true.1 ml_goes2 (k - 128) (List.mem_range.2 (by omega))
    rwa [show 128 + (k - 128) = k by omega] at this
   ·have := List.all_eq_true.1 ml_goes3 (k - 192) (List.mem_range.2 (by omega))
    rwa [show 192 + (k - 192) = k by omega] at this
theorem ml_ends : goes qae tree [] 60 2 mlBody (mlN (-1) (qcl 5)) (.exit 0) (mlN (-1) (qcl 5)) = true := by kernel_rfl
theorem bitW_hold {k i : Nat} {l : List Nat} (hi : i < 256) (b : Bool) (hb : k.testBit i = b) : (bitW i b).Hold (nuw (k :: l)) := by
 refine ⟨fun p hp => (by cases hp), fun p hp => ?_, fun p hp => by cases hp⟩
 simp only [bitW, List.mem_cons, List.not_mem_nil, or_false] at hp
 subst hp
 show (qaj .and .u64 (qaj .shr .u64 (nuw (k :: l) (i / 64)) ((i % 64 : Nat) : Int)) ((1 : Nat) : Int) == ((1 : Nat) : Int)) = b
 have hw : ∀ j, j < 4 → (numL k).getD j 0 = k / 2 ^ (64 * j) % 2 ^ 64 := by
  intro j hj
  rcases (by omega : j = 0 ∨ j = 1 ∨ j = 2 ∨ j = 3) with rfl | rfl | rfl | rfl
  ·show k % 18446744073709551616 = _
   simp
  ·rfl
  ·rfl
  ·rfl
 have e1 : nuw (k :: l) (i / 64) = ((k / 2 ^ (64 * (i / 64)) % 2 ^ 64 : Nat) : Int) := by
  unfold nuw
  have h0 : i / 64 / 4 = 0 := by omega
  have h1 : i / 64 % 4 = i / 64 := by omega
  rw [h0, h1, List.getD_cons_zero, hw (i / 64) (by omega)]
 have hm : i % 64 < 64 := Nat.mod_lt _ (by decide)
 rw [e1, a_shr .u64 _ (i % 64) (Nat.le_of_lt hm), a_mask _ 1 1 rfl (by decide), Nat.pow_one, bit_in _ _ _ _ hm, show 64 * (i / 64) + i % 64 = i by omega, ← hb, Nat.testBit_eq_decide_div_mod_eq]
 by_cases h : k / 2 ^ i % 2 = 1
 ·simp only [h, decide_true]; rfl
 ·have : k / 2 ^ i % 2 = 0 := by omega
  simp only [this]; decide
theorem blkN_map' (cs : List AV) : (bN cs).elem < qac := by show 39 < qac; decide
theorem blkQ_map (cs : List AV) : (bQ cs).elem < qac := by show 56 < qac; decide
theorem mlget (cs : List AV) : (qam (mlH cs) 70).get 64 = some (bN (wel 0)) ∧ (qam (mlH cs) 70).get 65 = some (bQ (qcl 1)) ∧ (qam (mlH cs) 70).get 66 = some (bQ z16) ∧ (qam (mlH cs) 70).get 67 = some (bN (cN dNat)) ∧ (qam (mlH cs) 70).get 69 = some (bQ cs) := ⟨by kernel_rfl, by kernel_rfl, by kernel_rfl, by kernel_rfl, by kernel_rfl⟩
theorem ml_named {w0 : World} {n : Nat} {ν ν' : Nat → Int} {i : Int} {cs : List AV} {us ps : List Value} {act : Act} {w : World} (h : Holds 33 w0 ν (mlN i cs) act w)
  (c0 : qai ν (wel 0) = some (welV n)) (c1 : qai ν (qcl 1) = some ps) (cc : qai ν cs = some us) (c0' : qai ν' (wel 0) = some (welV n)) (c1' : qai ν' (qcl 1) = some ps) (cc' : qai ν' (qcl 5) = some us) : Holds 33 w0 ν' (mlN i (qcl 5)) act w := by
 obtain ⟨g0, g1, g2, g3, g4⟩ := mlget cs
 refine Holds.renumS (e := (mlN i cs).e) (H := mlH cs) (n := 70) h (by decide) (fun p hp => ?_) fun p hp => ?_
 ·simp only [mlE0, List.mem_cons, List.not_mem_nil, or_false] at hp
  rcases hp with rfl | rfl | rfl | rfl | rfl | rfl
  ·exact .inl ⟨.i .i64 (.c i), .int .i64 i, by simp [mlN], rfl, rfl⟩
  ·exact .inr ⟨64, 0, rfl, by decide, by simp [mlN, mlE0]⟩
  ·exact .inr ⟨65, 0, rfl, by decide, by simp [mlN, mlE0]⟩
  ·exact .inr ⟨66, 0, rfl, by decide, by simp [mlN, mlE0]⟩
  ·exact .inr ⟨67, 0, rfl, by decide, by simp [mlN, mlE0]⟩
  ·exact .inr ⟨69, 0, rfl, by decide, by simp [mlN, mlE0]⟩
 ·simp only [mlH, List.mem_cons, List.not_mem_nil, or_false] at hp
  rcases hp with rfl | rfl | rfl | rfl | rfl
  ·exact ⟨by decide, by decide, _, _, g0, rfl, rfl, blkN_map' _, c0, c0'⟩
  ·exact ⟨by decide, by decide, _, _, g1, rfl, rfl, blkQ_map _, c1, c1'⟩
  ·exact ⟨by decide, by decide, _, List.replicate 16 (u64 0), g2, rfl, rfl, blkQ_map _, by kernel_rfl, by kernel_rfl⟩
  ·exact ⟨by decide, by decide, _, welV dNat, g3, rfl, rfl, blkN_map' _, by kernel_rfl, by kernel_rfl⟩
  ·exact ⟨by decide, by decide, _, _, g4, rfl, rfl, blkQ_map _, cc, cc'⟩
def pnV (a b c d : Nat) : List Value := (pnL a b c d).map u64
theorem mn0 (n : Nat) (l : List Nat) : qai (nuw (n :: l)) (wel 0) = some (welV n) := by kernel_rfl
theorem mn1 (n px py pz pt : Nat) (l : List Nat) : qai (nuw (n :: px :: py :: pz :: pt :: l)) (qcl 1) = some (pnV px py pz pt) := by kernel_rfl
theorem mn5 (n px py pz pt a b c d : Nat) (l : List Nat) : qai (nuw (n :: px :: py :: pz :: pt :: a :: b :: c :: d :: l)) (qcl 5) = some (pnV a b c d) := by kernel_rfl
theorem mn9 (n px py pz pt a b c d X Y Z T : Nat) (l : List Nat) : qai (nuw (n :: px :: py :: pz :: pt :: a :: b :: c :: d :: X :: Y :: Z :: T :: l)) (qcl 9) = some (pnV X Y Z T) := by kernel_rfl
theorem mn13 (n px py pz pt a b c d X Y Z T X' Y' Z' T' : Nat) (l : List Nat) : qai (nuw (n :: px :: py :: pz :: pt :: a :: b :: c :: d :: X :: Y :: Z :: T :: X' :: Y' :: Z' :: T' :: l)) (qcl 13) = some (pnV X' Y' Z' T') := by kernel_rfl
theorem rowPlus {ν : Nat → Int} {p q r : AV} {px py pz pt qx qy qz qt X Y Z T : Nat} (h : Pure Tryd.prog 70 [ptn px py pz pt, ptn qx qy qz qt, num dNat] (ptn X Y Z T)) (h1 : qag ν p = some (ptn px py pz pt)) (h2 : qag ν q = some (ptn qx qy qz qt)) (h3 : conc ν r = some (ptn X Y Z T)) : Row.Ok ν Tryd.prog ⟨70, [p, q, kN dNat], r⟩ :=
 ⟨[ptn px py pz pt, ptn qx qy qz qt, num dNat], _, by simp [qai, h1, h2, qbk], h3, h⟩
def mlJ (w0 : World) (n px py pz pt i : Nat) (act : Act) (w : World) : Prop :=
 i ≤ 256 ∧ ∃ a b c d, a < qaa ∧ b < qaa ∧ c < qaa ∧ d < qaa ∧ em4 a b c d = qaM (em4 px py pz pt) n (256 - i) ∧ ∀ l, Holds 33 w0 (nuw (n :: px :: py :: pz :: pt :: a :: b :: c :: d :: l)) (mlN ((i : Int) - 1) (qcl 5)) act w
theorem ml_loop (w0 : World) (n px py pz pt : Nat) (hx : px < B4) (hy : py < B4) (hz : pz < B4) (ht : pt < B4) : Tri Tryd.prog 33 (.loop mlBody) (mlJ w0 n px py pz pt 256) (fun ex act w => ex = .exit 0 ∧ mlJ w0 n px py pz pt 0 act w) := by
 refine Tri.loop (P := Tryd.prog) (N := 33) (x := mlBody) (J := fun i => mlJ w0 n px py pz pt i) 256 ?_ ?_
 ·intro i cd hc act w ⟨hi, a, b, c, d, la, lb, lc, ld, hs, hH⟩
  have hH' : ∀ l, Holds 33 w0 (nuw (n :: px :: py :: pz :: pt :: a :: b :: c :: d :: l)) (mlN (.ofNat i) (qcl 5)) act w := by
   intro l
   have := hH l
   have e : (((i + 1 : Nat) : Int) - 1) = .ofNat i := by rw [Int.ofNat_eq_natCast]; omega
   rw [e] at this
   exact this
  have hg := ml_goes i (by omega)
  simp only [mlGo, Bool.and_eq_true] at hg
  have hfl : qaM (em4 px py pz pt) n (256 - i) = if n.testBit i then fadd (fadd (em4 a b c d) (em4 a b c d)) (em4 px py pz pt) else fadd (em4 a b c d) (em4 a b c d) := by
   have e1 : 256 - i = 255 - i + 1 := by omega
   have e2 : 256 - (i + 1) = 255 - i := by omega
   have e3 : 255 - (255 - i) = i := by omega
   rw [e1]
   rw [e2] at hs
   show (if n.testBit (255 - (255 - i)) then fadd (fadd (qaM (em4 px py pz pt) n (255 - i)) (qaM (em4 px py pz pt) n (255 - i))) (em4 px py pz pt) else fadd (qaM (em4 px py pz pt) n (255 - i)) (qaM (em4 px py pz pt) n (255 - i))) = _
   rw [e3, ← hs]
  obtain ⟨X, Y, Z, T, lX, lY, lZ, lT, e1, r1⟩ := plusR_ok a b c d a b c d (pBl la) (pBl lb) (pBl lc) (pBl ld) (pBl la) (pBl lb) (pBl lc) (pBl ld)
  obtain ⟨X', Y', Z', T', lX', lY', lZ', lT', e2, r2⟩ := plusR_ok X Y Z T px py pz pt (pBl lX) (pBl lY) (pBl lZ) (pBl lT) hx hy hz ht
  have q1 : Row.Ok (nuw (n :: px :: py :: pz :: pt :: a :: b :: c :: d :: X :: Y :: Z :: T :: [X', Y', Z', T'])) Tryd.prog ⟨70, [rwQ 5 6 7 8, rwQ 5 6 7 8, kN dNat], rwQ 9 10 11 12⟩ := rowPlus r1 (nuwQ _ 5 6 7 8) (nuwQ _ 5 6 7 8) (nuwQc _ 9 10 11 12)
  have q2 : Row.Ok (nuw (n :: px :: py :: pz :: pt :: a :: b :: c :: d :: X :: Y :: Z :: T :: [X', Y', Z', T'])) Tryd.prog ⟨70, [rwQ 9 10 11 12, rwQ 1 2 3 4, kN dNat], rwQ 13 14 15 16⟩ := rowPlus r2 (nuwQ _ 9 10 11 12) (nuwQ _ 1 2 3 4) (nuwQc _ 13 14 15 16)
  cases hb : n.testBit i
  ·rw [hb] at hfl
   refine ((Tri.run (bitW_hold (by omega) false hb) qak qaf (fun r hr => ?_) hg.2).weak (fun _ _ h => h) (fun ex act w h => ?_)) cd hc act w (hH' (X :: Y :: Z :: T :: [X', Y', Z', T']))
   ·simp only [mlT, Bool.false_eq_true, if_false, List.mem_cons, List.not_mem_nil, or_false] at hr
    subst hr
    exact q1
   ·refine .inl ⟨h.1, by omega, X, Y, Z, T, lX, lY, lZ, lT, e1.trans hfl.symm, fun l => ml_named h.2 (mn0 _ _) (mn1 _ _ _ _ _ _) (mn9 _ _ _ _ _ _ _ _ _ _ _ _ _ _) (mn0 _ _) (mn1 _ _ _ _ _ _) (mn5 _ _ _ _ _ _ _ _ _ _)⟩
  ·rw [hb] at hfl
   refine ((Tri.run (bitW_hold (by omega) true hb) qak qaf (fun r hr => ?_) hg.1).weak (fun _ _ h => h) (fun ex act w h => ?_)) cd hc act w (hH' (X :: Y :: Z :: T :: [X', Y', Z', T']))
   ·simp only [mlT, if_true, List.mem_cons, List.not_mem_nil, or_false] at hr
    rcases hr with rfl | rfl
    ·exact q1
    ·exact q2
   ·refine .inl ⟨h.1, by omega, X', Y', Z', T', lX', lY', lZ', lT', ?_, fun l => ml_named h.2 (mn0 _ _) (mn1 _ _ _ _ _ _) (mn13 _ _ _ _ _ _ _ _ _ _ _ _ _ _ _ _ _ _) (mn0 _ _) (mn1 _ _ _ _ _ _) (mn5 _ _ _ _ _ _ _ _ _ _)⟩
    rw [e2, e1, hfl]
    rfl
 ·intro cd hc act w hJ
  obtain ⟨hi, a, b, c, d, la, lb, lc, ld, hs, hH⟩ := hJ
  refine ((Tri.run (i := mlN (-1) (qcl 5)) (qab _) qak qaf (fun r hr => by cases hr) ml_ends).weak (fun _ _ h => h) (fun ex act w h => ?_)) cd hc act w (hH [])
  exact ⟨by rw [h.1]; simp, h.1, hi, a, b, c, d, la, lb, lc, ld, hs, fun l => ml_named h.2 (mn0 _ _) (mn1 _ _ _ _ _ _) (mn5 _ _ _ _ _ _ _ _ _ _) (mn0 _ _) (mn1 _ _ _ _ _ _) (mn5 _ _ _ _ _ _ _ _ _ _)⟩
/-! from the start to the end -/
def mlInit : List AV := cN 0 ++ (cN 1 ++ (cN 1 ++ cN 0))
def mlnow0 : Now := ⟨[(0, rw4 0), (1, rwQ 1 2 3 4)], [], gmax⟩
def mlnowA : Now := ⟨[(2, .p 64 0), (3, .p 65 0), (4, .p 66 0)], [(64, bN (wel 0)), (65, bQ (qcl 1)), (66, bQ z16)], 67⟩
def mlnowB : Now := ⟨[(2, .p 64 0), (3, .p 65 0), (4, .p 66 0), (5, .p 67 0)], [(64, bN (wel 0)), (65, bQ (qcl 1)), (66, bQ z16), (67, bN (cN dNat))], 68⟩
def mlnowB2 : Now := ⟨mlE0, mlH mlInit, 70⟩
def mlIT : List Row := [⟨69, [], kN dNat⟩]
def mlnowE : Now := ⟨[(4, .p 66 0)], [(66, bQ (qcl 5))], 70⟩
theorem mlgoA : goes qae tree [] 60 2 mlA mlnow0 .normal mlnowA = true := by kernel_rfl
theorem mlgoB : goes qae tree mlIT 60 3 mlB mlnowA .normal mlnowB = true := by kernel_rfl
theorem mlgoB2 : goes qae tree [] 60 3 mlB2 mlnowB .normal mlnowB2 = true := by kernel_rfl
theorem mlgoC : goes qae tree [] 60 2 mlC mlnowB2 .normal (mlN 255 mlInit) = true := by kernel_rfl
theorem mlgoE : goes qae tree [] 60 2 mlE (mlN (-1) (qcl 5)) .ret mlnowE = true := by kernel_rfl
theorem mlIT_ok (ν : Nat → Int) : ∀ r ∈ mlIT, r.Ok ν Tryd.prog := by
 intro r hr
 simp only [mlIT, List.mem_cons, List.not_mem_nil, or_false] at hr
 subst hr
 exact ⟨[], _, rfl, kN_valc _ _, d_ok⟩
theorem mlInit_c (ν : Nat → Int) : qai ν mlInit = some (pnV 0 1 1 0) := by kernel_rfl
theorem mlE_get : (qam mlnowE.H mlnowE.n).get 66 = some (bQ (qcl 5)) := by kernel_rfl
theorem mlOut_c (a b c d : Nat) : qai (nuw [0, 0, 0, 0, 0, a, b, c, d]) (qcl 5) = some (pnV a b c d) := by kernel_rfl
theorem mlE_named {w0 : World} {n px py pz pt a b c d : Nat} {l : List Nat} {act : Act} {w : World} (h : Holds 33 w0 (nuw (n :: px :: py :: pz :: pt :: a :: b :: c :: d :: l)) mlnowE act w) : Holds 33 w0 (nuw [0, 0, 0, 0, 0, a, b, c, d]) mlnowE act w := by
 refine Holds.renumS (e := mlnowE.e) (H := mlnowE.H) (n := mlnowE.n) h (by decide) (fun p hp => ?_) fun p hp => ?_
 ·rcases List.mem_cons.1 hp with rfl | hp
  ·exact .inr ⟨66, 0, rfl, by decide, List.mem_cons_self⟩
  ·cases hp
 ·rcases List.mem_cons.1 hp with rfl | hp
  ·exact ⟨by decide, by decide, bQ (qcl 5), pnV a b c d, mlE_get, rfl, rfl, blkQ_map _, mn5 _ _ _ _ _ _ _ _ _ _, mlOut_c a b c d⟩
  ·cases hp
theorem multiple_run (n px py pz pt : Nat) (hx : px < B4) (hy : py < B4) (hz : pz < B4) (ht : pt < B4) (p : P4) (hp : qaM (em4 px py pz pt) n 256 = p) (w0 : World) : Tri Tryd.prog 33 (.seq mlA (.seq mlB (.seq mlB2 (.seq (.seq mlC (.block 0 (.loop mlBody))) mlE)))) (Holds 33 w0 (nuw [n, px, py, pz, pt]) mlnow0)
  fun ex act w => (ex = .normal ∨ ex = .ret) ∧ Holds 33 w0 (nuw [0, 0, 0, 0, 0, p.x.val, p.y.val, p.z.val, p.t.val]) mlnowE act w := by
 refine Tri.seq (Tri.run (qab _) qak qaf (fun r hr => by cases hr) mlgoA) ?_ (fun ex a w hne h => (hne h.1).elim)
 refine Tri.weak (Pre := Holds 33 w0 (nuw [n, px, py, pz, pt]) mlnowA) ?_ (fun _ _ h => h.2) (fun _ _ _ h => h)
 refine Tri.seq (Tri.run (qab _) qak qaf (mlIT_ok _) mlgoB) ?_ (fun ex a w hne h => (hne h.1).elim)
 refine Tri.weak (Pre := Holds 33 w0 (nuw [n, px, py, pz, pt]) mlnowB) ?_ (fun _ _ h => h.2) (fun _ _ _ h => h)
 refine Tri.seq (Tri.run (qab _) qak qaf (fun r hr => by cases hr) mlgoB2) ?_ (fun ex a w hne h => (hne h.1).elim)
 refine Tri.weak (Pre := Holds 33 w0 (nuw [n, px, py, pz, pt]) mlnowB2) ?_ (fun _ _ h => h.2) (fun _ _ _ h => h)
 refine Tri.seq (Mid := fun ex act w => ex = .normal ∧ mlJ w0 n px py pz pt 0 act w) ?_ ?_ (fun ex a w hne h => (hne h.1).elim)
 ·refine Tri.seq (Tri.run (qab _) qak qaf (fun r hr => by cases hr) mlgoC) ?_ (fun ex a w hne h => (hne h.1).elim)
  refine Tri.weak (Pre := mlJ w0 n px py pz pt 256) ?_ (fun act w h => ?_) (fun _ _ _ h => h)
  ·refine Tri.block (ml_loop w0 n px py pz pt hx hy hz ht) (fun a w h => by cases h.1) (fun act w h => ⟨rfl, h.2⟩) (fun j a w hj h => ?_) (fun a w h => by cases h.1)
   have := h.1
   simp only [Ex.exit.injEq] at this
   exact (hj this).elim
  ·refine ⟨Nat.le_refl _, 0, 1, 1, 0, by decide, by decide, by decide, by decide, em4_zero.trans (ftimes_0 _ _).symm, fun l => ?_⟩
   exact ml_named h.2 (mn0 _ _) (mn1 _ _ _ _ _ _) (mlInit_c _) (mn0 _ _) (mn1 _ _ _ _ _ _) (mn5 _ _ _ _ _ _ _ _ _ _)
 ·intro cd hc act w ⟨_, hi, a, b, c, d, la, lb, lc, ld, hs, hH⟩
  obtain ⟨ea, eb, ec, ed⟩ := em4_val la lb lc ld (hs.trans hp)
  rw [← ea, ← eb, ← ec, ← ed]
  exact ((Tri.run (qab _) qak qaf (fun r hr => by cases hr) mlgoE).weak (fun _ _ h => h) (fun ex act w h => ⟨.inr h.1, mlE_named h.2⟩)) cd hc act w (hH [])
theorem ml_args : ∀ p ∈ mlnow0.e, ([rw4 0, rwQ 1 2 3 4] : List AV)[p.1]? = some p.2 := by
 intro p hp
 simp only [mlnow0, List.mem_cons, List.not_mem_nil, or_false] at hp
 rcases hp with rfl | rfl <;> rfl
theorem ml_ins (n px py pz pt : Nat) : qai (nuw [n, px, py, pz, pt]) [rw4 0, rwQ 1 2 3 4] = some [num n, ptn px py pz pt] := by simp [qai, nuwR, nuwQ]
theorem ml_res : resA (trL mlnowE.e) (qam mlnowE.H mlnowE.n) [.c 4 (some 16)] = some (rwQ 5 6 7 8) := by kernel_rfl
theorem ml_tab : tree.get 52 = some t52 := by kernel_rfl
theorem multiple_ok (n px py pz pt : Nat) (hx : px < B4) (hy : py < B4) (hz : pz < B4) (ht : pt < B4) (p : P4) (hp : qaM (em4 px py pz pt) n 256 = p) : Pure Tryd.prog 52 [num n, ptn px py pz pt] (ptn p.x.val p.y.val p.z.val p.t.val) :=
 pure_tri (ν := nuw [n, px, py, pz, pt]) (ν' := nuw [0, 0, 0, 0, 0, p.x.val, p.y.val, p.z.val, p.t.val]) (args := [rw4 0, rwQ 1 2 3 4]) (r := rwQ 5 6 7 8) (o := mlnowE) tree qaf ml_tab ml_shape (ml_ins n px py pz pt) (by decide) mlnow0.e ml_args (multiple_run n px py pz pt hx hy hz ht p hp) ml_res (nuwQc [0, 0, 0, 0, 0, p.x.val, p.y.val, p.z.val, p.t.val] 5 6 7 8)
end Go.Proofs.YtheidgcgdkmmiaaDoor
