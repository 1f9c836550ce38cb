/-
 THE CURVE: what curve's add and times answer. Own work.
-/
import Derived.Test.YtheidgcgdkmmiaaDoorHc
import Derived.Test.YtheidgcgdkmmiaaDoorShG3
namespace Go.Proofs.YtheidgcgdkmmiaaDoor
open Go.Sh
set_option maxRecDepth 100000
/-! The package's variables. -/
def twD : Nat := 16295367250680780974490674513165176452449235426866156013048779062215315747161
def glB : Gl := [(5, ⟨(byL twD).map fun n => .i .u8 (.c (.ofNat n)), 22, true⟩), (2, ⟨(byL 15112221349535400772501151409588531511454012693041857206046113283949847762202).map fun n => .i .u8 (.c (.ofNat n)), 22, true⟩), (3, ⟨(byL 46316835694926478169428394003475163141307993866256225615783033603165251855960).map fun n => .i .u8 (.c (.ofNat n)), 22, true⟩)]
theorem pureG_up {P : Program} {gl gl' : Gl} {f : Nat} {us : List Value} {u : Value} (hs : ∀ p ∈ gl, p ∈ gl') (h : qa4 P gl f us u) : qa4 P gl' f us u := ⟨h.1, fun w hw => h.2 w fun p hp => hw p (hs p hp)⟩
theorem OkG_up {P : Program} {gl gl' : Gl} {ν : Nat → Int} {r : Row} (hs : ∀ p ∈ gl, p ∈ gl') (h : r.OkG ν P gl) : r.OkG ν P gl' := let ⟨us, u, h1, h2, h3⟩ := h; ⟨us, u, h1, h2, pureG_up hs h3⟩
theorem known8 (ν : Nat → Int) : ∀ l : List Nat, qai ν (l.map fun n => AV.i .u8 (.c (.ofNat n))) = some (l.map u8)
 | [] => rfl
 | a :: r => by
   show (match qag ν (.i .u8 (.c (.ofNat a))), qai ν (r.map fun n => AV.i .u8 (.c (.ofNat n))) with | some v, some l => some (v :: l) | _, _ => none) = _
   rw [known8 ν r]
   rfl
theorem known64 (ν : Nat → Int) : ∀ l : List Nat, qai ν (l.map fun n => AV.i .u64 (.c (.ofNat n))) = some (l.map u64)
 | [] => rfl
 | a :: r => by
   show (match qag ν (.i .u64 (.c (.ofNat a))), qai ν (r.map fun n => AV.i .u64 (.c (.ofNat n))) with | some v, some l => some (v :: l) | _, _ => none) = _
   rw [known64 ν r]
   rfl
theorem glB_ok : GlOk glB := by
 intro p hp
 simp only [glB, List.mem_cons, List.not_mem_nil, or_false] at hp
 rcases hp with rfl | rfl | rfl
 ·exact ⟨by decide, by decide, _, fun ν => known8 ν _⟩
 ·exact ⟨by decide, by decide, _, fun ν => known8 ν _⟩
 ·exact ⟨by decide, by decide, _, fun ν => known8 ν _⟩
/-! Points. -/
def ptL (a b c d : Nat) : List Nat := byL a ++ (byL b ++ (byL c ++ byL d))
def ptv (a b c d : Nat) : Value := .agg ((ptL a b c d).map u8).toArray
def rwP (i j k l : Nat) : AV := .ag (cel i ++ (cel j ++ (cel k ++ cel l)))
theorem cel_conc {ν : Nat → Int} {j x : Nat} (h : ∀ i, i < 32 → ν (32 * j + i) = (((byL x).getD i 0 : Nat) : Int)) (tl : List AV) (tv : List Value) (ht : qap ν tl = some tv) : qap ν (cel j ++ tl) = some ((byL x).map u8 ++ tv) := mid_conc (ν := ν) (j := 32 * j) 32 (byL x) (fun i hi => h i hi) (qaX _) _ _ ht
theorem rwP_conc {ν : Nat → Int} {i j k l a b c d : Nat} (h1 : ∀ m, m < 32 → ν (32 * i + m) = (((byL a).getD m 0 : Nat) : Int)) (h2 : ∀ m, m < 32 → ν (32 * j + m) = (((byL b).getD m 0 : Nat) : Int)) (h3 : ∀ m, m < 32 → ν (32 * k + m) = (((byL c).getD m 0 : Nat) : Int)) (h4 : ∀ m, m < 32 → ν (32 * l + m) = (((byL d).getD m 0 : Nat) : Int)) :
  qap ν (cel i ++ (cel j ++ (cel k ++ cel l))) = some ((ptL a b c d).map u8) := by
 have e4 := cel_conc h4 [] [] rfl
 rw [List.append_nil, List.append_nil] at e4
 have e := cel_conc h1 _ _ (cel_conc h2 _ _ (cel_conc h3 _ _ e4))
 rw [e]
 simp [ptL]
theorem nubP (L : List Nat) (i j k l : Nat) : qag (nub L) (rwP i j k l) = some (ptv (L.getD i 0) (L.getD j 0) (L.getD k 0) (L.getD l 0)) := by
 have h := rwP_conc (qbj L i) (qbj L j) (qbj L k) (qbj L l)
 show (qap (nub L) (cel i ++ (cel j ++ (cel k ++ cel l)))).map (fun vs => Value.agg vs.toArray) = _
 rw [h]
 rfl
theorem nubPc (L : List Nat) (i j k l : Nat) : conc (nub L) (rwP i j k l) = some (ptv (L.getD i 0) (L.getD j 0) (L.getD k 0) (L.getD l 0)) := nubP L i j k l
/-! add -/
theorem em_twD : em twD = 2 * dE := by decide +kernel
def addPT : List Row := [⟨73, [rw8 1, rw8 0], rw8 8⟩, ⟨73, [rw8 5, rw8 4], rw8 9⟩, ⟨72, [rw8 8, rw8 9], rw8 10⟩, ⟨75, [rw8 1, rw8 0], rw8 11⟩, ⟨75, [rw8 5, rw8 4], rw8 12⟩, ⟨72, [rw8 11, rw8 12], rw8 13⟩, ⟨72, [rw8 3, kB twD], rw8 14⟩, ⟨72, [rw8 14, rw8 7], rw8 15⟩, ⟨72, [rw8 2, rw8 6], rw8 16⟩, ⟨75, [rw8 16, rw8 16], rw8 17⟩, ⟨73, [rw8 13, rw8 10], rw8 18⟩, ⟨73, [rw8 17, rw8 15], rw8 19⟩, ⟨75, [rw8 17, rw8 15], rw8 20⟩, ⟨75, [rw8 13, rw8 10], rw8 21⟩, ⟨72, [rw8 18, rw8 19], rw8 22⟩, ⟨72, [rw8 20, rw8 21], rw8 23⟩, ⟨72, [rw8 19, rw8 20], rw8 24⟩, ⟨72, [rw8 18, rw8 21], rw8 25⟩]
theorem addP_says : saysG qae tree addPT glB [] 200 4 61 [rwP 0 1 2 3, rwP 4 5 6 7] (rwP 22 23 24 25) = true := by kernel_rfl
theorem addP_core (px py pz pt qx qy qz qt o0 o1 a o2 o3 b o4 c zz tw e f g h X Y Z T : Nat) (lpx : px < B4) (lpy : py < B4) (lpz : pz < B4) (lpt : pt < B4) (lqx : qx < B4) (lqy : qy < B4) (lqz : qz < B4) (lqt : qt < B4) (ho0 : o0 = (py + (qaa - px % qaa)) % qaa) (ho1 : o1 = (qy + (qaa - qx % qaa)) % qaa) (ha : a = o0 * o1 % qaa) (ho2 : o2 = (py + px) % qaa) (ho3 : o3 = (qy + qx) % qaa) (hb : b = o2 * o3 % qaa) (ho4 : o4 = pt * twD % qaa) (hc : c = o4 * qt % qaa) (hzz : zz = pz * qz % qaa) (htw : tw = (zz + zz) % qaa) (he : e = (b + (qaa - a % qaa)) % qaa) (hf : f = (tw + (qaa - c % qaa)) % qaa) (hg : g = (tw + c) % qaa) (hh : h = (b + a) % qaa) (hX : X = e * f % qaa) (hY : Y = g * h % qaa) (hZ : Z = f * g % qaa) (hT : T = e * h % qaa) : qa4 Tryd.prog glB 61 [ptv px py pz pt, ptv qx qy qz qt] (ptv X Y Z T) := by
 have lo0 : o0 < B4 := ho0 ▸ qah _
 have lo1 : o1 < B4 := ho1 ▸ qah _
 have la : a < B4 := ha ▸ qah _
 have lo2 : o2 < B4 := ho2 ▸ qah _
 have lo3 : o3 < B4 := ho3 ▸ qah _
 have lb : b < B4 := hb ▸ qah _
 have lo4 : o4 < B4 := ho4 ▸ qah _
 have lc : c < B4 := hc ▸ qah _
 have lzz : zz < B4 := hzz ▸ qah _
 have ltw : tw < B4 := htw ▸ qah _
 have le : e < B4 := he ▸ qah _
 have lf : f < B4 := hf ▸ qah _
 have lg : g < B4 := hg ▸ qah _
 have lh : h < B4 := hh ▸ qah _
 have lX : X < B4 := hX ▸ qah _
 have lY : Y < B4 := hY ▸ qah _
 have lZ : Z < B4 := hZ ▸ qah _
 have lT : T < B4 := hT ▸ qah _
 refine qaY (ν := nub [px, py, pz, pt, qx, qy, qz, qt, o0, o1, a, o2, o3, b, o4, c, zz, tw, e, f, g, h, X, Y, Z, T]) (args := [rwP 0 1 2 3, rwP 4 5 6 7]) (qab _) qak qaf glB_ok (fun r hr => ?_) (fun r hr => by cases hr) addP_says (by simp [qai, nubP]) (nubPc [px, py, pz, pt, qx, qy, qz, qt, o0, o1, a, o2, o3, b, o4, c, zz, tw, e, f, g, h, X, Y, Z, T] 22 23 24 25)
 simp only [addPT, List.mem_cons, List.not_mem_nil, or_false] at hr
 rcases hr with rfl | rfl | rfl | rfl | rfl | rfl | rfl | rfl | rfl | rfl | rfl | rfl | rfl | rfl | rfl | rfl | rfl | rfl
 ·exact rowSubB lpy lpx (qax _ 1) (qax _ 0) (by rw [← ho0]; exact qaN _ 8)
 ·exact rowSubB lqy lqx (qax _ 5) (qax _ 4) (by rw [← ho1]; exact qaN _ 9)
 ·exact qba lo0 lo1 (qax _ 8) (qax _ 9) (by rw [← ha]; exact qaN _ 10)
 ·exact rowAddB lpy lpx (qax _ 1) (qax _ 0) (by rw [← ho2]; exact qaN _ 11)
 ·exact rowAddB lqy lqx (qax _ 5) (qax _ 4) (by rw [← ho3]; exact qaN _ 12)
 ·exact qba lo2 lo3 (qax _ 11) (qax _ 12) (by rw [← hb]; exact qaN _ 13)
 ·exact qba lpt (by decide) (qax _ 3) (qbz _ twD) (by rw [← ho4]; exact qaN _ 14)
 ·exact qba lo4 lqt (qax _ 14) (qax _ 7) (by rw [← hc]; exact qaN _ 15)
 ·exact qba lpz lqz (qax _ 2) (qax _ 6) (by rw [← hzz]; exact qaN _ 16)
 ·exact rowAddB lzz lzz (qax _ 16) (qax _ 16) (by rw [← htw]; exact qaN _ 17)
 ·exact rowSubB lb la (qax _ 13) (qax _ 10) (by rw [← he]; exact qaN _ 18)
 ·exact rowSubB ltw lc (qax _ 17) (qax _ 15) (by rw [← hf]; exact qaN _ 19)
 ·exact rowAddB ltw lc (qax _ 17) (qax _ 15) (by rw [← hg]; exact qaN _ 20)
 ·exact rowAddB lb la (qax _ 13) (qax _ 10) (by rw [← hh]; exact qaN _ 21)
 ·exact qba le lf (qax _ 18) (qax _ 19) (by rw [← hX]; exact qaN _ 22)
 ·exact qba lg lh (qax _ 20) (qax _ 21) (by rw [← hY]; exact qaN _ 23)
 ·exact qba lf lg (qax _ 19) (qax _ 20) (by rw [← hZ]; exact qaN _ 24)
 ·exact qba le lh (qax _ 18) (qax _ 21) (by rw [← hT]; exact qaN _ 25)
theorem addP_field {px py pz pt qx qy qz qt o0 o1 a o2 o3 b o4 c zz tw e f g h X Y Z T : Nat} (ho0 : o0 = (py + (qaa - px % qaa)) % qaa) (ho1 : o1 = (qy + (qaa - qx % qaa)) % qaa) (ha : a = o0 * o1 % qaa) (ho2 : o2 = (py + px) % qaa) (ho3 : o3 = (qy + qx) % qaa) (hb : b = o2 * o3 % qaa) (ho4 : o4 = pt * twD % qaa) (hc : c = o4 * qt % qaa) (hzz : zz = pz * qz % qaa) (htw : tw = (zz + zz) % qaa) (he : e = (b + (qaa - a % qaa)) % qaa) (hf : f = (tw + (qaa - c % qaa)) % qaa) (hg : g = (tw + c) % qaa) (hh : h = (b + a) % qaa) (hX : X = e * f % qaa) (hY : Y = g * h % qaa) (hZ : Z = f * g % qaa) (hT : T = e * h % qaa) : (⟨em X, em Y, em Z, em T⟩ : P4) = fadd ⟨em px, em py, em pz, em pt⟩ ⟨em qx, em qy, em qz, em qt⟩ := by
 have fo0 : em o0 = em py - em px := by rw [ho0, em_sub]
 have fo1 : em o1 = em qy - em qx := by rw [ho1, em_sub]
 have fa : em a = em o0 * em o1 := by rw [ha, qaW]
 have fo2 : em o2 = em py + em px := by rw [ho2, em_add]
 have fo3 : em o3 = em qy + em qx := by rw [ho3, em_add]
 have fb : em b = em o2 * em o3 := by rw [hb, qaW]
 have fo4 : em o4 = em pt * (2 * dE) := by rw [ho4, qaW, em_twD]
 have fc : em c = em o4 * em qt := by rw [hc, qaW]
 have fzz : em zz = em pz * em qz := by rw [hzz, qaW]
 have ftw : em tw = em zz + em zz := by rw [htw, em_add]
 have fe : em e = em b - em a := by rw [he, em_sub]
 have ff : em f = em tw - em c := by rw [hf, em_sub]
 have fg : em g = em tw + em c := by rw [hg, em_add]
 have fh : em h = em b + em a := by rw [hh, em_add]
 have fX : em X = em e * em f := by rw [hX, qaW]
 have fY : em Y = em g * em h := by rw [hY, qaW]
 have fZ : em Z = em f * em g := by rw [hZ, qaW]
 have fT : em T = em e * em h := by rw [hT, qaW]
 rw [fX, fY, fZ, fT, fe, ff, fg, fh, ftw, fzz, fc, fo4, fb, fa, fo0, fo1, fo2, fo3]
 rfl
theorem pBl {x : Nat} (h : x < qaa) : x < B4 := Nat.lt_trans h (by decide)
def em4 (a b c d : Nat) : P4 := ⟨em a, em b, em c, em d⟩
theorem addP_ok (px py pz pt qx qy qz qt : Nat) (lpx : px < B4) (lpy : py < B4) (lpz : pz < B4) (lpt : pt < B4) (lqx : qx < B4) (lqy : qy < B4) (lqz : qz < B4) (lqt : qt < B4) : ∃ X Y Z T, X < qaa ∧ Y < qaa ∧ Z < qaa ∧ T < qaa ∧ em4 X Y Z T = fadd (em4 px py pz pt) (em4 qx qy qz qt) ∧ qa4 Tryd.prog glB 61 [ptv px py pz pt, ptv qx qy qz qt] (ptv X Y Z T) :=
 ⟨_, _, _, _, qar _, qar _, qar _, qar _, addP_field rfl rfl rfl rfl rfl rfl rfl rfl rfl rfl rfl rfl rfl rfl rfl rfl rfl rfl, addP_core px py pz pt qx qy qz qt _ _ _ _ _ _ _ _ _ _ _ _ _ _ _ _ _ _ lpx lpy lpz lpt lqx lqy lqz lqt rfl rfl rfl rfl rfl rfl rfl rfl rfl rfl rfl rfl rfl rfl rfl rfl rfl rfl⟩
/-! its pieces -/
def tmp0 : IC := t46.body
def tmA : IC := tmp0.sub [false]
def tmB : IC := tmp0.sub [true, false]
def tmC : IC := tmp0.sub [true, true, false, false]
def tmBody : IC := tmp0.sub [true, true, false, true, false, false]
def tmE : IC := tmp0.sub [true, true, true]
theorem tm_shape : t46 = ⟨.seq tmA (.seq tmB (.seq (.seq tmC (.block 0 (.loop tmBody))) tmE)), [.c 4 (some 128)], 30⟩ := by kernel_rfl
def b32 (cs : List AV) : ABlk := ⟨cs, 22, true⟩
def bP (cs : List AV) : ABlk := ⟨cs, 62, true⟩
def pcl (j : Nat) : List AV := cel j ++ (cel (j + 1) ++ (cel (j + 2) ++ cel (j + 3)))
def z128 : List AV := List.replicate 128 (.i .u8 (.c (.ofNat 0)))
def c8 (x : Nat) : List AV := (byL x).map fun n => .i .u8 (.c (.ofNat n))
def tmE0 : List (Nat × AV) := [(2, .p 64 0), (3, .p 65 0), (4, .p 66 0), (5, .p 72 0)]
def tmH (cs : List AV) : List (Nat × ABlk) := [(64, b32 (cel 0)), (65, bP (pcl 1)), (66, bP z128), (72, bP cs)]
def tmN (k : Int) (cs : List AV) : Now := ⟨(6, .i .i64 (.c k)) :: tmE0, tmH cs, 73⟩
def bitB (k : Nat) (b : Bool) : Facts := ⟨[], [(.eql, .e .and .u8 (.e .shr .u8 (.s (k / 8)) (.c (.ofNat (k % 8)))) (.c (.ofNat 1)), .c (.ofNat 1), b)], []⟩
def tmT (b : Bool) : List Row := if b then [⟨61, [rwP 5 6 7 8, rwP 5 6 7 8], rwP 9 10 11 12⟩, ⟨61, [rwP 9 10 11 12, rwP 1 2 3 4], rwP 13 14 15 16⟩] else [⟨61, [rwP 5 6 7 8, rwP 5 6 7 8], rwP 9 10 11 12⟩]
noncomputable def tmGo (k : Nat) : Bool := goesG (bitB k true) tree [] glB (tmT true) 60 3 tmBody (tmN (.ofNat k) (pcl 5)) .normal (tmN ((k : Int) - 1) (pcl 13)) && goesG (bitB k false) tree [] glB (tmT false) 60 3 tmBody (tmN (.ofNat k) (pcl 5)) .normal (tmN ((k : Int) - 1) (pcl 9))
theorem tm_goes0 : (List.range 64).all (fun k => tmGo k) = true := by kernel_rfl
theorem tm_goes1 : (List.range 64).all (fun k => tmGo (64 + k)) = true := by kernel_rfl
theorem tm_goes2 : (List.range 64).all (fun k => tmGo (128 + k)) = true := by kernel_rfl
theorem tm_goes3 : (List.range 64).all (fun k => tmGo (192 + k)) = true := by kernel_rfl
theorem tm_goes (k : Nat) (h : k < 256) : tmGo k = true := by
 by_cases h0 : k < 64
 ·exact List.all_eq_true.1 tm_goes0 k (List.mem_range.2 h0)
 ·by_cases h1 : k < 128
  ·have := List.all_eq_true.1 tm_goes1 (k - 64) (List.mem_range.2 (by omega))
   rwa [show 64 + (k - 64) = k by omega] at this
  ·by_cases h2 : k < 192
   ·have := List.all_eq_true.1 tm_goes2 (k - 128) (List.mem_range.2 (by omega))
    rwa [show 128 + (k - 128) = k by omega] at this
   ·have := List.all_eq_true.1 tm_goes3 (k - 192) (List.mem_range.2 (by omega))
    rwa [show 192 + (k - 192) = k by omega] at this
theorem tm_ends : goesG qae tree [] glB [] 60 2 tmBody (tmN (-1) (pcl 5)) (.exit 0) (tmN (-1) (pcl 5)) = true := by kernel_rfl
theorem bitB_hold {k i : Nat} {l : List Nat} (hi : i < 256) (b : Bool) (hb : k.testBit i = b) : (bitB i b).Hold (nub (k :: l)) := by
 refine ⟨fun p hp => (by cases hp), fun p hp => ?_, fun p hp => by cases hp⟩
 simp only [bitB, List.mem_cons, List.not_mem_nil, or_false] at hp
 subst hp
 show (qaj .and .u8 (qaj .shr .u8 (nub (k :: l) (i / 8)) ((i % 8 : Nat) : Int)) ((1 : Nat) : Int) == ((1 : Nat) : Int)) = b
 have e1 : nub (k :: l) (i / 8) = ((k / 2 ^ (8 * (i / 8)) % 2 ^ 8 : Nat) : Int) := by
  unfold nub
  have h0 : i / 8 / 32 = 0 := by omega
  have h1 : i / 8 % 32 = i / 8 := by omega
  rw [h0, h1, List.getD_cons_zero, byL_get k (i / 8) (by omega)]
 have hm : i % 8 < 8 := Nat.mod_lt _ (by decide)
 have l1 : k / 2 ^ (8 * (i / 8)) % 2 ^ 8 / 2 ^ (i % 8) < 256 := Nat.lt_of_le_of_lt (Nat.div_le_self _ _) (Nat.mod_lt _ (by decide))
 rw [e1, a_shr .u8 _ (i % 8) (Nat.le_of_lt hm), a_and8 _ 1 l1 (by decide), Nat.and_one_is_mod, bit_in _ _ _ _ hm, show 8 * (i / 8) + i % 8 = i by omega, ← hb, Nat.testBit_eq_decide_div_mod_eq]
 by_cases h : k / 2 ^ i % 2 = 1
 ·simp only [h, decide_true]; rfl
 ·have : k / 2 ^ i % 2 = 0 := by omega
  simp only [this]; decide
theorem blk32_map (cs : List AV) : (b32 cs).elem < qac := by show 22 < qac; decide
theorem blkP_map (cs : List AV) : (bP cs).elem < qac := by show 62 < qac; decide
theorem tmget (cs : List AV) : (qam (tmH cs) 73).get 64 = some (b32 (cel 0)) ∧ (qam (tmH cs) 73).get 65 = some (bP (pcl 1)) ∧ (qam (tmH cs) 73).get 66 = some (bP z128) ∧ (qam (tmH cs) 73).get 72 = some (bP cs) := ⟨by kernel_rfl, by kernel_rfl, by kernel_rfl, by kernel_rfl⟩
theorem tm_named {w0 : World} {n : Nat} {ν ν' : Nat → Int} {i : Int} {cs : List AV} {us ps : List Value} {act : Act} {w : World} (h : HoldsG 30 w0 ν glB (tmN i cs) act w)
  (c0 : qai ν (cel 0) = some (celV n)) (c1 : qai ν (pcl 1) = some ps) (cc : qai ν cs = some us) (c0' : qai ν' (cel 0) = some (celV n)) (c1' : qai ν' (pcl 1) = some ps) (cc' : qai ν' (pcl 5) = some us) : HoldsG 30 w0 ν' glB (tmN i (pcl 5)) act w := by
 obtain ⟨g0, g1, g2, g3⟩ := tmget cs
 refine HoldsG.renumS (e := (tmN i cs).e) (H := tmH cs) (n := 73) glB_ok h (by decide) (fun p hp => ?_) fun p hp => ?_
 ·simp only [tmE0, List.mem_cons, List.not_mem_nil, or_false] at hp
  rcases hp with rfl | rfl | rfl | rfl | rfl
  ·exact .inl ⟨.i .i64 (.c i), .int .i64 i, by simp [tmN], rfl, rfl⟩
  ·exact .inr ⟨64, 0, rfl, by decide, by simp [tmN, tmE0]⟩
  ·exact .inr ⟨65, 0, rfl, by decide, by simp [tmN, tmE0]⟩
  ·exact .inr ⟨66, 0, rfl, by decide, by simp [tmN, tmE0]⟩
  ·exact .inr ⟨72, 0, rfl, by decide, by simp [tmN, tmE0]⟩
 ·simp only [tmH, List.mem_cons, List.not_mem_nil, or_false] at hp
  rcases hp with rfl | rfl | rfl | rfl
  ·exact ⟨by decide, by decide, _, _, g0, rfl, rfl, blk32_map _, c0, c0'⟩
  ·exact ⟨by decide, by decide, _, _, g1, rfl, rfl, blkP_map _, c1, c1'⟩
  ·exact ⟨by decide, by decide, _, List.replicate 128 (u8 0), g2, rfl, rfl, blkP_map _, by kernel_rfl, by kernel_rfl⟩
  ·exact ⟨by decide, by decide, _, _, g3, rfl, rfl, blkP_map _, cc, cc'⟩
def ptV (a b c d : Nat) : List Value := (ptL a b c d).map u8
theorem tn0 (n : Nat) (l : List Nat) : qai (nub (n :: l)) (cel 0) = some (celV n) := by kernel_rfl
theorem tn1 (n px py pz pt : Nat) (l : List Nat) : qai (nub (n :: px :: py :: pz :: pt :: l)) (pcl 1) = some (ptV px py pz pt) := by kernel_rfl
theorem tn5 (n px py pz pt a b c d : Nat) (l : List Nat) : qai (nub (n :: px :: py :: pz :: pt :: a :: b :: c :: d :: l)) (pcl 5) = some (ptV a b c d) := by kernel_rfl
theorem tn9 (n px py pz pt a b c d X Y Z T : Nat) (l : List Nat) : qai (nub (n :: px :: py :: pz :: pt :: a :: b :: c :: d :: X :: Y :: Z :: T :: l)) (pcl 9) = some (ptV X Y Z T) := by kernel_rfl
theorem tn13 (n px py pz pt a b c d X Y Z T X' Y' Z' T' : Nat) (l : List Nat) : qai (nub (n :: px :: py :: pz :: pt :: a :: b :: c :: d :: X :: Y :: Z :: T :: X' :: Y' :: Z' :: T' :: l)) (pcl 13) = some (ptV X' Y' Z' T') := by kernel_rfl
theorem rowAddG {ν : Nat → Int} {p q r : AV} {px py pz pt qx qy qz qt X Y Z T : Nat} (h : qa4 Tryd.prog glB 61 [ptv px py pz pt, ptv qx qy qz qt] (ptv X Y Z T)) (h1 : qag ν p = some (ptv px py pz pt)) (h2 : qag ν q = some (ptv qx qy qz qt)) (h3 : conc ν r = some (ptv X Y Z T)) : Row.OkG ν Tryd.prog glB ⟨61, [p, q], r⟩ :=
 ⟨[ptv px py pz pt, ptv qx qy qz qt], _, by simp [qai, h1, h2], h3, h⟩
def tmJ (w0 : World) (n px py pz pt i : Nat) (act : Act) (w : World) : Prop :=
 i ≤ 256 ∧ ∃ a b c d, a < qaa ∧ b < qaa ∧ c < qaa ∧ d < qaa ∧ em4 a b c d = qaM (em4 px py pz pt) n (256 - i) ∧ ∀ l, HoldsG 30 w0 (nub (n :: px :: py :: pz :: pt :: a :: b :: c :: d :: l)) glB (tmN ((i : Int) - 1) (pcl 5)) act w
theorem tm_loop (w0 : World) (n px py pz pt : Nat) (hx : px < B4) (hy : py < B4) (hz : pz < B4) (ht : pt < B4) : Tri Tryd.prog 30 (.loop tmBody) (tmJ w0 n px py pz pt 256) (fun ex act w => ex = .exit 0 ∧ tmJ w0 n px py pz pt 0 act w) := by
 refine Tri.loop (P := Tryd.prog) (N := 30) (x := tmBody) (J := fun i => tmJ w0 n px py pz pt i) 256 ?_ ?_
 ·intro i cd hc act w ⟨hi, a, b, c, d, la, lb, lc, ld, hs, hH⟩
  have hH' : ∀ l, HoldsG 30 w0 (nub (n :: px :: py :: pz :: pt :: a :: b :: c :: d :: l)) glB (tmN (.ofNat i) (pcl 5)) act w := by
   intro l
   have := hH l
   have e : (((i + 1 : Nat) : Int) - 1) = .ofNat i := by rw [Int.ofNat_eq_natCast]; omega
   rw [e] at this
   exact this
  have hg := tm_goes i (by omega)
  simp only [tmGo, Bool.and_eq_true] at hg
  have hfl : qaM (em4 px py pz pt) n (256 - i) = if n.testBit i then fadd (fadd (em4 a b c d) (em4 a b c d)) (em4 px py pz pt) else fadd (em4 a b c d) (em4 a b c d) := by
   have e1 : 256 - i = 255 - i + 1 := by omega
   have e2 : 256 - (i + 1) = 255 - i := by omega
   have e3 : 255 - (255 - i) = i := by omega
   rw [e1]
   rw [e2] at hs
   show (if n.testBit (255 - (255 - i)) then fadd (fadd (qaM (em4 px py pz pt) n (255 - i)) (qaM (em4 px py pz pt) n (255 - i))) (em4 px py pz pt) else fadd (qaM (em4 px py pz pt) n (255 - i)) (qaM (em4 px py pz pt) n (255 - i))) = _
   rw [e3, ← hs]
  obtain ⟨X, Y, Z, T, lX, lY, lZ, lT, e1, r1⟩ := addP_ok a b c d a b c d (pBl la) (pBl lb) (pBl lc) (pBl ld) (pBl la) (pBl lb) (pBl lc) (pBl ld)
  obtain ⟨X', Y', Z', T', lX', lY', lZ', lT', e2, r2⟩ := addP_ok X Y Z T px py pz pt (pBl lX) (pBl lY) (pBl lZ) (pBl lT) hx hy hz ht
  have q1 : Row.OkG (nub (n :: px :: py :: pz :: pt :: a :: b :: c :: d :: X :: Y :: Z :: T :: [X', Y', Z', T'])) Tryd.prog glB ⟨61, [rwP 5 6 7 8, rwP 5 6 7 8], rwP 9 10 11 12⟩ := rowAddG r1 (nubP _ 5 6 7 8) (nubP _ 5 6 7 8) (nubPc _ 9 10 11 12)
  have q2 : Row.OkG (nub (n :: px :: py :: pz :: pt :: a :: b :: c :: d :: X :: Y :: Z :: T :: [X', Y', Z', T'])) Tryd.prog glB ⟨61, [rwP 9 10 11 12, rwP 1 2 3 4], rwP 13 14 15 16⟩ := rowAddG r2 (nubP _ 9 10 11 12) (nubP _ 1 2 3 4) (nubPc _ 13 14 15 16)
  cases hb : n.testBit i
  ·rw [hb] at hfl
   refine ((Tri.runG (bitB_hold (by omega) false hb) qak qaf glB_ok (fun r hr => by cases hr) (fun r hr => ?_) hg.2).weak (fun _ _ h => h) (fun ex act w h => ?_)) cd hc act w (hH' (X :: Y :: Z :: T :: [X', Y', Z', T']))
   ·simp only [tmT, Bool.false_eq_true, if_false, List.mem_cons, List.not_mem_nil, or_false] at hr
    subst hr
    exact q1
   ·refine .inl ⟨h.1, by omega, X, Y, Z, T, lX, lY, lZ, lT, e1.trans hfl.symm, fun l => tm_named h.2 (tn0 _ _) (tn1 _ _ _ _ _ _) (tn9 _ _ _ _ _ _ _ _ _ _ _ _ _ _) (tn0 _ _) (tn1 _ _ _ _ _ _) (tn5 _ _ _ _ _ _ _ _ _ _)⟩
  ·rw [hb] at hfl
   refine ((Tri.runG (bitB_hold (by omega) true hb) qak qaf glB_ok (fun r hr => by cases hr) (fun r hr => ?_) hg.1).weak (fun _ _ h => h) (fun ex act w h => ?_)) cd hc act w (hH' (X :: Y :: Z :: T :: [X', Y', Z', T']))
   ·simp only [tmT, if_true, List.mem_cons, List.not_mem_nil, or_false] at hr
    rcases hr with rfl | rfl
    ·exact q1
    ·exact q2
   ·refine .inl ⟨h.1, by omega, X', Y', Z', T', lX', lY', lZ', lT', ?_, fun l => tm_named h.2 (tn0 _ _) (tn1 _ _ _ _ _ _) (tn13 _ _ _ _ _ _ _ _ _ _ _ _ _ _ _ _ _ _) (tn0 _ _) (tn1 _ _ _ _ _ _) (tn5 _ _ _ _ _ _ _ _ _ _)⟩
    rw [e2, e1, hfl]
    rfl
 ·intro cd hc act w hJ
  obtain ⟨hi, a, b, c, d, la, lb, lc, ld, hs, hH⟩ := hJ
  refine ((Tri.runG (i := tmN (-1) (pcl 5)) (qab _) qak qaf glB_ok (fun r hr => by cases hr) (fun r hr => by cases hr) tm_ends).weak (fun _ _ h => h) (fun ex act w h => ?_)) cd hc act w (hH [])
  exact ⟨by rw [h.1]; simp, h.1, hi, a, b, c, d, la, lb, lc, ld, hs, fun l => tm_named h.2 (tn0 _ _) (tn1 _ _ _ _ _ _) (tn5 _ _ _ _ _ _ _ _ _ _) (tn0 _ _) (tn1 _ _ _ _ _ _) (tn5 _ _ _ _ _ _ _ _ _ _)⟩
/-! from the start to the end -/
def tmInit : List AV := c8 0 ++ (c8 1 ++ (c8 1 ++ c8 0))
def tmnow0 : Now := ⟨[(0, rw8 0), (1, rwP 1 2 3 4)], [], gmax⟩
def tmnowA : Now := ⟨[(2, .p 64 0), (3, .p 65 0), (4, .p 66 0)], [(64, b32 (cel 0)), (65, bP (pcl 1)), (66, bP z128)], 67⟩
def tmnowB : Now := ⟨tmE0, tmH tmInit, 73⟩
def tmIT : List Row := [⟨72, [kB 0, kB 1], kB 0⟩]
def tmnowE : Now := ⟨[(4, .p 66 0)], [(66, bP (pcl 5))], 73⟩
theorem tmgoA : goesG qae tree [] glB [] 60 2 tmA tmnow0 .normal tmnowA = true := by kernel_rfl
theorem tmgoB : goesG qae tree tmIT glB [] 60 3 tmB tmnowA .normal tmnowB = true := by kernel_rfl
theorem tmgoC : goesG qae tree [] glB [] 60 2 tmC tmnowB .normal (tmN 255 tmInit) = true := by kernel_rfl
theorem tmgoE : goesG qae tree [] glB [] 60 2 tmE (tmN (-1) (pcl 5)) .ret tmnowE = true := by kernel_rfl
theorem tmIT_ok (ν : Nat → Int) : ∀ r ∈ tmIT, r.Ok ν Tryd.prog := by
 intro r hr
 simp only [tmIT, List.mem_cons, List.not_mem_nil, or_false] at hr
 subst hr
 exact qba (x := 0) (y := 1) (by decide) (by decide) (qbz _ 0) (qbz _ 1) (kB_valc _ 0)
theorem tmInit_c (ν : Nat → Int) : qai ν tmInit = some (ptV 0 1 1 0) := by kernel_rfl
theorem tmE_get : (qam tmnowE.H tmnowE.n).get 66 = some (bP (pcl 5)) := by kernel_rfl
theorem tmOut_c (a b c d : Nat) : qai (nub [0, 0, 0, 0, 0, a, b, c, d]) (pcl 5) = some (ptV a b c d) := by kernel_rfl
theorem tmE_named {w0 : World} {n px py pz pt a b c d : Nat} {l : List Nat} {act : Act} {w : World} (h : HoldsG 30 w0 (nub (n :: px :: py :: pz :: pt :: a :: b :: c :: d :: l)) glB tmnowE act w) : HoldsG 30 w0 (nub [0, 0, 0, 0, 0, a, b, c, d]) glB tmnowE act w := by
 refine HoldsG.renumS (e := tmnowE.e) (H := tmnowE.H) (n := tmnowE.n) glB_ok h (by decide) (fun p hp => ?_) fun p hp => ?_
 ·rcases List.mem_cons.1 hp with rfl | hp
  ·exact .inr ⟨66, 0, rfl, by decide, List.mem_cons_self⟩
  ·cases hp
 ·rcases List.mem_cons.1 hp with rfl | hp
  ·exact ⟨by decide, by decide, bP (pcl 5), ptV a b c d, tmE_get, rfl, rfl, blkP_map _, tn5 _ _ _ _ _ _ _ _ _ _, tmOut_c a b c d⟩
  ·cases hp
theorem em4_zero : em4 0 1 1 0 = ⟨0, 1, 1, 0⟩ := rfl
theorem ftimes_0 (p : P4) (n : Nat) : qaM p n 0 = ⟨0, 1, 1, 0⟩ := rfl
theorem em4_val {a b c d : Nat} {p : P4} (la : a < qaa) (lb : b < qaa) (lc : c < qaa) (ld : d < qaa) (h : em4 a b c d = p) : a = p.x.val ∧ b = p.y.val ∧ c = p.z.val ∧ d = p.t.val := by
 subst h
 exact ⟨of_em la rfl, of_em lb rfl, of_em lc rfl, of_em ld rfl⟩
theorem times_run (n px py pz pt : Nat) (hx : px < B4) (hy : py < B4) (hz : pz < B4) (ht : pt < B4) (p : P4) (hp : qaM (em4 px py pz pt) n 256 = p) (w0 : World) : Tri Tryd.prog 30 (.seq tmA (.seq tmB (.seq (.seq tmC (.block 0 (.loop tmBody))) tmE))) (HoldsG 30 w0 (nub [n, px, py, pz, pt]) glB tmnow0)
  fun ex act w => (ex = .normal ∨ ex = .ret) ∧ HoldsG 30 w0 (nub [0, 0, 0, 0, 0, p.x.val, p.y.val, p.z.val, p.t.val]) glB tmnowE act w := by
 refine Tri.seq (Tri.runG (qab _) qak qaf glB_ok (fun r hr => by cases hr) (fun r hr => by cases hr) tmgoA) ?_ (fun ex a w hne h => (hne h.1).elim)
 refine Tri.weak (Pre := HoldsG 30 w0 (nub [n, px, py, pz, pt]) glB tmnowA) ?_ (fun _ _ h => h.2) (fun _ _ _ h => h)
 refine Tri.seq (Tri.runG (qab _) qak qaf glB_ok (tmIT_ok _) (fun r hr => by cases hr) tmgoB) ?_ (fun ex a w hne h => (hne h.1).elim)
 refine Tri.weak (Pre := HoldsG 30 w0 (nub [n, px, py, pz, pt]) glB tmnowB) ?_ (fun _ _ h => h.2) (fun _ _ _ h => h)
 refine Tri.seq (Mid := fun ex act w => ex = .normal ∧ tmJ w0 n px py pz pt 0 act w) ?_ ?_ (fun ex a w hne h => (hne h.1).elim)
 ·refine Tri.seq (Tri.runG (qab _) qak qaf glB_ok (fun r hr => by cases hr) (fun r hr => by cases hr) tmgoC) ?_ (fun ex a w hne h => (hne h.1).elim)
  refine Tri.weak (Pre := tmJ w0 n px py pz pt 256) ?_ (fun act w h => ?_) (fun _ _ _ h => h)
  ·refine Tri.block (tm_loop w0 n px py pz pt hx hy hz ht) (fun a w h => by cases h.1) (fun act w h => ⟨rfl, h.2⟩) (fun j a w hj h => ?_) (fun a w h => by cases h.1)
   have := h.1
   simp only [Ex.exit.injEq] at this
   exact (hj this).elim
  ·refine ⟨Nat.le_refl _, 0, 1, 1, 0, by decide, by decide, by decide, by decide, em4_zero.trans (ftimes_0 _ _).symm, fun l => ?_⟩
   exact tm_named h.2 (tn0 _ _) (tn1 _ _ _ _ _ _) (tmInit_c _) (tn0 _ _) (tn1 _ _ _ _ _ _) (tn5 _ _ _ _ _ _ _ _ _ _)
 ·intro cd hc act w ⟨_, hi, a, b, c, d, la, lb, lc, ld, hs, hH⟩
  obtain ⟨ea, eb, ec, ed⟩ := em4_val la lb lc ld (hs.trans hp)
  rw [← ea, ← eb, ← ec, ← ed]
  exact ((Tri.runG (qab _) qak qaf glB_ok (fun r hr => by cases hr) (fun r hr => by cases hr) tmgoE).weak (fun _ _ h => h) (fun ex act w h => ⟨.inr h.1, tmE_named h.2⟩)) cd hc act w (hH [])
theorem tm_args : ∀ p ∈ tmnow0.e, ([rw8 0, rwP 1 2 3 4] : List AV)[p.1]? = some p.2 := by
 intro p hp
 simp only [tmnow0, List.mem_cons, List.not_mem_nil, or_false] at hp
 rcases hp with rfl | rfl <;> rfl
theorem tm_ins (n px py pz pt : Nat) : qai (nub [n, px, py, pz, pt]) [rw8 0, rwP 1 2 3 4] = some [byt n, ptv px py pz pt] := by simp [qai, qax, nubP]
theorem tm_res : resA (trL tmnowE.e) (qam (tmnowE.H ++ glB) tmnowE.n) [.c 4 (some 128)] = some (rwP 5 6 7 8) := by kernel_rfl
theorem tm_tab : tree.get 46 = some t46 := by kernel_rfl
theorem timesP_ok (n px py pz pt : Nat) (hx : px < B4) (hy : py < B4) (hz : pz < B4) (ht : pt < B4) (p : P4) (hp : qaM (em4 px py pz pt) n 256 = p) : qa4 Tryd.prog glB 46 [byt n, ptv px py pz pt] (ptv p.x.val p.y.val p.z.val p.t.val) :=
 pureG_tri (ν := nub [n, px, py, pz, pt]) (ν' := nub [0, 0, 0, 0, 0, p.x.val, p.y.val, p.z.val, p.t.val]) (args := [rw8 0, rwP 1 2 3 4]) (r := rwP 5 6 7 8) (o := tmnowE) tree qaf glB_ok tm_tab tm_shape (tm_ins n px py pz pt) (by decide) tmnow0.e tm_args (times_run n px py pz pt hx hy hz ht p hp) tm_res (nubPc [0, 0, 0, 0, 0, p.x.val, p.y.val, p.z.val, p.t.val] 5 6 7 8)
end Go.Proofs.YtheidgcgdkmmiaaDoor
