/-
 NAMES of numbers of 32 bytes, of four words. Own work.
-/
import Derived.Test.YtheidgcgdkmmiaaDoorHb
import Derived.Test.YtheidgcgdkmmiaaDoorShG3
namespace Go.Proofs.YtheidgcgdkmmiaaDoor
open Go.Sh
set_option maxRecDepth 100000
def nub (l : List Nat) : Nat → Int := fun k => (((byL (l.getD (k / 32) 0)).getD (k % 32) 0 : Nat) : Int)
def cel (j : Nat) : List AV := (List.range 32).map fun i => bt (32 * j + i)
def rw8 (j : Nat) : AV := .ag (cel j)
theorem a_and8 (x y : Nat) (hx : x < 256) (hy : y < 256) : qaj .and .u8 (x : Int) (y : Int) = ((x &&& y : Nat) : Int) := by
 have h : (BitVec.ofInt 8 (x : Int) &&& BitVec.ofInt 8 (y : Int)).toNat = x &&& y := by
  rw [BitVec.toNat_and]
  simp only [BitVec.ofInt_natCast, BitVec.toNat_ofNat, Nat.reducePow, Nat.mod_eq_of_lt hx, Nat.mod_eq_of_lt hy]
 have hl : (BitVec.ofInt 8 (x : Int) &&& BitVec.ofInt 8 (y : Int)).toNat < 256 := (BitVec.ofInt 8 (x : Int) &&& BitVec.ofInt 8 (y : Int)).isLt
 show IntKind.u8.wrap ((BitVec.ofInt 8 (x : Int) &&& BitVec.ofInt 8 (y : Int)).toNat : Int) = _
 rw [wrap8, h]
 rw [h] at hl
 omega
theorem byL_get (x : Nat) : ∀ j, j < 32 → (byL x).getD j 0 = x / 2 ^ (8 * j) % 256 := by
 have h : (List.range 32).all (fun j => j < 32) = true := by decide
 intro j hj
 have : j = 0 ∨ j = 1 ∨ j = 2 ∨ j = 3 ∨ j = 4 ∨ j = 5 ∨ j = 6 ∨ j = 7 ∨ j = 8 ∨ j = 9 ∨ j = 10 ∨ j = 11 ∨ j = 12 ∨ j = 13 ∨ j = 14 ∨ j = 15 ∨ j = 16 ∨ j = 17 ∨ j = 18 ∨ j = 19 ∨ j = 20 ∨ j = 21 ∨ j = 22 ∨ j = 23 ∨ j = 24 ∨ j = 25 ∨ j = 26 ∨ j = 27 ∨ j = 28 ∨ j = 29 ∨ j = 30 ∨ j = 31 := by omega
 rcases this with rfl | rfl | rfl | rfl | rfl | rfl | rfl | rfl | rfl | rfl | rfl | rfl | rfl | rfl | rfl | rfl | rfl | rfl | rfl | rfl | rfl | rfl | rfl | rfl | rfl | rfl | rfl | rfl | rfl | rfl | rfl | rfl <;>
  (simp only [byL, bL, List.cons_append, List.nil_append, List.getD_cons_zero, List.getD_cons_succ, Nat.reduceMul, Nat.reducePow, Sh.w0, w1, w2, w3]; omega)
theorem bit_in (e a w r : Nat) (hr : r < w) : e / 2 ^ a % 2 ^ w / 2 ^ r % 2 = e / 2 ^ (a + r) % 2 := by
 have h1 : (e / 2 ^ a % 2 ^ w).testBit r = e.testBit (a + r) := by
  rw [Nat.testBit_mod_two_pow, decide_eq_true hr, Bool.true_and, Nat.testBit_div_two_pow, Nat.add_comm]
 rw [Nat.testBit_eq_decide_div_mod_eq, Nat.testBit_eq_decide_div_mod_eq] at h1
 have h2 := decide_eq_decide.1 h1
 omega
def celV (x : Nat) : List Value := (byL x).map u8
theorem byL_all (k : Nat) : byL k = [k % 256, k / 256 % 256, k / 65536 % 256, k / 16777216 % 256, k / 4294967296 % 256, k / 1099511627776 % 256, k / 281474976710656 % 256, k / 72057594037927936 % 256, k / 18446744073709551616 % 256, k / 4722366482869645213696 % 256, k / 1208925819614629174706176 % 256, k / 309485009821345068724781056 % 256, k / 79228162514264337593543950336 % 256, k / 20282409603651670423947251286016 % 256, k / 5192296858534827628530496329220096 % 256, k / 1329227995784915872903807060280344576 % 256, k / 340282366920938463463374607431768211456 % 256, k / 87112285931760246646623899502532662132736 % 256, k / 22300745198530623141535718272648361505980416 % 256, k / 5708990770823839524233143877797980545530986496 % 256, k / 1461501637330902918203684832716283019655932542976 % 256, k / 374144419156711147060143317175368453031918731001856 % 256, k / 95780971304118053647396689196894323976171195136475136 % 256, k / 24519928653854221733733552434404946937899825954937634816 % 256, k / 6277101735386680763835789423207666416102355444464034512896 % 256, k / 1606938044258990275541962092341162602522202993782792835301376 % 256, k / 411376139330301510538742295639337626245683966408394965837152256 % 256, k / 105312291668557186697918027683670432318895095400549111254310977536 % 256, k / 26959946667150639794667015087019630673637144422540572481103610249216 % 256, k / 6901746346790563787434755862277025452451108972170386555162524223799296 % 256, k / 1766847064778384329583297500742918515827483896875618958121606201292619776 % 256, k / 452312848583266388373324160190187140051835877600158453279131187530910662656 % 256] := by
 simp only [byL, bL, List.cons_append, List.nil_append, Sh.w0, w1, w2, w3, List.cons.injEq, and_true]
 refine ⟨by omega, by omega, by omega, by omega, by omega, by omega, by omega, by omega, by omega, by omega, by omega, by omega, by omega, by omega, by omega, by omega, by omega, by omega, by omega, by omega, by omega, by omega, by omega, by omega, by omega, by omega, by omega, by omega, by omega, by omega, by omega, by omega⟩
theorem mid_conc {ν : Nat → Int} {j : Nat} : ∀ (m : Nat) (l : List Nat), (∀ i, i < m → ν (j + i) = ((l.getD i 0 : Nat) : Int)) → l.length = m → ∀ (tl : List AV) (tv : List Value), qap ν tl = some tv → qap ν ((List.range m).map (fun i => bt (j + i)) ++ tl) = some (l.map u8 ++ tv) := by
 intro m
 induction m with
 | zero =>
   intro l h hl tl tv ht
   have : l = [] := by simpa using hl
   subst this
   simpa using ht
 | succ m ih =>
   intro l h hl tl tv ht
   rw [List.range_succ, List.map_append, List.append_assoc]
   have h1 : qap ν ([m].map (fun i => bt (j + i)) ++ tl) = some (u8 (l.getD m 0) :: tv) := by
    show (match conc1 ν (bt (j + m)), qap ν tl with | some v, some l => some (v :: l) | _, _ => none) = _
    rw [ht]
    show some (Value.int .u8 (ν (j + m)) :: tv) = _
    rw [h m (by omega)]
    rfl
   have h2 := ih (l.take m) (fun i hi => by rw [h i (by omega)]; simp [List.getD_eq_getElem?_getD, hi]) (by simp; omega) _ _ h1
   rw [h2]
   have h3 : l = l.take m ++ [l.getD m 0] := by
    apply List.ext_getElem?
    intro i
    by_cases hi : i < m
    ·rw [List.getElem?_append_left (by simp; omega), List.getElem?_take, if_pos hi]
    ·by_cases hi2 : i = m
     ·subst hi2
      rw [List.getElem?_append_right (by simp; omega)]
      simp [List.getD_eq_getElem?_getD, hl]
     ·rw [List.getElem?_eq_none (by omega), List.getElem?_eq_none (by simp; omega)]
   have h4 : (l.take m).map u8 ++ u8 (l.getD m 0) :: tv = (l.take m ++ [l.getD m 0]).map u8 ++ tv := by simp
   rw [h4, ← h3]
theorem qaX (k : Nat) : (byL k).length = 32 := rfl
theorem qbj (l : List Nat) (j : Nat) : ∀ i, i < 32 → nub l (32 * j + i) = (((byL (l.getD j 0)).getD i 0 : Nat) : Int) := by
 intro i hi
 unfold nub
 rw [show (32 * j + i) / 32 = j by omega, show (32 * j + i) % 32 = i by omega]
def nuw (l : List Nat) : Nat → Int := fun k => (((numL (l.getD (k / 4) 0)).getD (k % 4) 0 : Nat) : Int)
def wel (j : Nat) : List AV := [wd (4 * j), wd (4 * j + 1), wd (4 * j + 2), wd (4 * j + 3)]
def rw4 (j : Nat) : AV := .ag (wel j)
def welV (x : Nat) : List Value := (numL x).map u64
theorem nuw_wel (l : List Nat) (j : Nat) : qai (nuw l) (wel j) = some (welV (l.getD j 0)) := by
 have h : ∀ i, i < 4 → nuw l (4 * j + i) = (((numL (l.getD j 0)).getD i 0 : Nat) : Int) := by
  intro i hi
  unfold nuw
  rw [show (4 * j + i) / 4 = j by omega, show (4 * j + i) % 4 = i by omega]
 show some [Value.int .u64 (nuw l (4 * j)), .int .u64 (nuw l (4 * j + 1)), .int .u64 (nuw l (4 * j + 2)), .int .u64 (nuw l (4 * j + 3))] = _
 rw [show nuw l (4 * j) = nuw l (4 * j + 0) from rfl, h 0 (by decide), h 1 (by decide), h 2 (by decide), h 3 (by decide)]
 rfl
theorem qbz (ν : Nat → Int) (x : Nat) : qag ν (kB x) = some (byt x) := by kernel_rfl
theorem kB_valc (ν : Nat → Int) (x : Nat) : conc ν (kB x) = some (byt x) := by kernel_rfl
theorem qax (l : List Nat) (j : Nat) : qag (nub l) (rw8 j) = some (byt (l.getD j 0)) := by
 have h := mid_conc (ν := nub l) (j := 32 * j) 32 (byL (l.getD j 0)) (fun i hi => qbj l j i hi) (qaX _) [] [] rfl
 rw [List.append_nil, List.append_nil] at h
 show (qap (nub l) ((List.range 32).map (fun i => bt (32 * j + i)))).map (fun vs => Value.agg vs.toArray) = _
 rw [h]
 rfl
theorem qaN (l : List Nat) (j : Nat) : conc (nub l) (rw8 j) = some (byt (l.getD j 0)) := qax l j
theorem sL_val (l : List Nat) (j : Nat) : (sL (32 * j)).map (AI.val (nub l)) = (byL (l.getD j 0)).map fun n => ((n : Nat) : Int) := by
 apply List.ext_getElem?
 intro i
 by_cases hi : i < 32
 ·have h := qbj l j i hi
  simp only [sL, List.map_map, List.getElem?_map, List.getElem?_range hi, Option.map_some, Function.comp]
  show some (nub l (32 * j + i)) = _
  have hl : i < (byL (l.getD j 0)).length := by rw [qaX]; exact hi
  rw [h]
  generalize byL (l.getD j 0) = L at *
  rw [List.getElem?_eq_getElem hl, List.getD_eq_getElem?_getD, List.getElem?_eq_getElem hl]
  rfl
 ·rw [List.getElem?_eq_none (by simp [sL]; omega), List.getElem?_eq_none (by simp [qaX]; omega)]
def neZ (j : Nat) : BinOp × AI × AI × Bool := neB (sL (32 * j)) (cL 0)
theorem neZ_holds {l : List Nat} {j x : Nat} (h : l.getD j 0 = x) (hx : x < B4) (h0 : x ≠ 0) : qaE (neZ j).1 ((neZ j).2.1.val (nub l)) ((neZ j).2.2.1.val (nub l)) = (neZ j).2.2.2 :=
 neB_holds hx (by decide) (by rw [sL_val, h]) (cL_val _ 0) h0
theorem rw8_of {ν : Nat → Int} {j x : Nat} (h : ∀ i, i < 32 → ν (32 * j + i) = (((byL x).getD i 0 : Nat) : Int)) : qag ν (rw8 j) = some (byt x) := by
 have h := mid_conc (ν := ν) (j := 32 * j) 32 (byL x) (fun i hi => h i hi) (qaX _) [] [] rfl
 rw [List.append_nil, List.append_nil] at h
 show (qap ν ((List.range 32).map (fun i => bt (32 * j + i)))).map (fun vs => Value.agg vs.toArray) = _
 rw [h]
 rfl
end Go.Proofs.YtheidgcgdkmmiaaDoor
