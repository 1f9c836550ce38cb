/-
 SIGNATURES: the rows that a signature meets. Own work.
-/
import Derived.Test.YtheidgcgdkmmiaaDoorRa
namespace Go.Proofs.YtheidgcgdkmmiaaDoor
open Go.Sh
open Go.ChangeShapes Go.WideShapes Go.ChangeAt Go.RowKit
set_option maxRecDepth 100000
def e32 : Nat := 22
def eU : Nat := 5
def pn (b t : Nat) : Nat × ABlk := (b, ⟨[], tg t, false⟩)
def ps (b t : Nat) : AV := .sl b 0 (.s (pinL (tg t))) .any
def wO (b t : Nat) : Nat × ABlk := (b, ⟨[], wg t, true⟩)
def clA (j : Nat) : AI := if Nat.beq j 0 then .e .and .u8 (.s 32) (nA 248) else if Nat.beq j 31 then .e .or .u8 (.e .and .u8 (.s 63) (nA 127)) (nA 64) else .s (32 + j)
def clV : AV := .ag (rowC .u8 clA 32)
def sgT : List Row := [⟨42, [rw4 1000], rw8 7⟩, ⟨42, [rw4 1001], rw8 11⟩]
def sgG : List Row := [⟨23, [clV], rw8 4⟩, ⟨43, [wAG 160 64], rw4 1000⟩, ⟨23, [rw8 7], rw8 8⟩, ⟨43, [wAG 288 64], rw4 1001⟩, ⟨22, [rw8 11, clV, rw8 7], rw8 12⟩]
def bx (b j n : Nat) : Nat × ABlk := (b, ⟨rowC .u8 (nmA (32 * j)) n, e32, true⟩)
def pfA (j : Nat) : AI := .s (64 + j)
def plA (j : Nat) : AI := if Nat.blt j 32 then .s (256 + j) else .s (128 + (j - 32))
def clB : List AI := (List.range 64).map plA
def rowWk9 : Row := ⟨15, [], .b true⟩
def rowKn (b n : Nat) (f g : Nat → AI) (c : Cap) : RowM := rowSum (.sl b 0 (nA n) c) [(b, ⟨rowC .u8 f n, eU, true⟩)] g
def sg2 (b t : Nat) : RowM := rowSum (slE b (tg t) 0) [wO b t] (nmA 288)
def sg1E (b : Nat) : RowM := rowKn b 32 pfA (nmA 160) (.own 1)
def sg2E (b : Nat) : RowM := rowKn b 64 plA (nmA 288) (.own 1)
/-! a sum's bytes, as two numbers -/
theorem wrap_u8 (x : Int) : ∃ b : Nat, IntKind.u8.wrap x = (b : Int) ∧ b < 256 := by
 refine ⟨(x % 256).toNat, ?_, by omega⟩
 simp only [IntKind.wrap, IntKind.bits, IntKind.signed]
 simp
 omega
theorem sum_bytesQ (z : Wd) (n m : Nat) : Bytes (qbd z n) m := fun _ _ => wrap_u8 _
def dgt (z : Wd) (n j : Nat) : Nat := (qbd z n j).toNat
theorem dgt_val (z : Wd) (n j : Nat) : qbd z n j = (dgt z n j : Int) ∧ dgt z n j < 256 := by
 obtain ⟨b, h1, h2⟩ := sum_bytesQ z n (j + 1) j (Nat.lt_succ_self j)
 unfold dgt
 rw [h1]
 exact ⟨rfl, h2⟩
theorem dgt_lt (z : Wd) (n j : Nat) : dgt z n j < 256 := (dgt_val z n j).2
theorem wS_digit {f : Nat → Nat} (hf : ∀ i, f i < 256) {n i : Nat} (hi : i < n) : wS f n / 2 ^ (8 * i) % 256 = f i := by
 have h1 := wS_split f i (n - i)
 rw [show i + (n - i) = n by omega] at h1
 have h2 := wS_split (fun k => f (i + k)) 1 (n - i - 1)
 rw [show 1 + (n - i - 1) = n - i by omega] at h2
 have h3 : wS (fun k => f (i + k)) 1 = f i := by
  show 0 + 2 ^ (8 * 0) * f (i + 0) = f i
  rw [Nat.zero_add, Nat.mul_zero, Nat.pow_zero, Nat.one_mul, Nat.add_zero]
 have h4 := wS_lt hf i
 have hp : 0 < 2 ^ (8 * i) := Nat.pow_pos (by decide)
 rw [h1, Nat.add_mul_div_left _ _ hp, Nat.div_eq_of_lt h4, Nat.zero_add, h2, h3]
 have := hf i
 omega
theorem byL_wS {f : Nat → Nat} (hf : ∀ i, f i < 256) {i : Nat} (hi : i < 32) : (byL (wS f 32)).getD i 0 = f i := by rw [byL_get _ i hi, wS_digit hf hi]
theorem wS_B4 {f : Nat → Nat} (hf : ∀ i, f i < 256) : wS f 32 < B4 := Nat.lt_of_lt_of_le (wS_lt hf 32) (by decide)
theorem wS_B8 {f : Nat → Nat} (hf : ∀ i, f i < 256) : wS f 64 < B4 * B4 := Nat.lt_of_lt_of_le (wS_lt hf 64) (by decide +kernel)
def dLo (z : Wd) (n : Nat) : Nat := wS (dgt z n) 32
def dHi (z : Wd) (n : Nat) : Nat := wS (fun i => dgt z n (32 + i)) 32
section
variable {L l : List Nat} {m : Int} {len : Nat → Nat} {zt : Nat → Wd}
theorem nu9_dg {j n : Nat} {z : Wd} (hj : j + 1 < 125) (h0 : L.getD j 0 = dLo z n) (h1 : L.getD (j + 1) 0 = dHi z n) {i : Nat} (hi : i < 64) : nu9 L l m len zt (32 * j + i) = qbd z n i := by
 rw [(dgt_val z n i).1]
 by_cases h : i < 32
 ·rw [nu9_at (by omega) h, h0]
  exact congrArg (fun n : Nat => (n : Int)) (byL_wS (fun i => dgt_lt z n i) h)
 ·rw [show 32 * j + i = 32 * (j + 1) + (i - 32) by omega, nu9_at hj (by omega), h1]
  refine congrArg (fun n : Nat => (n : Int)) ((byL_wS (fun i => dgt_lt z n (32 + i)) (by omega)).trans ?_)
  rw [show 32 + (i - 32) = i by omega]
theorem byt_agg {f : Wd} {x : Nat} (h : ∀ j, j < 32 → f j = (((byL x).getD j 0 : Nat) : Int)) : aggI .u8 32 f = byt x := by
 unfold aggI byt
 refine congrArg (fun l : List Value => Value.agg l.toArray) (List.ext_getElem? fun j => ?_)
 rw [List.getElem?_map, List.getElem?_map]
 by_cases hj : j < 32
 ·rw [List.getElem?_range hj, List.getElem?_eq_getElem (by rw [qaX]; exact hj)]
  show some (Value.int .u8 (f j)) = some (u8 _)
  rw [h j hj, List.getD_eq_getElem?_getD, List.getElem?_eq_getElem (by rw [qaX]; exact hj)]
  rfl
 ·rw [List.getElem?_eq_none (by simpa using hj), List.getElem?_eq_none (by rw [qaX]; omega)]
  rfl
/-! the number that a seed's sum gives -/
def clF (d : Nat → Nat) (i : Nat) : Nat := if i = 0 then d 0 / 8 * 8 else if i = 31 then d 31 % 64 + 64 else d i
def clN (d : Nat → Nat) : Nat := wS (clF d) 32
theorem clF_lt {d : Nat → Nat} (hd : ∀ i, d i < 256) (i : Nat) : clF d i < 256 := by
 have h0 := hd 0
 have h1 := hd 31
 have h2 := hd i
 unfold clF
 split
 ·omega
 ·split <;> omega
theorem cl_0 : (List.range 256).all (fun x => decide (qaj .and .u8 ((x : Nat) : Int) ((248 : Nat) : Int) = ((x / 8 * 8 : Nat) : Int))) = true := by decide +kernel
theorem cl_31 : (List.range 256).all (fun x => decide (qaj .or .u8 (qaj .and .u8 ((x : Nat) : Int) ((127 : Nat) : Int)) ((64 : Nat) : Int) = ((x % 64 + 64 : Nat) : Int))) = true := by decide +kernel
theorem clV_val {z : Wd} {n : Nat} (h0 : L.getD 1 0 = dLo z n) (h1 : L.getD 2 0 = dHi z n) : qag (nu9 L l m len zt) clV = some (byt (clN (dgt z n))) := by
 have hd : ∀ j, j < 32 → nu9 L l m len zt (32 + j) = (dgt z n j : Int) := fun j hj => (nu9_dg (j := 1) (by decide) h0 h1 (by omega)).trans (dgt_val z n j).1
 show qag _ (.ag (rowC .u8 clA (31 + 1))) = _
 rw [conc2_row]
 refine congrArg some (byt_agg fun j hj => ?_)
 rw [show (byL (clN (dgt z n))).getD j 0 = clF (dgt z n) j from byL_wS (clF_lt (dgt_lt z n)) hj]
 unfold clA clF
 by_cases c : j = 0
 ·subst c
  show qaj .and .u8 (nu9 L l m len zt 32) ((248 : Nat) : Int) = ((dgt z n 0 / 8 * 8 : Nat) : Int)
  rw [show nu9 L l m len zt 32 = (dgt z n 0 : Int) from hd 0 (by decide)]
  exact of_decide_eq_true (List.all_eq_true.1 cl_0 _ (List.mem_range.2 (dgt_lt z n 0)))
 ·rw [if_neg (by simpa using c), if_neg c]
  by_cases c2 : j = 31
  ·subst c2
   show qaj .or .u8 (qaj .and .u8 (nu9 L l m len zt 63) ((127 : Nat) : Int)) ((64 : Nat) : Int) = ((dgt z n 31 % 64 + 64 : Nat) : Int)
   rw [show nu9 L l m len zt 63 = (dgt z n 31 : Int) from hd 31 (by decide)]
   exact of_decide_eq_true (List.all_eq_true.1 cl_31 _ (List.mem_range.2 (dgt_lt z n 31)))
  ·rw [if_neg (by simpa using c2), if_neg c2]
   exact hd j hj
end
theorem lst_pre {ν : Nat → Int} {T t n : Nat} {cells : List AI} (hT : ν (pinL T) = ((cells.length + n : Nat) : Int)) (ht : ν (pinL t) = (n : Int)) (h1 : ∀ j x, cells[j]? = some x → ν (pinB T j) = x.val ν) (h2 : ∀ j, j < n → ν (pinB T (cells.length + j)) = ν (pinB t j)) : lst ν T = cells.map (AI.val ν) ++ lst ν t := by
 unfold lst
 rw [hT, ht, Int.toNat_natCast, Int.toNat_natCast, List.range_add, List.map_append]
 have e1 : (List.range cells.length).map (fun j => ν (pinB T j)) = cells.map (AI.val ν) := by
  refine List.ext_getElem? fun j => ?_
  rw [List.getElem?_map, List.getElem?_map]
  by_cases hj : j < cells.length
  ·rw [List.getElem?_range hj, List.getElem?_eq_getElem hj]
   exact congrArg some (h1 j _ (List.getElem?_eq_getElem hj))
  ·rw [List.getElem?_eq_none (by simpa using hj), List.getElem?_eq_none (by omega)]
   rfl
 have e2 : ((List.range n).map (cells.length + ·)).map (fun j => ν (pinB T j)) = (List.range n).map fun j => ν (pinB t j) := by
  rw [List.map_map]
  exact List.map_congr_left fun j hj => h2 j (List.mem_range.1 hj)
 rw [e1, e2]
end Go.Proofs.YtheidgcgdkmmiaaDoor
