/-
  poly.Tag: what it makes, as numbers. Own work.
-/
import Derived.Test.YtbdihdncnpajgaaPob
namespace Go.Proofs.Ytbdihdncnpajgaa
open Go.Sh
open Go.ChangeShapes Go.WideShapes Go.ChangeAt Go.RowKit
set_option maxRecDepth 100000

theorem tp_goAll : (List.range 16).all (fun r => tpGo (r + 1)) = true := by kernel_rfl
theorem tp_goEnd (b : Bool) : tpEnd b = true := by cases b <;> kernel_rfl
theorem tp_goW {w : Nat} (h0 : 0 < w) (h1 : w ≤ 16) : tpGo w = true := by
  have := List.all_eq_true.1 tp_goAll (w - 1) (List.mem_range.2 (by omega))
  rwa [show w - 1 + 1 = w by omega] at this
def addI (h b : Wd) (m k : Nat) : Int := (List.range m).foldl (fun acc i => if Nat.beq (8 * i / 26) k then arith .add .u64 acc (arith .shl .u64 (IntKind.u64.wrap (b i)) ((8 * i % 26 : Nat) : Int)) else acc) (h k)
def mulI (h r : Wd) (k : Nat) : Int := (List.range 25).foldl (fun acc q => if Nat.blt (q / 5 + q % 5) 5 then (if Nat.beq (q / 5 + q % 5) k then arith .add .u64 acc (arith .mul .u64 (h (q / 5)) (r (q % 5))) else acc)
  else (if Nat.beq (q / 5 + q % 5) (k + 5) then arith .add .u64 acc (arith .mul .u64 (arith .mul .u64 ((5 : Nat) : Int) (h (q / 5))) (r (q % 5))) else acc)) 0
theorem fold_val {ν : Nat → Int} {f : AI → Nat → AI} {g : Int → Nat → Int} (h : ∀ x i, (f x i).val ν = g (x.val ν) i) : ∀ (l : List Nat) (x : AI), (l.foldl f x).val ν = l.foldl g (x.val ν)
  | [], _ => rfl
  | i :: l, x => by
    show (l.foldl f (f x i)).val ν = l.foldl g (g (x.val ν) i)
    rw [fold_val h l, h]
theorem addA_val {ν : Nat → Int} {h b : Nat → AI} {m k : Nat} : (addA h b m k).val ν = addI (fun j => (h j).val ν) (fun j => (b j).val ν) m k := by
  unfold addA addI
  refine fold_val (fun x i => ?_) _ _
  split
  · rw [eA_val, eA_val, cA_val, nA_val]
  · rfl
theorem mulA_val {ν : Nat → Int} {h r : Nat → AI} {k : Nat} : (mulA h r k).val ν = mulI (fun j => (h j).val ν) (fun j => (r j).val ν) k := by
  unfold mulA mulI
  refine fold_val (fun x i => ?_) _ _
  split
  · split
    · rw [eA_val, eA_val]
    · rfl
  · split
    · rw [eA_val, eA_val, eA_val, nA_val]
    · rfl
theorem fold_congr {g g' : Int → Nat → Int} : ∀ (l : List Nat) (x : Int), (∀ i ∈ l, ∀ x, g x i = g' x i) → l.foldl g x = l.foldl g' x
  | [], _, _ => rfl
  | i :: l, x, h => by
    show l.foldl g (g x i) = l.foldl g' (g' x i)
    rw [h i List.mem_cons_self]
    exact fold_congr l _ fun j hj => h j (List.mem_cons_of_mem _ hj)
theorem addI_congr {h h' b b' : Wd} {m k : Nat} (hh : h k = h' k) (hb : ∀ i, i < m → b i = b' i) : addI h b m k = addI h' b' m k := by
  unfold addI
  rw [hh]
  refine fold_congr _ _ fun i hi x => ?_
  rw [hb i (List.mem_range.1 hi)]
theorem mulI_congr {h h' r r' : Wd} {k : Nat} (hh : ∀ i, i < 5 → h i = h' i) (hr : ∀ i, i < 5 → r i = r' i) : mulI h r k = mulI h' r' k := by
  unfold mulI
  refine fold_congr _ _ fun i hi x => ?_
  have := List.mem_range.1 hi
  rw [hh (i / 5) (by omega), hr (i % 5) (by omega)]
theorem stI_congr {v v' : Wd} (h : ∀ j, j < 5 → v j = v' j) : stI v = stI v' := by
  funext j
  unfold stI L5.of
  rw [h 0 (by decide), h 1 (by decide), h 2 (by decide), h 3 (by decide), h 4 (by decide)]
def ovI (g : Wd) : L5 Int :=
  let o0 := arith .add .u64 (g 0) ((5 : Nat) : Int)
  let o1 := arith .add .u64 (g 1) (arith .shr .u64 o0 ((26 : Nat) : Int))
  let o2 := arith .add .u64 (g 2) (arith .shr .u64 o1 ((26 : Nat) : Int))
  let o3 := arith .add .u64 (g 3) (arith .shr .u64 o2 ((26 : Nat) : Int))
  let o4 := arith .add .u64 (g 4) (arith .shr .u64 o3 ((26 : Nat) : Int))
  ⟨arith .and .u64 o0 ((67108863 : Nat) : Int), arith .and .u64 o1 ((67108863 : Nat) : Int), arith .and .u64 o2 ((67108863 : Nat) : Int), arith .and .u64 o3 ((67108863 : Nat) : Int), o4⟩
theorem ovL_v {ν : Nat → Int} {g : Nat → AI} : (ovL g).v ν = ovI (fun j => (g j).val ν) := by
  simp only [ovL, ovI, L5.v, eA_val, nA_val]
def leI (b : Bool) (g : Wd) (j : Nat) : Int := if b then (if Nat.beq j 4 then arith .and .u64 (ovI g).e ((67108863 : Nat) : Int) else (ovI g).at j) else g j
theorem leA_val {ν : Nat → Int} {b : Bool} {g : Nat → AI} {j : Nat} : (leA b g j).val ν = leI b (fun j => (g j).val ν) j := by
  unfold leA leI
  split
  · split
    · rw [eA_val, nA_val, ← ovL_v]
      rfl
    · rw [at_v, ovL_v]
  · rfl
def ccI (a : Wd) (i : Nat) : Int :=
  let c := arith .shr .u64 (a (8 * i / 26)) ((8 * i % 26 : Nat) : Int)
  if Nat.blt 18 (8 * i % 26) && Nat.blt (8 * i / 26) 4 then arith .or .u64 c (arith .shl .u64 (a (8 * i / 26 + 1)) ((26 - 8 * i % 26 : Nat) : Int)) else c
theorem ccA_val {ν : Nat → Int} {a : Nat → AI} {i : Nat} : (ccA a i).val ν = ccI (fun j => (a j).val ν) i := by
  simp only [ccA, ccI]
  split
  · simp only [eA_val, nA_val]
  · simp only [eA_val, nA_val]
def tmI (a : Wd) (s : Int) (i : Nat) : Int := arith .add .u64 (arith .and .u64 (ccI a i) ((255 : Nat) : Int)) (IntKind.u64.wrap s)
def crI (a K : Wd) : Nat → Int
  | 0 => arith .add .u64 0 (tmI a (K 16) 0)
  | i + 1 => arith .add .u64 (arith .shr .u64 (crI a K i) ((8 : Nat) : Int)) (tmI a (K (16 + (i + 1))) (i + 1))
theorem crA_val {ν : Nat → Int} {a : Nat → AI} : ∀ i, (crA a i).val ν = crI (fun j => (a j).val ν) ν i
  | 0 => by
    show (eA .add .u64 (.c 0) (tmA a 0)).val ν = _
    simp only [crI, tmI, tmA, eA_val, cA_val, ccA_val, nA_val, AI.val]
  | i + 1 => by
    show (eA .add .u64 (eA .shr .u64 (crA a i) (nA 8)) (tmA a (i + 1))).val ν = _
    simp only [crI, tmI, tmA, eA_val, cA_val, ccA_val, nA_val, crA_val i, AI.val]
def tgI (a K : Wd) (i : Nat) : Int := IntKind.u8.wrap (crI a K i)
theorem tgA_val {ν : Nat → Int} {a : Nat → AI} {i : Nat} : (tgA a i).val ν = tgI (fun j => (a j).val ν) ν i := by
  unfold tgA tgI
  rw [cA_val, crA_val]
theorem crI_congr {a K K' : Wd} : ∀ i, (∀ j, j < 16 + i + 1 → K j = K' j) → crI a K i = crI a K' i
  | 0, h => by simp only [crI, h 16 (by decide)]
  | i + 1, h => by simp only [crI, crI_congr i fun j hj => h j (by omega), h (16 + (i + 1)) (by omega)]
theorem ccI_congr {a a' : Wd} {i : Nat} (hi : i < 16) (h : ∀ j, j < 5 → a j = a' j) : ccI a i = ccI a' i := by
  unfold ccI
  by_cases c : 8 * i / 26 < 4
  · rw [h (8 * i / 26) (by omega), h (8 * i / 26 + 1) (by omega)]
  · rw [h (8 * i / 26) (by omega), show Nat.blt (8 * i / 26) 4 = false from Bool.eq_false_iff.2 fun h9 => c (by simpa using h9), Bool.and_false]
    rfl
theorem crI_congrA {a a' K : Wd} (h : ∀ j, j < 5 → a j = a' j) : ∀ i, i < 16 → crI a K i = crI a' K i
  | 0, hi => by simp only [crI, tmI, ccI_congr hi h]
  | i + 1, hi => by simp only [crI, tmI, crI_congrA h i (by omega), ccI_congr hi h]
theorem ovI_congr {g g' : Wd} (h : ∀ j, j < 5 → g j = g' j) : ovI g = ovI g' := by
  unfold ovI
  rw [h 0 (by decide), h 1 (by decide), h 2 (by decide), h 3 (by decide), h 4 (by decide)]
theorem leI_congr {b : Bool} {g g' : Wd} (h : ∀ j, j < 5 → g j = g' j) {j : Nat} (hj : j < 5) : leI b g j = leI b g' j := by
  unfold leI
  rw [ovI_congr h, h j hj]
def hfI (K : Wd) (j : Nat) : Int := if Nat.beq (j % 4) 3 then arith .and .u8 (K j) ((15 : Nat) : Int) else if Nat.beq (j % 4) 0 && Nat.blt 0 j then arith .and .u8 (K j) ((252 : Nat) : Int) else K j
theorem hfA_val {ν : Nat → Int} {j : Nat} : (hfA 2 j).val ν = hfI ν j := by
  show (if Nat.beq (j % 4) 3 then eA .and .u8 (.s j) (nA 15) else if Nat.beq (j % 4) 0 && Nat.blt 0 j then eA .and .u8 (.s j) (nA 252) else .s j).val ν = _
  unfold hfI
  split
  · rw [eA_val]; rfl
  · split
    · rw [eA_val]; rfl
    · rfl
/-! WHAT A TAG IS, in five parts -/
def wq (n q : Nat) : Nat := min 16 (n - 16 * q)
def aq (n q : Nat) : Nat := min (16 * q) n
def pcI (n : Nat) (z : Wd) (q j : Nat) : Int := if j < wq n q then z (16 * q + j) else if j = wq n q then 1 else 0
def rV (K : Wd) : Wd := stI (addI (fun _ => 0) (hfI K) 16)
def a1V (n : Nat) (z : Wd) (q : Nat) (a : Wd) : Wd := stI (addI a (pcI n z q) 17)
def aV (K : Wd) (n : Nat) (z : Wd) : Nat → Wd
  | 0 => fun _ => 0
  | q + 1 => stI (mulI (a1V n z q (aV K n z q)) (rV K))
def ovB (a : Wd) : Bool := compare .gtr (ovI a).e ((67108863 : Nat) : Int)
/-- The tag of n bytes. -/
def tagV (K : Wd) (n : Nat) (z : Wd) : Wd := tgI (leI (ovB (stI (aV K n z ((n + 15) / 16)))) (stI (aV K n z ((n + 15) / 16)))) K
theorem wq_le {n q : Nat} : wq n q ≤ 16 := Nat.min_le_left _ _
theorem aq_wq {n q : Nat} : aq n q + wq n q ≤ n := by unfold aq wq; omega
theorem aq_succ {n q : Nat} : aq n (q + 1) = aq n q + wq n q := by unfold aq wq; omega
theorem aq_lt {n q : Nat} (h : 16 * q < n) : aq n q = 16 * q := by unfold aq; omega
end Go.Proofs.Ytbdihdncnpajgaa
