/-
  NAMES of numbers of 32 bytes, and one more name for a number of its own. Own work.
-/
import Derived.Test.YtlalonomdblhdaaDg
namespace Go.Proofs.Ytlalonomdblhdaa
open Go.Sh
set_option maxRecDepth 100000

theorem rw8_of {ν : Nat → Int} {j x : Nat} (h : ∀ i, i < 32 → ν (32 * j + i) = (((byL x).getD i 0 : Nat) : Int)) : conc2 ν (rw8 j) = some (byt x) := by
  have h := mid_conc (ν := ν) (j := 32 * j) 32 (byL x) (fun i hi => h i hi) (byL_len _) [] [] rfl
  rw [List.append_nil, List.append_nil] at h
  show (concL ν ((List.range 32).map (fun i => bt (32 * j + i)))).map (fun vs => Value.agg vs.toArray) = _
  rw [h]
  rfl
theorem sL_of {ν : Nat → Int} {j x : Nat} (h : ∀ i, i < 32 → ν (32 * j + i) = (((byL x).getD i 0 : Nat) : Int)) : (sL (32 * j)).map (AI.val ν) = (byL x).map fun n => ((n : Nat) : Int) := by
  apply List.ext_getElem?
  intro i
  by_cases hi : i < 32
  · have h := h i hi
    simp only [sL, List.map_map, List.getElem?_map, List.getElem?_range hi, Option.map_some, Function.comp]
    show some (ν (32 * j + i)) = _
    have hl : i < (byL x).length := by rw [byL_len]; exact hi
    rw [h]
    generalize byL x = L at *
    rw [List.getElem?_eq_getElem hl, List.getD_eq_getElem?_getD, List.getElem?_eq_getElem hl]
    rfl
  · rw [List.getElem?_eq_none (by simp [sL]; omega), List.getElem?_eq_none (by simp [byL_len]; omega)]

def nuN (l : List Nat) (a : Int) : Nat → Int := fun k => if k = 10000 then a else nub l k
theorem nuN_get (l : List Nat) (a : Int) {j : Nat} (hj : j < 300) : ∀ i, i < 32 → nuN l a (32 * j + i) = (((byL (l.getD j 0)).getD i 0 : Nat) : Int) := by
  intro i hi
  unfold nuN
  rw [if_neg (by omega)]
  exact nub_get l j i hi
theorem nuNR (l : List Nat) (a : Int) {j : Nat} (hj : j < 300) : conc2 (nuN l a) (rw8 j) = some (byt (l.getD j 0)) := rw8_of (nuN_get l a hj)
theorem nuNRc (l : List Nat) (a : Int) {j : Nat} (hj : j < 300) : conc (nuN l a) (rw8 j) = some (byt (l.getD j 0)) := nuNR l a hj
theorem neZN_holds {l : List Nat} {a : Int} {j x : Nat} (hj : j < 300) (h : l.getD j 0 = x) (hx : x < B4) (h0 : x ≠ 0) : compare (neZ j).1 ((neZ j).2.1.val (nuN l a)) ((neZ j).2.2.1.val (nuN l a)) = (neZ j).2.2.2 :=
  neB_holds hx (by decide) (by rw [sL_of (nuN_get l a hj), h]) (cL_val _ 0) h0

theorem word_of {n : Int} (h : (Lit.int .u64 n).wf = true) : ∃ m : Nat, n = (m : Int) ∧ m < 18446744073709551616 := by
  have h1 : IntKind.u64.min ≤ n ∧ n ≤ IntKind.u64.max := by simpa [Lit.wf] using h
  rw [show IntKind.u64.min = 0 from rfl, show IntKind.u64.max = 18446744073709551615 from rfl] at h1
  exact ⟨n.toNat, by omega, by omega⟩
theorem word_of8 {n : Int} (h : (Lit.int .u8 n).wf = true) : ∃ m : Nat, n = (m : Int) ∧ m < 256 := by
  have h1 : IntKind.u8.min ≤ n ∧ n ≤ IntKind.u8.max := by simpa [Lit.wf] using h
  rw [show IntKind.u8.min = 0 from rfl, show IntKind.u8.max = 255 from rfl] at h1
  exact ⟨n.toNat, by omega, by omega⟩

end Go.Proofs.Ytlalonomdblhdaa
