/-
  WHAT dh's Shared and Public answer, and the law's own wakes. Own work.
-/
import Derived.Test.YtlalonomdblhdaaDf
namespace Go.Proofs.Ytlalonomdblhdaa
open Go.Sh
set_option maxRecDepth 100000

theorem kB_val (ν : Nat → Int) (x : Nat) : conc2 ν (kB x) = some (byt x) := by kernel_rfl
theorem kB_valc (ν : Nat → Int) (x : Nat) : conc ν (kB x) = some (byt x) := by kernel_rfl
theorem nubR8 (l : List Nat) (j : Nat) : conc2 (nub l) (rw8 j) = some (byt (l.getD j 0)) := by
  have h := mid_conc (ν := nub l) (j := 32 * j) 32 (byL (l.getD j 0)) (fun i hi => nub_get l j i hi) (byL_len _) [] [] rfl
  rw [List.append_nil, List.append_nil] at h
  show (concL (nub l) ((List.range 32).map (fun i => bt (32 * j + i)))).map (fun vs => Value.agg vs.toArray) = _
  rw [h]
  rfl
theorem nubR8c (l : List Nat) (j : Nat) : conc (nub l) (rw8 j) = some (byt (l.getD j 0)) := nubR8 l j
/-- Names from a number's place on, as that number's bytes. -/
theorem sL_val (l : List Nat) (j : Nat) : (sL (32 * j)).map (AI.val (nub l)) = (byL (l.getD j 0)).map fun n => ((n : Nat) : Int) := by
  apply List.ext_getElem?
  intro i
  by_cases hi : i < 32
  · have h := nub_get l j i hi
    simp only [sL, List.map_map, List.getElem?_map, List.getElem?_range hi, Option.map_some, Function.comp]
    show some (nub l (32 * j + i)) = _
    have hl : i < (byL (l.getD j 0)).length := by rw [byL_len]; exact hi
    rw [h]
    generalize byL (l.getD j 0) = L at *
    rw [List.getElem?_eq_getElem hl, List.getD_eq_getElem?_getD, List.getElem?_eq_getElem hl]
    rfl
  · rw [List.getElem?_eq_none (by simp [sL]; omega), List.getElem?_eq_none (by simp [byL_len]; omega)]

def neZ (j : Nat) : BinOp × AI × AI × Bool := neB (sL (32 * j)) (cL 0)
theorem neZ_holds {l : List Nat} {j x : Nat} (h : l.getD j 0 = x) (hx : x < B4) (h0 : x ≠ 0) : compare (neZ j).1 ((neZ j).2.1.val (nub l)) ((neZ j).2.2.1.val (nub l)) = (neZ j).2.2.2 :=
  neB_holds hx (by decide) (by rw [sL_val, h]) (cL_val _ 0) h0
def neJ (i j : Nat) : BinOp × AI × AI × Bool := neB (sL (32 * i)) (sL (32 * j))

theorem rowNumber {ν : Nat → Int} {p r : AV} {x : Nat} (h1 : conc2 ν p = some (byt x)) (h2 : conc ν r = some (byt (kmask x))) : Row.Ok ν Try.prog ⟨16, [p], r⟩ := ⟨[byt x], _, by simp [concT, h1], h2, number_ok x⟩
theorem rowProduct {ν : Nat → Int} {p q r : AV} {k u : Nat} (hu : u < B4) (h1 : conc2 ν p = some (byt k)) (h2 : conc2 ν q = some (byt u)) (h3 : conc ν r = some (byt (lad k (em u)).val)) : Row.Ok ν Try.prog ⟨15, [p, q], r⟩ := ⟨[byt k, byt u], _, by simp [concT, h1, h2], h3, product_ok k u hu⟩

/-! Public -/

def pubT : List Row := [⟨16, [rw8 0], rw8 1⟩, ⟨15, [rw8 1, kB 9], rw8 2⟩]
theorem pub_says : says noFacts tree pubT 100 3 9 [rw8 0] (heap0 [] gmax) (rw8 2) = true := by kernel_rfl
theorem pub_core (k m r : Nat) (hm : kmask k = m) (hr : (lad m (em 9)).val = r) : Pure Try.prog 9 [byt k] (byt r) := by
  refine pure_of (ν := nub [k, m, r]) (args := [rw8 0]) (noFacts_hold _) mixed tab_ok (fun q hq => ?_) pub_says (by simp [concT, nubR8]) (nubR8c [k, m, r] 2)
  simp only [pubT, List.mem_cons, List.not_mem_nil, or_false] at hq
  rcases hq with rfl | rfl
  · exact rowNumber (x := k) (nubR8 _ 0) (by rw [hm]; exact nubR8c _ 1)
  · exact rowProduct (k := m) (u := 9) (by decide) (nubR8 _ 1) (kB_val _ 9) (by rw [hr]; exact nubR8c _ 2)
theorem Public_ok (k : Nat) : Pure Try.prog 9 [byt k] (byt (lad (kmask k) (em 9)).val) := pub_core k _ _ rfl rfl

/-! Shared -/

/-- What Shared answers of the ladder's number. -/
def sharedV (r : Nat) : Value := .tuple #[byt r, .int .i64 (if r = 0 then 5 else 0)]
def eOK : AV := .i .i64 (.c (.ofNat 0))
def eZero : AV := .i .i64 (.c (.ofNat 5))
def shT : List Row := [⟨16, [rw8 0], rw8 2⟩, ⟨15, [rw8 2, .ag (plB 32)], rw8 3⟩]
def shT0 : List Row := [⟨16, [rw8 0], rw8 2⟩, ⟨15, [rw8 2, .ag (plB 32)], kB 0⟩]
theorem sh_says : says ⟨[], [neZ 3]⟩ tree shT 100 3 11 [rw8 0, rw8 1] (heap0 [] gmax) (.tp [rw8 3, eOK]) = true := by kernel_rfl
theorem sh_says0 : says noFacts tree shT0 100 3 11 [rw8 0, rw8 1] (heap0 [] gmax) (.tp [kB 0, eZero]) = true := by kernel_rfl
theorem sh_core (k p m u r : Nat) (hm : kmask k = m) (hu : pmask p = u) (hr : (lad m (em u)).val = r) : Pure Try.prog 11 [byt k, byt p] (sharedV r) := by
  have hub : u < B4 := hu ▸ pmask_lt p
  have hrb : r < B4 := hr ▸ Nat.lt_trans (val_lt _) (by decide)
  have hpl : conc2 (nub [k, p, m, r]) (.ag (plB 32)) = some (byt u) := by
    have h := plB_val _ 32 _ (pl_conc (nub_get [k, p, m, r] 1))
    rw [← hu]
    exact h
  by_cases h0 : r = 0
  · refine pure_of (ν := nub [k, p, m, r]) (args := [rw8 0, rw8 1]) (noFacts_hold _) mixed tab_ok (fun q hq => ?_) sh_says0 (by simp [concT, nubR8]) (by unfold sharedV; rw [if_pos h0, h0]; kernel_rfl)
    simp only [shT0, List.mem_cons, List.not_mem_nil, or_false] at hq
    rcases hq with rfl | rfl
    · exact rowNumber (x := k) (nubR8 _ 0) (by rw [hm]; exact nubR8c _ 2)
    · exact rowProduct (k := m) (u := u) hub (nubR8 _ 2) hpl (by rw [hr, h0]; exact kB_valc _ 0)
  · refine pure_of (ν := nub [k, p, m, r]) (args := [rw8 0, rw8 1]) (F := ⟨[], [neZ 3]⟩) ⟨fun q hq => (by cases hq), fun q hq => ?_⟩ mixed tab_ok (fun q hq => ?_) sh_says (by simp [concT, nubR8]) (by
      have h3 := nubR8 [k, p, m, r] 3
      unfold sharedV
      rw [if_neg h0]
      show (concT (nub [k, p, m, r]) [rw8 3, eOK]).map (fun vs => Value.tuple vs.toArray) = _
      simp only [concT, h3]
      rfl)
    · simp only [List.mem_cons, List.not_mem_nil, or_false] at hq
      subst hq
      exact neZ_holds (x := r) rfl hrb h0
    · simp only [shT, List.mem_cons, List.not_mem_nil, or_false] at hq
      rcases hq with rfl | rfl
      · exact rowNumber (x := k) (nubR8 _ 0) (by rw [hm]; exact nubR8c _ 2)
      · exact rowProduct (k := m) (u := u) hub (nubR8 _ 2) hpl (by rw [hr]; exact nubR8c _ 3)
theorem Shared_ok (k p : Nat) : Pure Try.prog 11 [byt k, byt p] (sharedV (lad (kmask k) (em (pmask p))).val) := sh_core k p _ _ _ rfl rfl rfl

/-! wakes -/

def wkK : Nat := 88925887110773138616681052956207043583107764937498542285260013040410376226469
def wkU : Nat := 34426434033919594451155107781188821651316167215306631574996226621102155684838
def wkV : Nat := 37325765543539916631701301279660700968428932651319597985674090122993663859395
theorem wk_run : nrun 34426434033919594451155107781188821651316167215306631574996226621102155684838 (fun x2 z2 _ _ => Nat.beq (nmul 37325765543539916631701301279660700968428932651319597985674090122993663859395 z2) x2 && !Nat.beq z2 0) (bitsOf 31029842492115040904895560451863089656472772604678260265531221036453811406496 255) 1 0 34426434033919594451155107781188821651316167215306631574996226621102155684838 1 = true := by kernel_rfl
theorem wk_lad : lad (kmask wkK) (em (pmask wkU)) = em wkV := by
  have e1 : kmask wkK = 31029842492115040904895560451863089656472772604678260265531221036453811406496 := by decide +kernel
  have e2 : pmask wkU = 34426434033919594451155107781188821651316167215306631574996226621102155684838 := by decide +kernel
  rw [e1, e2]
  exact lad_run (w := 37325765543539916631701301279660700968428932651319597985674090122993663859395) (by decide +kernel) (by decide +kernel) _ rfl wk_run
theorem wk_shared : Pure Try.prog 11 [byt wkK, byt wkU] (.tuple #[byt wkV, .int .i64 0]) := by
  have h := Shared_ok wkK wkU
  rw [wk_lad] at h
  have e : (em wkV).val = wkV := by decide +kernel
  rw [e] at h
  exact h
def wkT : List Row := [⟨11, [kB wkK, kB wkU], .tp [kB wkV, eOK]⟩]
theorem wk_says : says noFacts tree wkT 200 6 12 [] (heap0 [] gmax) (.b true) = true := by kernel_rfl
theorem wakes_ok : Pure Try.prog 12 [] (.bool true) := by
  refine pure_of (ν := nu []) (noFacts_hold _) mixed tab_ok (fun r hr => ?_) wk_says rfl rfl
  simp only [wkT, List.mem_cons, List.not_mem_nil, or_false] at hr
  subst hr
  exact ⟨[byt wkK, byt wkU], _, by simp [concT, kB_val], by show (concT (nu []) [kB wkV, eOK]).map (fun vs => Value.tuple vs.toArray) = _; simp only [concT, kB_val]; rfl, wk_shared⟩
theorem rowWakes {ν : Nat → Int} : Row.Ok ν Try.prog ⟨12, [], .b true⟩ := ⟨[], .bool true, rfl, rfl, wakes_ok⟩

theorem rowPublic {ν : Nat → Int} {p r : AV} {k x : Nat} (hx : (lad (kmask k) (em 9)).val = x) (h1 : conc2 ν p = some (byt k)) (h2 : conc ν r = some (byt x)) : Row.Ok ν Try.prog ⟨9, [p], r⟩ := ⟨[byt k], _, by simp [concT, h1], by rw [hx]; exact h2, Public_ok k⟩
theorem rowLadder {ν : Nat → Int} {p q r : AV} {k u x : Nat} (hx : (lad (kmask k) (em (pmask u))).val = x) (h1 : conc2 ν p = some (byt k)) (h2 : conc2 ν q = some (byt u)) (h3 : conc ν r = some (byt x)) : Row.Ok ν Try.prog ⟨10, [p, q], r⟩ := ⟨[byt k, byt u], _, by simp [concT, h1, h2], by rw [hx]; exact h3, Ladder_ok k u⟩
/-- Shared, where something comes of it. -/
theorem rowShared {ν : Nat → Int} {p q r : AV} {k u x : Nat} (hx : (lad (kmask k) (em (pmask u))).val = x) (h0 : x ≠ 0) (h1 : conc2 ν p = some (byt k)) (h2 : conc2 ν q = some (byt u)) (h3 : conc2 ν r = some (byt x)) : Row.Ok ν Try.prog ⟨11, [p, q], .tp [r, eOK]⟩ := by
  refine ⟨[byt k, byt u], _, by simp [concT, h1, h2], ?_, Shared_ok k u⟩
  rw [hx]
  unfold sharedV
  rw [if_neg h0]
  show (concT ν [r, eOK]).map (fun vs => Value.tuple vs.toArray) = _
  simp only [concT, h3]
  rfl
/-- .. and where nothing does. -/
theorem rowShared0 {ν : Nat → Int} {p q : AV} {k u : Nat} (hx : (lad (kmask k) (em (pmask u))).val = 0) (h1 : conc2 ν p = some (byt k)) (h2 : conc2 ν q = some (byt u)) : Row.Ok ν Try.prog ⟨11, [p, q], .tp [kB 0, eZero]⟩ := by
  refine ⟨[byt k, byt u], _, by simp [concT, h1, h2], ?_, Shared_ok k u⟩
  rw [hx]
  show (concT ν [kB 0, eZero]).map (fun vs => Value.tuple vs.toArray) = _
  simp only [concT, kB_val]
  rfl
theorem lad_lt (k : Nat) (u : F) : (lad k u).val < B4 := Nat.lt_trans (val_lt _) (by decide)

end Go.Proofs.Ytlalonomdblhdaa
