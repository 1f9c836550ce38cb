/-
  CurveEquation: for all its arguments the law returns true, where the curve's variables are laid as the program's text lays them. Conditions: none beside that one (the card ties it to the text).
-/
import Derived.Test.YtlalonomdblhdaaDoorJc
namespace Go.Proofs.YtlalonomdblhdaaDoor
open Go.Sh
open Go.ChangeShapes Go.WideShapes Go.ChangeAt Go.RowKit
set_option maxRecDepth 100000

/-! Which bytes are a point. -/

theorem not_A {n : Nat} (h : ¬ pmask n < prime) : ∀ P, enc P ≠ n := by
  rintro P rfl
  exact h (by rw [(enc_parts P).1]; exact val_lt _)
theorem xx_of {P : Pt} {yy o dy u i xx : Nat} (k : RdN (enc P) (pmask (enc P)) yy o dy u i xx) : em xx = P.x * P.x := by
  rw [(rdN_field k).1, (enc_parts P).1, em_val]
  exact on_xx.symm
theorem not_B {n yy o dy u i xx : Nat} (k : RdN n (pmask n) yy o dy u i xx) (hr : rootBy e8 e4 xx = none) : ∀ P, enc P ≠ n := by
  rintro P rfl
  have h := xx_of k
  by_cases hx : P.x = 0
  · have : xx = 0 := by
      have h0 : em xx = 0 := by
        rw [h, hx]
        rfl
      have := em_is_zero.1 h0
      rwa [Nat.mod_eq_of_lt (rdN_field k).2] at this
    rw [this, root_zero rfl] at hr
    cases hr
  · obtain ⟨r, hr'⟩ := root_of_sq h hx
    rw [hr'] at hr
    cases hr
theorem not_D {n yy o dy u i xx : Nat} (k : RdN n (pmask n) yy o dy u i xx) (hr : rootBy e8 e4 xx = some 0) (ho : n / two255 = 1) : ∀ P, enc P ≠ n := by
  rintro P rfl
  have h := xx_of k
  obtain ⟨r1, _, _⟩ := root_em hr
  rw [h] at r1
  have hx : P.x * P.x = 0 := r1.symm
  have hx0 : P.x = 0 := by rcases fz hx with h1 | h1 <;> exact h1
  rw [(enc_parts P).2, hx0] at ho
  exact absurd ho (by decide)
theorem is_C {n yy o dy u i xx r : Nat} (hn : n < B4) (k : RdN n (pmask n) yy o dy u i xx) (hr : rootBy e8 e4 xx = some r) (ho : n / two255 ≠ 1 ∨ r ≠ 0) : ∃ P, enc P = n := by
  obtain ⟨k1, _⟩ := rdN_field k
  obtain ⟨r1, r2, r3⟩ := root_em hr
  have hsplit : n = pmask n + two255 * (n / two255) := by
    unfold pmask two255
    omega
  have hq : n / two255 = 0 ∨ n / two255 = 1 := by
    unfold two255
    unfold B4 at hn
    omega
  have hyv : (em (pmask n)).val = pmask n := Nat.mod_eq_of_lt k.hyp
  have e : (em r).val = r := Nat.mod_eq_of_lt r2
  by_cases hz : n / two255 = 1
  · have h0 : r ≠ 0 := ho.resolve_left (fun h => h hz)
    have hx0 : em r ≠ 0 := fun hc => h0 (by
      have := em_is_zero.1 hc
      rwa [Nat.mod_eq_of_lt r2] at this)
    have hs : (-em r) * (-em r) = (em (pmask n) * em (pmask n) - 1) * inv (dE * (em (pmask n) * em (pmask n)) + 1) := by
      rw [← k1, ← r1]
      generalize em r = e
      grobner
    refine ⟨⟨-em r, em (pmask n), xx_on hs (den_all _)⟩, ?_⟩
    unfold enc
    simp only
    rw [hyv, neg_val hx0, e]
    have : (prime - r) % 2 = 1 := by
      unfold prime at *
      omega
    rw [this, ← hz]
    exact hsplit.symm
  · have hs : em r * em r = (em (pmask n) * em (pmask n) - 1) * inv (dE * (em (pmask n) * em (pmask n)) + 1) := by rw [← k1, ← r1]
    refine ⟨⟨em r, em (pmask n), xx_on hs (den_all _)⟩, ?_⟩
    unfold enc
    simp only
    rw [hyv, e, r3]
    have h5 := hq.resolve_right hz
    rw [h5] at hsplit
    exact hsplit.symm

/-! The law. -/

def n1 : Nat := 57896044618658097711785492504343953926634992332820282019728792003956564698284
def n2 : Nat := 37095705934669439343138083508754565189542113879843219016388785533085940283556
theorem n2_is : 121666 ^ expInv % prime = n2 := by
  rw [← pm_eq 256 121666 expInv (by decide)]
  decide +kernel
def eqT (M : AV) : List Row := [⟨27, [.ag (plB 0)], M⟩, ⟨28, [.ag (plB 0), .ag (plB 0)], rw8 2⟩, ⟨29, [kB 0, kB 121665], kB n1⟩, ⟨30, [kB 121666], kB n2⟩, ⟨28, [kB n1, kB n2], kB dNat⟩, ⟨29, [rw8 2, kB 1], rw8 3⟩, ⟨28, [kB dNat, rw8 2], rw8 4⟩, ⟨31, [rw8 4, kB 1], rw8 5⟩, ⟨30, [rw8 5], rw8 6⟩, ⟨28, [rw8 3, rw8 6], rw8 7⟩]
def rtN : List Row := [⟨32, [rw8 7], .tp [kB 0, .b false]⟩]
def rtY : List Row := [⟨32, [rw8 7], .tp [rw8 8, .b true]⟩]
def rtZ : List Row := [⟨32, [rw8 7], .tp [kB 0, .b true]⟩]
def eqG (e : AV) : List Row := [⟨10, [rw8 0], e⟩, ⟨17, [], .b true⟩]
def geqF (b : Bool) : BinOp × AI × AI × Bool := (.geq, .s 31, .c (.ofNat 128), b)
def neM : BinOp × AI × AI × Bool := neB (sL 32) plL
theorem eqAN_says (b : Bool) : saysG ⟨[], [geqF b, neM]⟩ tree (eqT (rw8 1) ++ rtN) glC (eqG ePoint) 400 6 6 [rw8 0] (.b true) = true := by cases b <;> kernel_rfl
theorem eqAY_says (b : Bool) : saysG ⟨[], [geqF b, neM]⟩ tree (eqT (rw8 1) ++ rtY) glC (eqG ePoint) 400 6 6 [rw8 0] (.b true) = true := by cases b <;> kernel_rfl
theorem eqB_says (b : Bool) : saysG ⟨[], [geqF b]⟩ tree (eqT (.ag (plB 0)) ++ rtN) glC (eqG ePoint) 400 6 6 [rw8 0] (.b true) = true := by cases b <;> kernel_rfl
theorem eqCe_says : saysG ⟨[], [geqF false]⟩ tree (eqT (.ag (plB 0)) ++ rtY) glC (eqG eOKg) 400 6 6 [rw8 0] (.b true) = true := by kernel_rfl
theorem eqCo_says : saysG ⟨[], [geqF true, neZ 8]⟩ tree (eqT (.ag (plB 0)) ++ rtY) glC (eqG eOKg) 400 6 6 [rw8 0] (.b true) = true := by kernel_rfl
theorem eqD_says : saysG ⟨[], [geqF true]⟩ tree (eqT (.ag (plB 0)) ++ rtZ) glC (eqG ePoint) 400 6 6 [rw8 0] (.b true) = true := by kernel_rfl

structure EqN (n y yy o dy u i xx : Nat) : Prop where
  hy : pmask n = y
  hyy : y * y % prime = yy
  ho : (yy + (prime - 1 % prime)) % prime = o
  hdy : dNat * yy % prime = dy
  hu : (dy + 1) % prime = u
  hi : u ^ expInv % prime = i
  hxx : o * i % prime = xx
theorem eqT_ok {n y yy o dy u i xx m : Nat} (k : EqN n y yy o dy u i xx) (l : List Nat) {M : AV} (hM : conc (nub (n :: m :: yy :: o :: dy :: u :: i :: xx :: l)) M = some (byt (y % prime))) : ∀ r ∈ eqT M, r.Ok (nub (n :: m :: yy :: o :: dy :: u :: i :: xx :: l)) Tryd.prog := by
  obtain ⟨hy, hyy, ho, hdy, hu, hi, hxx⟩ := k
  have hp := pl_row0 n (m :: yy :: o :: dy :: u :: i :: xx :: l)
  rw [hy] at hp
  have by' : y < B4 := hy ▸ pmask_lt n
  have byy : yy < B4 := hyy ▸ prime_lt _
  have bo : o < B4 := ho ▸ prime_lt _
  have bdy : dy < B4 := hdy ▸ prime_lt _
  have bu : u < B4 := hu ▸ prime_lt _
  have bi : i < B4 := hi ▸ prime_lt _
  intro r hr
  simp only [eqT, List.mem_cons, List.not_mem_nil, or_false] at hr
  rcases hr with rfl | rfl | rfl | rfl | rfl | rfl | rfl | rfl | rfl | rfl
  · exact rowModB by' hp hM
  · exact rowMulB by' by' hp hp (by rw [hyy]; exact nubR8c _ 2)
  · exact rowSubB (x := 0) (y := 121665) (by decide) (by decide) (kB_val _ _) (kB_val _ _) (by rw [show (0 + (prime - 121665 % prime)) % prime = n1 by decide +kernel]; exact kB_valc _ _)
  · exact rowInvB (x := 121666) (by decide) (kB_val _ _) (by rw [n2_is]; exact kB_valc _ _)
  · exact rowMulB (x := n1) (y := n2) (by decide) (by decide) (kB_val _ _) (kB_val _ _) (by rw [show n1 * n2 % prime = dNat by decide +kernel]; exact kB_valc _ _)
  · exact rowSubB byy (by decide) (nubR8 _ 2) (kB_val _ 1) (by rw [ho]; exact nubR8c _ 3)
  · exact rowMulB (by decide) byy (kB_val _ dNat) (nubR8 _ 2) (by rw [hdy]; exact nubR8c _ 4)
  · exact rowAddB bdy (by decide) (nubR8 _ 4) (kB_val _ 1) (by rw [hu]; exact nubR8c _ 5)
  · exact rowInvB bu (nubR8 _ 5) (by rw [hi]; exact nubR8c _ 6)
  · exact rowMulB bo bi (nubR8 _ 3) (nubR8 _ 6) (by rw [hxx]; exact nubR8c _ 7)
theorem EqN.lx {n y yy o dy u i xx : Nat} (k : EqN n y yy o dy u i xx) : xx < prime := k.hxx ▸ lt_prime _
theorem rdEq {n y yy o dy u i xx : Nat} (k : EqN n y yy o dy u i xx) (h : y < prime) : RdN n y yy o dy u i xx := ⟨k.hy, h, k.hyy, k.ho, k.hdy, k.hu, k.hi, k.hxx⟩

theorem geqF_hold {n : Nat} {l : List Nat} (hn : n < B4) (b : Bool) (hb : decide (n / two255 = 1) = b) : compare (geqF b).1 ((geqF b).2.1.val (nub (n :: l))) ((geqF b).2.2.1.val (nub (n :: l))) = (geqF b).2.2.2 := by
  show decide (nub (n :: l) 31 ≥ ((128 : Nat) : Int)) = b
  have h31 := nub_get (n :: l) 0 31 (by decide)
  rw [List.getD_cons_zero, byL_get n 31 (by decide)] at h31
  have h31' : nub (n :: l) 31 = ((n / 2 ^ (8 * 31) % 256 : Nat) : Int) := h31
  have e1 : (2 ^ (8 * 31) : Nat) = 452312848583266388373324160190187140051835877600158453279131187530910662656 := by decide
  rw [h31', e1, ← hb]
  have key : (128 ≤ n / 452312848583266388373324160190187140051835877600158453279131187530910662656 % 256) ↔ n / two255 = 1 := by
    unfold two255
    unfold B4 at hn
    omega
  by_cases h : n / two255 = 1
  · rw [decide_eq_true h]
    have := key.2 h
    exact decide_eq_true (by omega)
  · rw [decide_eq_false h]
    have : ¬ (128 ≤ n / 452312848583266388373324160190187140051835877600158453279131187530910662656 % 256) := fun hc => h (key.1 hc)
    exact decide_eq_false (by omega)

theorem eqG_bad {ν : Nat → Int} {n : Nat} (hn : n < B4) (h : ∀ P, enc P ≠ n) (h1 : conc2 ν (rw8 0) = some (byt n)) : ∀ r ∈ eqG ePoint, r.OkG ν Tryd.prog glC := by
  intro r hr
  simp only [eqG, List.mem_cons, List.not_mem_nil, or_false] at hr
  rcases hr with rfl | rfl
  · exact rowCheckN hn h h1
  · exact OkG_up upC rowWakesG
theorem eqG_good {ν : Nat → Int} {n : Nat} (h : ∃ P, enc P = n) (h1 : conc2 ν (rw8 0) = some (byt n)) : ∀ r ∈ eqG eOKg, r.OkG ν Tryd.prog glC := by
  intro r hr
  obtain ⟨P, hP⟩ := h
  simp only [eqG, List.mem_cons, List.not_mem_nil, or_false] at hr
  rcases hr with rfl | rfl
  · exact rowCheck hP h1
  · exact OkG_up upC rowWakesG

theorem eq_core (n y yy o dy u i xx : Nat) (hn : n < B4) (k : EqN n y yy o dy u i xx) : PureG Tryd.prog glC 6 [byt n] (.bool true) := by
  by_cases hyp : y < prime
  · have kr := rdEq k hyp
    have kr' : RdN n (pmask n) yy o dy u i xx := by rw [k.hy]; exact kr
    have hM : ∀ m l, conc (nub (n :: m :: yy :: o :: dy :: u :: i :: xx :: l)) (.ag (plB 0)) = some (byt (y % prime)) := fun m l => by
      have hp := pl_row0 n (m :: yy :: o :: dy :: u :: i :: xx :: l)
      rw [k.hy] at hp
      rw [Nat.mod_eq_of_lt hyp]
      exact hp
    cases hr : rootBy e8 e4 xx with
    | none =>
      refine pureG_of (ν := nub (n :: 0 :: yy :: o :: dy :: u :: i :: xx :: [])) (args := [rw8 0]) (F := ⟨[], [geqF (decide (n / two255 = 1))]⟩) ⟨fun q hq => (by cases hq), fun q hq => ?_⟩ mixed tab_ok glC_ok (fun r hr' => ?_) (eqG_bad hn (not_B kr' hr) (nubR8 _ 0)) (eqB_says _) (by simp [concT, nubR8]) rfl
      · simp only [List.mem_cons, List.not_mem_nil, or_false] at hq
        subst hq
        exact geqF_hold hn _ rfl
      · rcases List.mem_append.1 hr' with h | h
        · exact eqT_ok k [] (hM 0 []) r h
        · simp only [rtN, List.mem_cons, List.not_mem_nil, or_false] at h
          subst h
          exact rowRootN (pBl k.lx) hr (nubR8 _ 7) (tp2 false (kB_val _ 0))
    | some r =>
      obtain ⟨_, lr, _⟩ := root_em hr
      by_cases hz : n / two255 = 1
      · by_cases h0 : r = 0
        · subst h0
          refine pureG_of (ν := nub (n :: 0 :: yy :: o :: dy :: u :: i :: xx :: [])) (args := [rw8 0]) (F := ⟨[], [geqF true]⟩) ⟨fun q hq => (by cases hq), fun q hq => ?_⟩ mixed tab_ok glC_ok (fun r hr' => ?_) (eqG_bad hn (not_D kr' hr hz) (nubR8 _ 0)) eqD_says (by simp [concT, nubR8]) rfl
          · simp only [List.mem_cons, List.not_mem_nil, or_false] at hq
            subst hq
            exact geqF_hold hn _ (decide_eq_true hz)
          · rcases List.mem_append.1 hr' with h | h
            · exact eqT_ok k [] (hM 0 []) r h
            · simp only [rtZ, List.mem_cons, List.not_mem_nil, or_false] at h
              subst h
              exact rootRow (pBl k.lx) hr (nubR8 _ 7) (kB_val _ 0)
        · refine pureG_of (ν := nub (n :: 0 :: yy :: o :: dy :: u :: i :: xx :: [r])) (args := [rw8 0]) (F := ⟨[], [geqF true, neZ 8]⟩) ⟨fun q hq => (by cases hq), fun q hq => ?_⟩ mixed tab_ok glC_ok (fun r' hr' => ?_) (eqG_good (is_C hn kr' hr (.inr h0)) (nubR8 _ 0)) eqCo_says (by simp [concT, nubR8]) rfl
          · simp only [List.mem_cons, List.not_mem_nil, or_false] at hq
            rcases hq with rfl | rfl
            · exact geqF_hold hn _ (decide_eq_true hz)
            · exact neZ_holds (x := r) rfl (pBl lr) h0
          · rcases List.mem_append.1 hr' with h | h
            · exact eqT_ok k [r] (hM 0 [r]) r' h
            · simp only [rtY, List.mem_cons, List.not_mem_nil, or_false] at h
              subst h
              exact rootRow (pBl k.lx) hr (nubR8 _ 7) (nubR8 _ 8)
      · refine pureG_of (ν := nub (n :: 0 :: yy :: o :: dy :: u :: i :: xx :: [r])) (args := [rw8 0]) (F := ⟨[], [geqF false]⟩) ⟨fun q hq => (by cases hq), fun q hq => ?_⟩ mixed tab_ok glC_ok (fun r' hr' => ?_) (eqG_good (is_C hn kr' hr (.inl hz)) (nubR8 _ 0)) eqCe_says (by simp [concT, nubR8]) rfl
        · simp only [List.mem_cons, List.not_mem_nil, or_false] at hq
          subst hq
          exact geqF_hold hn _ (decide_eq_false hz)
        · rcases List.mem_append.1 hr' with h | h
          · exact eqT_ok k [r] (hM 0 [r]) r' h
          · simp only [rtY, List.mem_cons, List.not_mem_nil, or_false] at h
            subst h
            exact rootRow (pBl k.lx) hr (nubR8 _ 7) (nubR8 _ 8)
  · have hbad : ∀ P, enc P ≠ n := not_A (by rw [k.hy]; exact hyp)
    have hne : ∀ l, compare neM.1 (neM.2.1.val (nub (n :: y % prime :: l))) (neM.2.2.1.val (nub (n :: y % prime :: l))) = neM.2.2.2 := fun l => by
      refine neB_holds (x := y % prime) (y := pmask n) (prime_lt _) (pmask_lt n) (sL_val (n :: y % prime :: l) 1) (plL_val n _) ?_
      have := lt_prime y
      rw [k.hy]
      omega
    cases hr : rootBy e8 e4 xx with
    | none =>
      refine pureG_of (ν := nub (n :: y % prime :: yy :: o :: dy :: u :: i :: xx :: [])) (args := [rw8 0]) (F := ⟨[], [geqF (decide (n / two255 = 1)), neM]⟩) ⟨fun q hq => (by cases hq), fun q hq => ?_⟩ mixed tab_ok glC_ok (fun r hr' => ?_) (eqG_bad hn hbad (nubR8 _ 0)) (eqAN_says _) (by simp [concT, nubR8]) rfl
      · simp only [List.mem_cons, List.not_mem_nil, or_false] at hq
        rcases hq with rfl | rfl
        · exact geqF_hold hn _ rfl
        · exact hne _
      · rcases List.mem_append.1 hr' with h | h
        · exact eqT_ok k [] (nubR8c _ 1) r h
        · simp only [rtN, List.mem_cons, List.not_mem_nil, or_false] at h
          subst h
          exact rowRootN (pBl k.lx) hr (nubR8 _ 7) (tp2 false (kB_val _ 0))
    | some r =>
      refine pureG_of (ν := nub (n :: y % prime :: yy :: o :: dy :: u :: i :: xx :: [r])) (args := [rw8 0]) (F := ⟨[], [geqF (decide (n / two255 = 1)), neM]⟩) ⟨fun q hq => (by cases hq), fun q hq => ?_⟩ mixed tab_ok glC_ok (fun r' hr' => ?_) (eqG_bad hn hbad (nubR8 _ 0)) (eqAY_says _) (by simp [concT, nubR8]) rfl
      · simp only [List.mem_cons, List.not_mem_nil, or_false] at hq
        rcases hq with rfl | rfl
        · exact geqF_hold hn _ rfl
        · exact hne _
      · rcases List.mem_append.1 hr' with h | h
        · exact eqT_ok k [r] (nubR8c _ 1) r' h
        · simp only [rtY, List.mem_cons, List.not_mem_nil, or_false] at h
          subst h
          exact rootRow (pBl k.lx) hr (nubR8 _ 7) (nubR8 _ 8)
theorem curveEquation_law (n : Nat) (hn : n < B4) : PureG Tryd.prog glC 6 [byt n] (.bool true) := eq_core n _ _ _ _ _ _ _ hn ⟨rfl, rfl, rfl, rfl, rfl, rfl, rfl⟩

abbrev curveEquationLaid : List (String × DataW Unit) := Rows.curveEquationRow.laid
theorem curveEquation_met (os : Os) (args : Array Value) : laidMetH Tryd.prog curveEquationLaid ((World.doorLaid Tryd.prog 400 os).forCall (fun _ _ => 0) ⟨#[], args, []⟩).memory :=
  laidMetH_of_parts3 (fuel := 8) (laidMet_of_run' 8 (by kernel_rfl) (by kernel_rfl)) (by kernel_rfl) (by kernel_rfl)

theorem curveEquation_lifted (os : Os) (started : os.Started) (H : Type) (enc : TypeId × Value → H) :
    ReturnsInHanded {} Tryd.checked os 6 .any (fun w args => (Rows.curveEquationSpec.pre enc Tryd.prog Tryd.f6 [] false w args ∧ laidMetH Tryd.prog curveEquationLaid w) ∧ sizedMet enc Tryd.prog Tryd.f6 (OpenSpec.ofChange Rows.curveEquationSpec) false w args)
      (Rows.curveEquationSpec.post enc Tryd.prog Tryd.f6 false true false false) := by
  refine returnsInHanded_of_change_and (C := Tryd.checked) (X := fun w _ => laidMetH Tryd.prog curveEquationLaid w) (fun _ _ _ hh h => h.of_heap hh) own started (by kernel_rfl) Tryd.func6
    (ChangeSpec.witness_shaped (enc := enc) (C := Tryd.checked) (os := os) (X := fun w _ => laidMetH Tryd.prog curveEquationLaid w) false (World.doorLaid Tryd.prog 400 os) #[byt 0] 8 rfl (World.shaped_of_RefB (by kernel_rfl) (by kernel_rfl)) (by kernel_rfl) (by kernel_rfl) (by kernel_rfl) (curveEquation_met os _)) ?_
  intro W base args ds gs before hval0 hW _ _ hL _
  have hval : ∀ (j : Nat) t v, Tryd.f6.params[j]? = some t → args[j]? = some v → Value.okWide Tryd.prog W .any base t v := hval0
  have hW' := hW
  obtain ⟨p, q, hA0, hV, rfl, hfz, hnd⟩ := hW
  have hA : DataW.TrodAll enc Tryd.prog W 0 (fun _ => true) true Tryd.f6.params.toList args.toList ds p := hA0
  rw [Tryd.params6] at hA hval
  obtain ⟨v0, vs0, d0, ds0, p0, q0, hargs, rfl, rfl, h0, r0⟩ := trodAll_cons hA
  obtain ⟨rfl, rfl, rfl⟩ := trodAll_nil r0
  obtain rfl : args = #[v0] := by cases args; simp_all
  obtain ⟨rfl, rfl⟩ := trodVars_none hV
  obtain ⟨a0, b0, rfl, rfl, s0⟩ := open_num (hval 0 _ v0 rfl rfl) h0
  clear hA0 hval0
  simp only [List.append_nil] at hW'
  refine ((curveEquation_law a0 b0).2 W (laidC hL)).mono fun e W' ⟨he, hg⟩ => ?_
  subst he
  exact ⟨_, rfl, post_below (pa := []) (pv := []) hW' (fun _ _ _ => trodAll_cons_mk (shut_bool Tryd.underlying4 _) trodAll_mk0) (fun sp _ => (trodAll_cons_mk (s0 _ _ _ _ _) trodAll_mk0)) (fun _ _ => rfl) rfl
    hg (ok_one (by kernel_rfl) rfl (okWide_bool_mk Tryd.underlying4 _))⟩

theorem curveEquation_over : Rows.CurveEquationSaid :=
  OpenClaim.holds_of_wide 6 Tryd.f6 rfl rfl rfl rfl rfl rfl rfl ⟨rfl, rfl, rfl, rfl, rfl⟩ rfl rfl rfl rfl rfl (by kernel_rfl) Tryd.func6 (by kernel_rfl)
    (of_decide_eq_true (by kernel_rfl)) (by unfold Func.isWrapper; first | (rw [if_pos (by decide +kernel)]; kernel_rfl) | (rw [if_neg (by decide +kernel)]; exact ⟨rfl, rfl⟩))
    (fun os started H enc _ => curveEquation_lifted os started H enc)

/-- THE STATEMENT. -/
theorem curveEquation_holds : Rows.CurveEquationCardSaid :=
  Claim7.holds_tied_plain_at .later [] [.data, .data, .data, .data] true (true, "f058b10e4c3dc150723787051f4944b128d27700496289b34a03bfc7ec75b735") false
    curveEquation_over (fun _ h => by cases h) (by kernel_rfl) (fun _ h => by cases h) curveEquation_row_tie rfl ⟨rfl, rfl⟩ (by kernel_rfl) rfl
    (fun f fn hf hfn => by
      obtain rfl : f = 6 := Option.some.inj ((show Tryd.prog.funcNamed "tryst/trystlaw08.CurveEquation" = some 6 by kernel_rfl).symm.trans hf) |>.symm
      obtain rfl : fn = Tryd.f6 := (Option.some.inj (Tryd.func6.symm.trans hfn)).symm
      exact ⟨by kernel_rfl, fun j t ht => by
        rw [Tryd.params6] at ht
        have hm : t ∈ [22] := by simpa using Array.mem_of_getElem? ht
        have hall : ([22].all fun u => !Tryd.prog.wantsStandIn u) = true := by kernel_rfl
        exact (show Tryd.prog.wantsStandIn t = false by simpa using List.all_eq_true.1 hall t hm)⟩)
    (by kernel_rfl)
#print axioms curveEquation_holds
end Go.Proofs.YtlalonomdblhdaaDoor
