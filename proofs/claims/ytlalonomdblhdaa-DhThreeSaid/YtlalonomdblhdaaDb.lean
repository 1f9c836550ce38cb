/-
  THE LADDER: all of its rounds. Own work.
-/
import Derived.Test.YtlalonomdblhdaaDa
namespace Go.Proofs.Ytlalonomdblhdaa
open Go.Sh
set_option maxRecDepth 100000

theorem dget0 (cs : List AV) : (heapL (dH cs) 68).get 64 = some (b32 (cel 0)) ∧ (heapL (dH cs) 68).get 65 = some (b32 (cel 1)) ∧ (heapL (dH cs) 68).get 66 = some (b32 z32) ∧ (heapL (dH cs) 68).get 67 = some (bLad cs) := ⟨by kernel_rfl, by kernel_rfl, by kernel_rfl, by kernel_rfl⟩
theorem dget1 (cs : List AV) : (heapL (dH cs) 79).get 64 = some (b32 (cel 0)) ∧ (heapL (dH cs) 79).get 65 = some (b32 (cel 1)) ∧ (heapL (dH cs) 79).get 66 = some (b32 z32) ∧ (heapL (dH cs) 79).get 67 = some (bLad cs) := ⟨by kernel_rfl, by kernel_rfl, by kernel_rfl, by kernel_rfl⟩

theorem nub0 (k : Nat) (l : List Nat) : concT (nub (k :: l)) (cel 0) = some (celV k) := by kernel_rfl
theorem nub1 (k u : Nat) (l : List Nat) : concT (nub (k :: u :: l)) (cel 1) = some (celV u) := by kernel_rfl
theorem nubIn (k u x2 z2 x3 z3 : Nat) (l : List Nat) : concT (nub (k :: u :: x2 :: z2 :: x3 :: z3 :: l)) dIn = some (celV u ++ celV x2 ++ celV z2 ++ celV x3 ++ celV z3) := by kernel_rfl
theorem nubOutF (k u x2 z2 x3 z3 a b c d aa bb e da cb s m x3' mm z3' x2' e1 e2 z2' : Nat) : concT (nub (k :: u :: x2 :: z2 :: x3 :: z3 :: [a, b, c, d, aa, bb, e, da, cb, s, m, x3', mm, z3', x2', e1, e2, z2'])) (dOut false) = some (celV u ++ celV x2' ++ celV z2' ++ celV x3' ++ celV z3') := by kernel_rfl
theorem nubOutT (k u x2 z2 x3 z3 a b c d aa bb e da cb s m x3' mm z3' x2' e1 e2 z2' : Nat) : concT (nub (k :: u :: x2 :: z2 :: x3 :: z3 :: [a, b, c, d, aa, bb, e, da, cb, s, m, x3', mm, z3', x2', e1, e2, z2'])) (dOut true) = some (celV u ++ celV x3' ++ celV z3' ++ celV x2' ++ celV z2') := by kernel_rfl
theorem nubR (k u x2 z2 x3 z3 : Nat) (l : List Nat) : conc2 (nub (k :: u :: x2 :: z2 :: x3 :: z3 :: l)) (rw8 2) = some (byt x2) ∧ conc2 (nub (k :: u :: x2 :: z2 :: x3 :: z3 :: l)) (rw8 3) = some (byt z2) ∧ conc2 (nub (k :: u :: x2 :: z2 :: x3 :: z3 :: l)) (rw8 4) = some (byt x3) ∧ conc2 (nub (k :: u :: x2 :: z2 :: x3 :: z3 :: l)) (rw8 5) = some (byt z3) := ⟨by kernel_rfl, by kernel_rfl, by kernel_rfl, by kernel_rfl⟩

/-- So many rounds are left. -/
def dJ (w0 : World) (k u i : Nat) (act : Act) (w : World) : Prop :=
  i ≤ 255 ∧ ∃ x2 z2 x3 z3, x2 < B4 ∧ z2 < B4 ∧ x3 < B4 ∧ z3 < B4 ∧ (⟨em x2, em z2, em x3, em z3⟩ : L4) = flad (em u) k (255 - i) ∧ ∀ l, Holds 36 w0 (nub (k :: u :: x2 :: z2 :: x3 :: z3 :: l)) (dN ((i : Int) - 1) dIn) act w

theorem d_loop (w0 : World) (k u : Nat) (hu : u < B4) : Tri Try.prog 36 (.loop dBody) (dJ w0 k u 255) (fun ex act w => ex = .exit 0 ∧ dJ w0 k u 0 act w) := by
  refine Tri.loop (P := Try.prog) (N := 36) (x := dBody) (J := fun i => dJ w0 k u i) 255 ?_ ?_
  · intro i c hc act w ⟨hi, x2, z2, x3, z3, l2, m2, l3, m3, hs, hH⟩
    have hH' : ∀ l, Holds 36 w0 (nub (k :: u :: x2 :: z2 :: x3 :: z3 :: l)) (dN (.ofNat i) dIn) act w := by
      intro l
      have := hH l
      have e : (((i + 1 : Nat) : Int) - 1) = .ofNat i := by rw [Int.ofNat_eq_natCast]; omega
      rw [e] at this
      exact this
    have hg := d_goes i (by omega)
    simp only [dGo, Bool.and_eq_true] at hg
    have hfl : flad (em u) k (255 - i) = frnd (em u) (flad (em u) k (255 - (i + 1))) (k.testBit i) := by
      have e1 : 255 - i = 254 - i + 1 := by omega
      have e2 : 255 - (i + 1) = 254 - i := by omega
      have e3 : 254 - (254 - i) = i := by omega
      rw [e1, e2]
      show frnd (em u) (flad (em u) k (254 - i)) (k.testBit (254 - (254 - i))) = _
      rw [e3]
    rw [← hs] at hfl
    cases hb : k.testBit i
    · rw [hb] at hfl
      obtain ⟨l, hl⟩ := rnd_is u x2 z2 x3 z3
      have hf := rnd_field hl
      have hr := d_rows (k := k) (x2 := x2) (z2 := z2) (x3 := x3) (z3 := z3) hu l2 m2 l3 m3 hl 2 3 4 5 (fun l' => (nubR k u x2 z2 x3 z3 l').1) (fun l' => (nubR k u x2 z2 x3 z3 l').2.1) (fun l' => (nubR k u x2 z2 x3 z3 l').2.2.1) (fun l' => (nubR k u x2 z2 x3 z3 l').2.2.2)
      refine ((Tri.run (dbit_hold (by omega) false hb) mixed tab_ok hr hg.2).weak (fun _ _ h => h) (fun ex act w h => ?_)) c hc act w (hH' l)
      obtain ⟨a, b, c', d, aa, bb, e, da, cb, s, m, x3', mm, z3', x2', e1, e2, z2', rfl, _⟩ := hl
      obtain ⟨f1, f2, f3, f4, g1, g2, g3, g4⟩ := hf
      obtain ⟨q0, q1, q2, q3⟩ := dget1 (dOut false)
      refine .inl ⟨h.1, by omega, x2', z2', x3', z3', g1, g2, g3, g4, ?_, fun l => d_named h.2 (by decide) q0 q1 q2 q3 (nub0 k _) (nub1 k u _) (nub0 k _) (nub1 k u _) (nubOutF _ _ _ _ _ _ _ _ _ _ _ _ _ _ _ _ _ _ _ _ _ _ _ _) (nubIn k u x2' z2' x3' z3' l)⟩
      rw [hfl]
      show (⟨em x2', em z2', em x3', em z3'⟩ : L4) = fstep (em u) ⟨em x2, em z2, em x3, em z3⟩
      have f1' : em x2' = _ := f1
      have f2' : em z2' = _ := f2
      have f3' : em x3' = _ := f3
      have f4' : em z3' = _ := f4
      rw [f1', f2', f3', f4']
    · rw [hb] at hfl
      obtain ⟨l, hl⟩ := rnd_is u x3 z3 x2 z2
      have hf := rnd_field hl
      have hr := d_rows (k := k) (x2 := x2) (z2 := z2) (x3 := x3) (z3 := z3) hu l3 m3 l2 m2 hl 4 5 2 3 (fun l' => (nubR k u x2 z2 x3 z3 l').2.2.1) (fun l' => (nubR k u x2 z2 x3 z3 l').2.2.2) (fun l' => (nubR k u x2 z2 x3 z3 l').1) (fun l' => (nubR k u x2 z2 x3 z3 l').2.1)
      refine ((Tri.run (dbit_hold (by omega) true hb) mixed tab_ok hr hg.1).weak (fun _ _ h => h) (fun ex act w h => ?_)) c hc act w (hH' l)
      obtain ⟨a, b, c', d, aa, bb, e, da, cb, s, m, x3', mm, z3', x2', e1, e2, z2', rfl, _⟩ := hl
      obtain ⟨f1, f2, f3, f4, g1, g2, g3, g4⟩ := hf
      obtain ⟨q0, q1, q2, q3⟩ := dget1 (dOut true)
      refine .inl ⟨h.1, by omega, x3', z3', x2', z2', g3, g4, g1, g2, ?_, fun l => d_named h.2 (by decide) q0 q1 q2 q3 (nub0 k _) (nub1 k u _) (nub0 k _) (nub1 k u _) (nubOutT _ _ _ _ _ _ _ _ _ _ _ _ _ _ _ _ _ _ _ _ _ _ _ _) (nubIn k u x3' z3' x2' z2' l)⟩
      rw [hfl]
      show (⟨em x3', em z3', em x2', em z2'⟩ : L4) = fsw true (fstep (em u) ⟨em x3, em z3, em x2, em z2⟩)
      have f1' : em x2' = _ := f1
      have f2' : em z2' = _ := f2
      have f3' : em x3' = _ := f3
      have f4' : em z3' = _ := f4
      rw [f1', f2', f3', f4']
      rfl
  · intro c hc act w hJ
    obtain ⟨hi, x2, z2, x3, z3, l2, m2, l3, m3, hs, hH⟩ := hJ
    refine ((Tri.run (i := dN (-1) dIn) (noFacts_hold _) mixed tab_ok (fun r hr => by cases hr) d_ends).weak (fun _ _ h => h) (fun ex act w h => ?_)) c hc act w (hH [])
    refine ⟨by rw [h.1]; simp, h.1, hi, x2, z2, x3, z3, l2, m2, l3, m3, hs, fun l => ?_⟩
    obtain ⟨q0, q1, q2, q3⟩ := dget0 dIn
    exact d_named h.2 (by decide) q0 q1 q2 q3 (nub0 k _) (nub1 k u _) (nub0 k _) (nub1 k u _) (nubIn k u x2 z2 x3 z3 []) (nubIn k u x2 z2 x3 z3 l)

/-! from the start to the end -/

def dInit : List AV := cel 1 ++ one32 ++ z32 ++ cel 1 ++ one32
def dnow0 : Now := ⟨[(0, rw8 0), (1, rw8 1)], [], gmax⟩
def dnowA : Now := ⟨[(2, .p 64 0), (3, .p 65 0), (4, .p 66 0)], [(64, b32 (cel 0)), (65, b32 (cel 1)), (66, b32 z32)], 67⟩
def dnowB : Now := ⟨dE0, dH dInit, 68⟩
def dET : List Row := [⟨27, [rw8 3], rw8 6⟩, ⟨26, [rw8 2, rw8 6], rw8 7⟩]
def dnowE : Now := ⟨[(4, .p 66 0)], [(66, b32 (cel 7))], 68⟩
theorem dgoA : goes noFacts tree [] 60 2 dpA dnow0 .normal dnowA = true := by kernel_rfl
theorem dgoB : goes noFacts tree [] 60 2 dpB dnowA .normal dnowB = true := by kernel_rfl
theorem dgoC : goes noFacts tree [] 60 2 dpC dnowB .normal (dN 254 dInit) = true := by kernel_rfl
theorem dgoE : goes noFacts tree dET 60 2 dpE (dN (-1) dIn) .ret dnowE = true := by kernel_rfl

theorem expI_is : expInv = expI := rfl

theorem nubInit (k u : Nat) (l : List Nat) : concT (nub (k :: u :: l)) dInit = some (celV u ++ celV 1 ++ celV 0 ++ celV u ++ celV 1) := by kernel_rfl
theorem dgetI (cs : List AV) : (heapL (dH cs) 68).get 64 = some (b32 (cel 0)) ∧ (heapL (dH cs) 68).get 65 = some (b32 (cel 1)) ∧ (heapL (dH cs) 68).get 66 = some (b32 z32) ∧ (heapL (dH cs) 68).get 67 = some (bLad cs) := dget0 cs

theorem lad_end {k u x2 z2 x3 z3 : Nat} (hs : (⟨em x2, em z2, em x3, em z3⟩ : L4) = flad (em u) k 255) : x2 * (z2 ^ expInv % prime) % prime = (lad k (em u)).val := by
  refine of_em (Nat.mod_lt _ prime_pos) ?_
  rw [em_mul, expI_is, em_inv]
  unfold lad
  rw [← hs]
  rfl
theorem lad_begin (k u : Nat) : (⟨em 1, em 0, em u, em 1⟩ : L4) = flad (em u) k 0 := rfl

end Go.Proofs.Ytlalonomdblhdaa
