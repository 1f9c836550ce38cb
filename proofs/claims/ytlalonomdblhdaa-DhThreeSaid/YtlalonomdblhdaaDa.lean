/-
  THE LADDER: what dh's product answers. Own work.
-/
import Derived.Test.YtlalonomdblhdaaGa
namespace Go.Proofs.Ytlalonomdblhdaa
open Go.Sh
set_option maxRecDepth 100000

/-! Names of numbers of 32 bytes: 32 names each. -/

def nub (l : List Nat) : Nat → Int := fun k => (((byL (l.getD (k / 32) 0)).getD (k % 32) 0 : Nat) : Int)
def cel (j : Nat) : List AV := (List.range 32).map fun i => bt (32 * j + i)
def rw8 (j : Nat) : AV := .ag (cel j)
def z32 : List AV := List.replicate 32 (.i .u8 (.c (.ofNat 0)))

theorem a_and8 (x y : Nat) (hx : x < 256) (hy : y < 256) : arith .and .u8 (x : Int) (y : Int) = ((x &&& y : Nat) : Int) := by
  have h : (BitVec.ofInt 8 (x : Int) &&& BitVec.ofInt 8 (y : Int)).toNat = x &&& y := by
    rw [BitVec.toNat_and]
    simp only [BitVec.ofInt_natCast, BitVec.toNat_ofNat, Nat.reducePow, Nat.mod_eq_of_lt hx, Nat.mod_eq_of_lt hy]
  have hl : (BitVec.ofInt 8 (x : Int) &&& BitVec.ofInt 8 (y : Int)).toNat < 256 := (BitVec.ofInt 8 (x : Int) &&& BitVec.ofInt 8 (y : Int)).isLt
  show IntKind.u8.wrap ((BitVec.ofInt 8 (x : Int) &&& BitVec.ofInt 8 (y : Int)).toNat : Int) = _
  rw [wrap8, h]
  rw [h] at hl
  omega

theorem byL_get (x : Nat) : ∀ j, j < 32 → (byL x).getD j 0 = x / 2 ^ (8 * j) % 256 := by
  have h : (List.range 32).all (fun j => j < 32) = true := by decide
  intro j hj
  have : j = 0 ∨ j = 1 ∨ j = 2 ∨ j = 3 ∨ j = 4 ∨ j = 5 ∨ j = 6 ∨ j = 7 ∨ j = 8 ∨ j = 9 ∨ j = 10 ∨ j = 11 ∨ j = 12 ∨ j = 13 ∨ j = 14 ∨ j = 15 ∨ j = 16 ∨ j = 17 ∨ j = 18 ∨ j = 19 ∨ j = 20 ∨ j = 21 ∨ j = 22 ∨ j = 23 ∨ j = 24 ∨ j = 25 ∨ j = 26 ∨ j = 27 ∨ j = 28 ∨ j = 29 ∨ j = 30 ∨ j = 31 := by omega
  rcases this with rfl | rfl | rfl | rfl | rfl | rfl | rfl | rfl | rfl | rfl | rfl | rfl | rfl | rfl | rfl | rfl | rfl | rfl | rfl | rfl | rfl | rfl | rfl | rfl | rfl | rfl | rfl | rfl | rfl | rfl | rfl | rfl <;>
    (simp only [byL, bL, List.cons_append, List.nil_append, List.getD_cons_zero, List.getD_cons_succ, Nat.reduceMul, Nat.reducePow, Sh.w0, w1, w2, w3]; omega)

theorem bit_in (e a w r : Nat) (hr : r < w) : e / 2 ^ a % 2 ^ w / 2 ^ r % 2 = e / 2 ^ (a + r) % 2 := by
  have h1 : (e / 2 ^ a % 2 ^ w).testBit r = e.testBit (a + r) := by
    rw [Nat.testBit_mod_two_pow, decide_eq_true hr, Bool.true_and, Nat.testBit_div_two_pow, Nat.add_comm]
  rw [Nat.testBit_eq_decide_div_mod_eq, Nat.testBit_eq_decide_div_mod_eq] at h1
  have h2 := decide_eq_decide.1 h1
  omega

/-! its pieces -/

def dp : IC := t15.body
def dpA : IC := dp.sub [false]
def dpB : IC := dp.sub [true, false]
def dpC : IC := dp.sub [true, true, false, false]
def dBody : IC := dp.sub [true, true, false, true, false, false]
def dpE : IC := dp.sub [true, true, true]
theorem dp_shape : t15 = ⟨.seq dpA (.seq dpB (.seq (.seq dpC (.block 0 (.loop dBody))) dpE)), [.c 4 (some 32)], 36⟩ := by kernel_rfl

def b32 (cs : List AV) : ABlk := ⟨cs, 22, true⟩
def bLad (cs : List AV) : ABlk := ⟨cs, 45, true⟩
def one32 : List AV := .i .u8 (.c (.ofNat 1)) :: List.replicate 31 (.i .u8 (.c (.ofNat 0)))
def dE0 : List (Nat × AV) := [(2, .p 64 0), (3, .p 65 0), (4, .p 66 0), (5, .p 67 0)]
def dH (cs : List AV) : List (Nat × ABlk) := [(64, b32 (cel 0)), (65, b32 (cel 1)), (66, b32 z32), (67, bLad cs)]
def dN (k : Int) (cs : List AV) : Now := ⟨(6, .i .i64 (.c k)) :: dE0, dH cs, 68⟩
def dN' (k : Int) (cs : List AV) : Now := ⟨(6, .i .i64 (.c k)) :: dE0, dH cs, 79⟩
def dIn : List AV := cel 1 ++ cel 2 ++ cel 3 ++ cel 4 ++ cel 5
def dOut (b : Bool) : List AV := if b then cel 1 ++ cel 17 ++ cel 19 ++ cel 20 ++ cel 23 else cel 1 ++ cel 20 ++ cel 23 ++ cel 17 ++ cel 19
def bitB (k : Nat) (b : Bool) : Facts := ⟨[], [(.eql, .e .and .u8 (.e .shr .u8 (.s (k / 8)) (.c (.ofNat (k % 8)))) (.c (.ofNat 1)), .c (.ofNat 1), b)]⟩
def k121665 : AV := .ag ((byL 121665).map fun n => .i .u8 (.c (.ofNat n)))
/-- One round's calls, on the four numbers at these places. -/
def dT (p q r s : Nat) : List Row := [⟨33, [rw8 p, rw8 q], rw8 6⟩, ⟨34, [rw8 p, rw8 q], rw8 7⟩, ⟨33, [rw8 r, rw8 s], rw8 8⟩, ⟨34, [rw8 r, rw8 s], rw8 9⟩, ⟨26, [rw8 6, rw8 6], rw8 10⟩, ⟨26, [rw8 7, rw8 7], rw8 11⟩, ⟨34, [rw8 10, rw8 11], rw8 12⟩,
  ⟨26, [rw8 9, rw8 6], rw8 13⟩, ⟨26, [rw8 8, rw8 7], rw8 14⟩, ⟨33, [rw8 13, rw8 14], rw8 15⟩, ⟨34, [rw8 13, rw8 14], rw8 16⟩, ⟨26, [rw8 15, rw8 15], rw8 17⟩, ⟨26, [rw8 16, rw8 16], rw8 18⟩, ⟨26, [rw8 1, rw8 18], rw8 19⟩,
  ⟨26, [rw8 10, rw8 11], rw8 20⟩, ⟨26, [k121665, rw8 12], rw8 21⟩, ⟨33, [rw8 10, rw8 21], rw8 22⟩, ⟨26, [rw8 12, rw8 22], rw8 23⟩]
def dTb (b : Bool) : List Row := if b then dT 4 5 2 3 else dT 2 3 4 5
noncomputable def dGo (k : Nat) : Bool := goes (bitB k true) tree (dTb true) 60 3 dBody (dN (.ofNat k) dIn) .normal (dN' ((k : Int) - 1) (dOut true)) && goes (bitB k false) tree (dTb false) 60 3 dBody (dN (.ofNat k) dIn) .normal (dN' ((k : Int) - 1) (dOut false))
theorem d_goes0 : (List.range 64).all (fun k => dGo k) = true := by kernel_rfl

theorem d_goes1 : (List.range 64).all (fun k => dGo (64 + k)) = true := by kernel_rfl
theorem d_goes2 : (List.range 64).all (fun k => dGo (128 + k)) = true := by kernel_rfl
theorem d_goes3 : (List.range 63).all (fun k => dGo (192 + k)) = true := by kernel_rfl
theorem d_goes (k : Nat) (h : k < 255) : dGo k = true := by
  by_cases h0 : k < 64
  · exact List.all_eq_true.1 d_goes0 k (List.mem_range.2 h0)
  · by_cases h1 : k < 128
    · have := List.all_eq_true.1 d_goes1 (k - 64) (List.mem_range.2 (by omega))
      rwa [show 64 + (k - 64) = k by omega] at this
    · by_cases h2 : k < 192
      · have := List.all_eq_true.1 d_goes2 (k - 128) (List.mem_range.2 (by omega))
        rwa [show 128 + (k - 128) = k by omega] at this
      · have := List.all_eq_true.1 d_goes3 (k - 192) (List.mem_range.2 (by omega))
        rwa [show 192 + (k - 192) = k by omega] at this
theorem d_ends : goes noFacts tree [] 60 2 dBody (dN (-1) dIn) (.exit 0) (dN (-1) dIn) = true := by kernel_rfl

/-! the rounds, in numbers -/

/-- What a round makes of four numbers, in the order of its calls. -/
structure Rnd (u x2 z2 x3 z3 : Nat) (l : List Nat) : Prop where
  len : ∃ a b c d aa bb e da cb s m x3' mm z3' x2' e1 e2 z2', l = [a, b, c, d, aa, bb, e, da, cb, s, m, x3', mm, z3', x2', e1, e2, z2'] ∧
    a = (x2 + z2) % prime ∧ b = (x2 + (prime - z2 % prime)) % prime ∧ c = (x3 + z3) % prime ∧ d = (x3 + (prime - z3 % prime)) % prime ∧ aa = a * a % prime ∧ bb = b * b % prime ∧ e = (aa + (prime - bb % prime)) % prime ∧ da = d * a % prime ∧ cb = c * b % prime ∧
    s = (da + cb) % prime ∧ m = (da + (prime - cb % prime)) % prime ∧ x3' = s * s % prime ∧ mm = m * m % prime ∧ z3' = u * mm % prime ∧ x2' = aa * bb % prime ∧ e1 = 121665 * e % prime ∧ e2 = (aa + e1) % prime ∧ z2' = e * e2 % prime

theorem d_rows {k u x2 z2 x3 z3 p2 q2 p3 q3 : Nat} {l : List Nat} (hu : u < B4) (h1 : p2 < B4) (h2 : q2 < B4) (h3 : p3 < B4) (h4 : q3 < B4) (h : Rnd u p2 q2 p3 q3 l) (i2 j2 i3 j3 : Nat)
    (c1 : ∀ l', conc2 (nub (k :: u :: x2 :: z2 :: x3 :: z3 :: l')) (rw8 i2) = some (byt p2)) (c2 : ∀ l', conc2 (nub (k :: u :: x2 :: z2 :: x3 :: z3 :: l')) (rw8 j2) = some (byt q2)) (c3 : ∀ l', conc2 (nub (k :: u :: x2 :: z2 :: x3 :: z3 :: l')) (rw8 i3) = some (byt p3)) (c4 : ∀ l', conc2 (nub (k :: u :: x2 :: z2 :: x3 :: z3 :: l')) (rw8 j3) = some (byt q3)) :
    ∀ r ∈ dT i2 j2 i3 j3, r.Ok (nub (k :: u :: x2 :: z2 :: x3 :: z3 :: l)) Try.prog := by
  obtain ⟨a, b, c, d, aa, bb, e, da, cb, s, m, x3', mm, z3', x2', e1, e2, z2', rfl, ha, hb, hc, hd, haa, hbb, he, hda, hcb, hs, hm, hx3, hmm, hz3, hx2, he1, he2, hz2⟩ := h
  have la : a < B4 := ha ▸ prime_lt _
  have lb : b < B4 := hb ▸ prime_lt _
  have lc : c < B4 := hc ▸ prime_lt _
  have ld : d < B4 := hd ▸ prime_lt _
  have laa : aa < B4 := haa ▸ prime_lt _
  have lbb : bb < B4 := hbb ▸ prime_lt _
  have le : e < B4 := he ▸ prime_lt _
  have lda : da < B4 := hda ▸ prime_lt _
  have lcb : cb < B4 := hcb ▸ prime_lt _
  have ls : s < B4 := hs ▸ prime_lt _
  have lm : m < B4 := hm ▸ prime_lt _
  have lmm : mm < B4 := hmm ▸ prime_lt _
  have le1 : e1 < B4 := he1 ▸ prime_lt _
  have le2 : e2 < B4 := he2 ▸ prime_lt _
  intro r hr
  simp only [dT, List.mem_cons, List.not_mem_nil, or_false] at hr
  rcases hr with rfl | rfl | rfl | rfl | rfl | rfl | rfl | rfl | rfl | rfl | rfl | rfl | rfl | rfl | rfl | rfl | rfl | rfl
  · exact rowAddB h1 h2 (c1 _) (c2 _) (by rw [← ha]; kernel_rfl)
  · exact rowSubB h1 h2 (c1 _) (c2 _) (by rw [← hb]; kernel_rfl)
  · exact rowAddB h3 h4 (c3 _) (c4 _) (by rw [← hc]; kernel_rfl)
  · exact rowSubB h3 h4 (c3 _) (c4 _) (by rw [← hd]; kernel_rfl)
  · exact rowMulB la la (by kernel_rfl) (by kernel_rfl) (by rw [← haa]; kernel_rfl)
  · exact rowMulB lb lb (by kernel_rfl) (by kernel_rfl) (by rw [← hbb]; kernel_rfl)
  · exact rowSubB laa lbb (by kernel_rfl) (by kernel_rfl) (by rw [← he]; kernel_rfl)
  · exact rowMulB ld la (by kernel_rfl) (by kernel_rfl) (by rw [← hda]; kernel_rfl)
  · exact rowMulB lc lb (by kernel_rfl) (by kernel_rfl) (by rw [← hcb]; kernel_rfl)
  · exact rowAddB lda lcb (by kernel_rfl) (by kernel_rfl) (by rw [← hs]; kernel_rfl)
  · exact rowSubB lda lcb (by kernel_rfl) (by kernel_rfl) (by rw [← hm]; kernel_rfl)
  · exact rowMulB ls ls (by kernel_rfl) (by kernel_rfl) (by rw [← hx3]; kernel_rfl)
  · exact rowMulB lm lm (by kernel_rfl) (by kernel_rfl) (by rw [← hmm]; kernel_rfl)
  · exact rowMulB hu lmm (by kernel_rfl) (by kernel_rfl) (by rw [← hz3]; kernel_rfl)
  · exact rowMulB laa lbb (by kernel_rfl) (by kernel_rfl) (by rw [← hx2]; kernel_rfl)
  · exact rowMulB (x := 121665) (by decide) le (by kernel_rfl) (by kernel_rfl) (by rw [← he1]; kernel_rfl)
  · exact rowAddB laa le1 (by kernel_rfl) (by kernel_rfl) (by rw [← he2]; kernel_rfl)
  · exact rowMulB le le2 (by kernel_rfl) (by kernel_rfl) (by rw [← hz2]; kernel_rfl)

/-- A round in the field. -/
theorem rnd_field {u x2 z2 x3 z3 : Nat} {l : List Nat} (h : Rnd u x2 z2 x3 z3 l) : em (l.getD 14 0) = (fstep (em u) ⟨em x2, em z2, em x3, em z3⟩).x2 ∧ em (l.getD 17 0) = (fstep (em u) ⟨em x2, em z2, em x3, em z3⟩).z2 ∧ em (l.getD 11 0) = (fstep (em u) ⟨em x2, em z2, em x3, em z3⟩).x3 ∧
    em (l.getD 13 0) = (fstep (em u) ⟨em x2, em z2, em x3, em z3⟩).z3 ∧ l.getD 14 0 < B4 ∧ l.getD 17 0 < B4 ∧ l.getD 11 0 < B4 ∧ l.getD 13 0 < B4 := by
  obtain ⟨a, b, c, d, aa, bb, e, da, cb, s, m, x3', mm, z3', x2', e1, e2, z2', rfl, ha, hb, hc, hd, haa, hbb, he, hda, hcb, hs, hm, hx3, hmm, hz3, hx2, he1, he2, hz2⟩ := h
  have fa : em a = em x2 + em z2 := by rw [ha, em_add]
  have fb : em b = em x2 - em z2 := by rw [hb, em_sub]
  have fc : em c = em x3 + em z3 := by rw [hc, em_add]
  have fd : em d = em x3 - em z3 := by rw [hd, em_sub]
  have faa : em aa = em a * em a := by rw [haa, em_mul]
  have fbb : em bb = em b * em b := by rw [hbb, em_mul]
  have fe : em e = em aa - em bb := by rw [he, em_sub]
  have fda : em da = em d * em a := by rw [hda, em_mul]
  have fcb : em cb = em c * em b := by rw [hcb, em_mul]
  have fs : em s = em da + em cb := by rw [hs, em_add]
  have fm : em m = em da - em cb := by rw [hm, em_sub]
  have fe1 : em e1 = 121665 * em e := by rw [he1, em_mul]; rfl
  have fe2 : em e2 = em aa + em e1 := by rw [he2, em_add]
  refine ⟨?_, ?_, ?_, ?_, hx2 ▸ prime_lt _, hz2 ▸ prime_lt _, hx3 ▸ prime_lt _, hz3 ▸ prime_lt _⟩
  · show em x2' = _
    rw [hx2, em_mul, faa, fbb, fa, fb]
    rfl
  · show em z2' = _
    rw [hz2, em_mul, fe2, fe1, fe, faa, fbb, fa, fb]
    rfl
  · show em x3' = _
    rw [hx3, em_mul, fs, fda, fcb, fa, fb, fc, fd]
    rfl
  · show em z3' = _
    rw [hz3, em_mul, hmm, em_mul, fm, fda, fcb, fa, fb, fc, fd]
    rfl

theorem rnd_is (u x2 z2 x3 z3 : Nat) : ∃ l, Rnd u x2 z2 x3 z3 l := ⟨_, ⟨_, _, _, _, _, _, _, _, _, _, _, _, _, _, _, _, _, _, rfl, rfl, rfl, rfl, rfl, rfl, rfl, rfl, rfl, rfl, rfl, rfl, rfl, rfl, rfl, rfl, rfl, rfl, rfl⟩⟩

theorem dbit_hold {k i : Nat} {l : List Nat} (hi : i < 255) (b : Bool) (hb : k.testBit i = b) : (bitB i b).Hold (nub (k :: l)) := by
  refine ⟨fun p hp => (by cases hp), fun p hp => ?_⟩
  simp only [bitB, List.mem_cons, List.not_mem_nil, or_false] at hp
  subst hp
  show (arith .and .u8 (arith .shr .u8 (nub (k :: l) (i / 8)) ((i % 8 : Nat) : Int)) ((1 : Nat) : Int) == ((1 : Nat) : Int)) = b
  have e1 : nub (k :: l) (i / 8) = ((k / 2 ^ (8 * (i / 8)) % 2 ^ 8 : Nat) : Int) := by
    unfold nub
    have h0 : i / 8 / 32 = 0 := by omega
    have h1 : i / 8 % 32 = i / 8 := by omega
    rw [h0, h1, List.getD_cons_zero, byL_get k (i / 8) (by omega)]
  have hm : i % 8 < 8 := Nat.mod_lt _ (by decide)
  have l1 : k / 2 ^ (8 * (i / 8)) % 2 ^ 8 / 2 ^ (i % 8) < 256 := Nat.lt_of_le_of_lt (Nat.div_le_self _ _) (Nat.mod_lt _ (by decide))
  rw [e1, a_shr .u8 _ (i % 8) (Nat.le_of_lt hm), a_and8 _ 1 l1 (by decide), Nat.and_one_is_mod, bit_in _ _ _ _ hm, show 8 * (i / 8) + i % 8 = i by omega, ← hb, Nat.testBit_eq_decide_div_mod_eq]
  by_cases h : k / 2 ^ i % 2 = 1
  · simp only [h, decide_true]; rfl
  · have : k / 2 ^ i % 2 = 0 := by omega
    simp only [this]; decide

theorem blk32_map (cs : List AV) : (b32 cs).elem ≠ mapTag := by show 22 ≠ mapTag; decide
theorem blkL_map (cs : List AV) : (bLad cs).elem ≠ mapTag := by show 45 ≠ mapTag; decide

def celV (x : Nat) : List Value := (byL x).map u8

/-- The state under new names. -/
theorem d_named {w0 : World} {k u : Nat} {ν ν' : Nat → Int} {i : Int} {cs cs' : List AV} {n : Nat} {us : List Value} {act : Act} {w : World} (h : Holds 36 w0 ν ⟨(6, .i .i64 (.c i)) :: dE0, dH cs, n⟩ act w) (hn : 68 ≤ n) (hg0 : (heapL (dH cs) n).get 64 = some (b32 (cel 0))) (hg1 : (heapL (dH cs) n).get 65 = some (b32 (cel 1))) (hg2 : (heapL (dH cs) n).get 66 = some (b32 z32)) (hg3 : (heapL (dH cs) n).get 67 = some (bLad cs))
    (c0 : concT ν (cel 0) = some (celV k)) (c1 : concT ν (cel 1) = some (celV u)) (c0' : concT ν' (cel 0) = some (celV k)) (c1' : concT ν' (cel 1) = some (celV u)) (cc : concT ν cs = some us) (cc' : concT ν' cs' = some us) : Holds 36 w0 ν' (dN i cs') act w := by
  have _ := hn
  refine h.renumS (by decide) (fun p hp => ?_) fun p hp => ?_
  · simp only [dE0, List.mem_cons, List.not_mem_nil, or_false] at hp
    rcases hp with rfl | rfl | rfl | rfl | rfl
    · exact .inl ⟨.i .i64 (.c i), .int .i64 i, by simp, rfl, rfl⟩
    · exact .inr ⟨64, 0, rfl, by decide, by simp [dE0]⟩
    · exact .inr ⟨65, 0, rfl, by decide, by simp [dE0]⟩
    · exact .inr ⟨66, 0, rfl, by decide, by simp [dE0]⟩
    · exact .inr ⟨67, 0, rfl, by decide, by simp [dE0]⟩
  · simp only [dH, List.mem_cons, List.not_mem_nil, or_false] at hp
    rcases hp with rfl | rfl | rfl | rfl
    · exact ⟨by decide, by decide, _, _, hg0, rfl, rfl, blk32_map _, c0, c0'⟩
    · exact ⟨by decide, by decide, _, _, hg1, rfl, rfl, blk32_map _, c1, c1'⟩
    · exact ⟨by decide, by decide, _, List.replicate 32 (u8 0), hg2, rfl, rfl, blk32_map _, rfl, rfl⟩
    · exact ⟨by show gmax ≤ 67; decide, by show 67 < 68; decide, _, us, hg3, rfl, rfl, blkL_map _, cc, cc'⟩

end Go.Proofs.Ytlalonomdblhdaa
