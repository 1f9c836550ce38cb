/-
  THE PAGE's LADDER: its rounds. Own work.
-/
import Derived.Test.YtlalonomdblhdaaDd
namespace Go.Proofs.Ytlalonomdblhdaa
open Go.Sh
set_option maxRecDepth 100000

/-! Names of numbers of four words: four names each. -/

def nuw (l : List Nat) : Nat → Int := fun k => (((numL (l.getD (k / 4) 0)).getD (k % 4) 0 : Nat) : Int)
def wel (j : Nat) : List AV := [wd (4 * j), wd (4 * j + 1), wd (4 * j + 2), wd (4 * j + 3)]
def rw4 (j : Nat) : AV := .ag (wel j)
def k121665w : AV := .ag [cK 121665, cK 0, cK 0, cK 0]

def rlp : IC := t10.body
def rlA : IC := rlp.sub [false]
def rlB : IC := rlp.sub [true, false]
def rlC : IC := rlp.sub [true, true, false]
def rlD : IC := rlp.sub [true, true, true, false]
def rlE : IC := rlp.sub [true, true, true, true, false]
def rlF : IC := rlp.sub [true, true, true, true, true, false, false]
def rlBody : IC := rlp.sub [true, true, true, true, true, false, true, false, false]
def rlG : IC := rlp.sub [true, true, true, true, true, true]
theorem rl_shape : t10 = ⟨.seq rlA (.seq rlB (.seq rlC (.seq rlD (.seq rlE (.seq (.seq rlF (.block 0 (.loop rlBody))) rlG))))), [.c 4 (some 32)], 117⟩ := by kernel_rfl

def bN (cs : List AV) : ABlk := ⟨cs, 33, true⟩
def rlE0 : List (Nat × AV) := [(4, .p 66 0), (5, .p 67 0), (6, .p 68 0), (7, .p 69 0), (8, .p 70 0), (9, .p 71 0), (10, .p 72 0)]
def rlH (a b c d : List AV) : List (Nat × ABlk) := [(66, b32 z32), (67, bN (wel 0)), (68, bN (wel 1)), (69, bN a), (70, bN b), (71, bN c), (72, bN d)]
def rlN (k : Int) : Now := ⟨(11, .i .i64 (.c k)) :: rlE0, rlH (wel 2) (wel 3) (wel 4) (wel 5), 73⟩
def rlN' (b : Bool) (k : Int) : Now := ⟨(11, .i .i64 (.c k)) :: rlE0, if b then rlH (wel 17) (wel 19) (wel 20) (wel 23) else rlH (wel 20) (wel 23) (wel 17) (wel 19), 84⟩
def bitW (k : Nat) (b : Bool) : Facts := ⟨[], [(.eql, .e .and .u64 (.e .shr .u64 (.s (k / 64)) (.c (.ofNat (k % 64)))) (.c (.ofNat 1)), .c (.ofNat 1), b)]⟩
/-- One round's calls, on the four numbers at these places. -/
def rlT (p q r s : Nat) : List Row := [⟨20, [rw4 p, rw4 q], rw4 6⟩, ⟨21, [rw4 p, rw4 q], rw4 7⟩, ⟨20, [rw4 r, rw4 s], rw4 8⟩, ⟨21, [rw4 r, rw4 s], rw4 9⟩, ⟨22, [rw4 6, rw4 6], rw4 10⟩, ⟨22, [rw4 7, rw4 7], rw4 11⟩, ⟨21, [rw4 10, rw4 11], rw4 12⟩,
  ⟨22, [rw4 9, rw4 6], rw4 13⟩, ⟨22, [rw4 8, rw4 7], rw4 14⟩, ⟨20, [rw4 13, rw4 14], rw4 15⟩, ⟨21, [rw4 13, rw4 14], rw4 16⟩, ⟨22, [rw4 15, rw4 15], rw4 17⟩, ⟨22, [rw4 16, rw4 16], rw4 18⟩, ⟨22, [rw4 1, rw4 18], rw4 19⟩,
  ⟨22, [rw4 10, rw4 11], rw4 20⟩, ⟨22, [k121665w, rw4 12], rw4 21⟩, ⟨20, [rw4 10, rw4 21], rw4 22⟩, ⟨22, [rw4 12, rw4 22], rw4 23⟩]
def rlTb (b : Bool) : List Row := if b then rlT 4 5 2 3 else rlT 2 3 4 5
noncomputable def rlGo (k : Nat) : Bool := goes (bitW k true) tree (rlTb true) 60 3 rlBody (rlN (.ofNat k)) .normal (rlN' true ((k : Int) - 1)) && goes (bitW k false) tree (rlTb false) 60 3 rlBody (rlN (.ofNat k)) .normal (rlN' false ((k : Int) - 1))
theorem rl_goes0 : (List.range 64).all (fun k => rlGo k) = true := by kernel_rfl
theorem rl_goes1 : (List.range 64).all (fun k => rlGo (64 + k)) = true := by kernel_rfl
theorem rl_goes2 : (List.range 64).all (fun k => rlGo (128 + k)) = true := by kernel_rfl
theorem rl_goes3 : (List.range 63).all (fun k => rlGo (192 + k)) = true := by kernel_rfl
theorem rl_goes (k : Nat) (h : k < 255) : rlGo k = true := by
  by_cases h0 : k < 64
  · exact List.all_eq_true.1 rl_goes0 k (List.mem_range.2 h0)
  · by_cases h1 : k < 128
    · have := List.all_eq_true.1 rl_goes1 (k - 64) (List.mem_range.2 (by omega))
      rwa [show 64 + (k - 64) = k by omega] at this
    · by_cases h2 : k < 192
      · have := List.all_eq_true.1 rl_goes2 (k - 128) (List.mem_range.2 (by omega))
        rwa [show 128 + (k - 128) = k by omega] at this
      · have := List.all_eq_true.1 rl_goes3 (k - 192) (List.mem_range.2 (by omega))
        rwa [show 192 + (k - 192) = k by omega] at this
theorem rl_ends : goes noFacts tree [] 60 2 rlBody (rlN (-1)) (.exit 0) (rlN (-1)) = true := by kernel_rfl

theorem rowAddR' {ν : Nat → Int} {p q r : AV} {x y : Nat} (hx : x < B4) (hy : y < B4) (h1 : conc2 ν p = some (num x)) (h2 : conc2 ν q = some (num y)) (h3 : conc ν r = some (num ((x + y) % prime))) : Row.Ok ν Try.prog ⟨20, [p, q], r⟩ := ⟨[num x, num y], _, by simp [concT, h1, h2], h3, rAdd_ok x y hx hy⟩

theorem r_rows {k u x2 z2 x3 z3 p2 q2 p3 q3 : Nat} {l : List Nat} (hu : u < B4) (h1 : p2 < B4) (h2 : q2 < B4) (h3 : p3 < B4) (h4 : q3 < B4) (h : Rnd u p2 q2 p3 q3 l) (i2 j2 i3 j3 : Nat)
    (c1 : ∀ l', conc2 (nuw (k :: u :: x2 :: z2 :: x3 :: z3 :: l')) (rw4 i2) = some (num p2)) (c2 : ∀ l', conc2 (nuw (k :: u :: x2 :: z2 :: x3 :: z3 :: l')) (rw4 j2) = some (num q2)) (c3 : ∀ l', conc2 (nuw (k :: u :: x2 :: z2 :: x3 :: z3 :: l')) (rw4 i3) = some (num p3)) (c4 : ∀ l', conc2 (nuw (k :: u :: x2 :: z2 :: x3 :: z3 :: l')) (rw4 j3) = some (num q3)) :
    ∀ r ∈ rlT i2 j2 i3 j3, r.Ok (nuw (k :: u :: x2 :: z2 :: x3 :: z3 :: l)) Try.prog := by
  obtain ⟨a, b, c, d, aa, bb, e, da, cb, s, m, x3', mm, z3', x2', e1, e2, z2', rfl, ha, hb, hc, hd, haa, hbb, he, hda, hcb, hs, hm, hx3, hmm, hz3, hx2, he1, he2, hz2⟩ := h
  have la : a < B4 := ha ▸ prime_lt _
  have lb : b < B4 := hb ▸ prime_lt _
  have lc : c < B4 := hc ▸ prime_lt _
  have ld : d < B4 := hd ▸ prime_lt _
  have laa : aa < B4 := haa ▸ prime_lt _
  have lbb : bb < B4 := hbb ▸ prime_lt _
  have le : e < B4 := he ▸ prime_lt _
  have lda : da < B4 := hda ▸ prime_lt _
  have lcb : cb < B4 := hcb ▸ prime_lt _
  have ls : s < B4 := hs ▸ prime_lt _
  have lm : m < B4 := hm ▸ prime_lt _
  have lmm : mm < B4 := hmm ▸ prime_lt _
  have le1 : e1 < B4 := he1 ▸ prime_lt _
  have le2 : e2 < B4 := he2 ▸ prime_lt _
  intro r hr
  simp only [rlT, List.mem_cons, List.not_mem_nil, or_false] at hr
  rcases hr with rfl | rfl | rfl | rfl | rfl | rfl | rfl | rfl | rfl | rfl | rfl | rfl | rfl | rfl | rfl | rfl | rfl | rfl
  · exact rowAddR' h1 h2 (c1 _) (c2 _) (by rw [← ha]; kernel_rfl)
  · exact rowSubP' h1 h2 (c1 _) (c2 _) (by rw [← hb]; kernel_rfl)
  · exact rowAddR' h3 h4 (c3 _) (c4 _) (by rw [← hc]; kernel_rfl)
  · exact rowSubP' h3 h4 (c3 _) (c4 _) (by rw [← hd]; kernel_rfl)
  · exact rowMulP la la (by kernel_rfl) (by kernel_rfl) (by rw [← haa]; kernel_rfl)
  · exact rowMulP lb lb (by kernel_rfl) (by kernel_rfl) (by rw [← hbb]; kernel_rfl)
  · exact rowSubP' laa lbb (by kernel_rfl) (by kernel_rfl) (by rw [← he]; kernel_rfl)
  · exact rowMulP ld la (by kernel_rfl) (by kernel_rfl) (by rw [← hda]; kernel_rfl)
  · exact rowMulP lc lb (by kernel_rfl) (by kernel_rfl) (by rw [← hcb]; kernel_rfl)
  · exact rowAddR' lda lcb (by kernel_rfl) (by kernel_rfl) (by rw [← hs]; kernel_rfl)
  · exact rowSubP' lda lcb (by kernel_rfl) (by kernel_rfl) (by rw [← hm]; kernel_rfl)
  · exact rowMulP ls ls (by kernel_rfl) (by kernel_rfl) (by rw [← hx3]; kernel_rfl)
  · exact rowMulP lm lm (by kernel_rfl) (by kernel_rfl) (by rw [← hmm]; kernel_rfl)
  · exact rowMulP hu lmm (by kernel_rfl) (by kernel_rfl) (by rw [← hz3]; kernel_rfl)
  · exact rowMulP laa lbb (by kernel_rfl) (by kernel_rfl) (by rw [← hx2]; kernel_rfl)
  · exact rowMulP (x := 121665) (by decide) le (by kernel_rfl) (by kernel_rfl) (by rw [← he1]; kernel_rfl)
  · exact rowAddR' laa le1 (by kernel_rfl) (by kernel_rfl) (by rw [← he2]; kernel_rfl)
  · exact rowMulP le le2 (by kernel_rfl) (by kernel_rfl) (by rw [← hz2]; kernel_rfl)


theorem rlbit_hold {k i : Nat} {l : List Nat} (hi : i < 255) (b : Bool) (hb : k.testBit i = b) : (bitW i b).Hold (nuw (k :: l)) := by
  refine ⟨fun p hp => (by cases hp), fun p hp => ?_⟩
  simp only [bitW, List.mem_cons, List.not_mem_nil, or_false] at hp
  subst hp
  show (arith .and .u64 (arith .shr .u64 (nuw (k :: l) (i / 64)) ((i % 64 : Nat) : Int)) ((1 : Nat) : Int) == ((1 : Nat) : Int)) = b
  have hw : ∀ j, j < 4 → (numL k).getD j 0 = k / 2 ^ (64 * j) % 2 ^ 64 := by
    intro j hj
    rcases (by omega : j = 0 ∨ j = 1 ∨ j = 2 ∨ j = 3) with rfl | rfl | rfl | rfl
    · show k % 18446744073709551616 = _
      simp
    · rfl
    · rfl
    · rfl
  have e1 : nuw (k :: l) (i / 64) = ((k / 2 ^ (64 * (i / 64)) % 2 ^ 64 : Nat) : Int) := by
    unfold nuw
    have h0 : i / 64 / 4 = 0 := by omega
    have h1 : i / 64 % 4 = i / 64 := by omega
    rw [h0, h1, List.getD_cons_zero, hw (i / 64) (by omega)]
  have hm : i % 64 < 64 := Nat.mod_lt _ (by decide)
  rw [e1, a_shr .u64 _ (i % 64) (Nat.le_of_lt hm), a_mask _ 1 1 rfl (by decide), Nat.pow_one, bit_in _ _ _ _ hm, show 64 * (i / 64) + i % 64 = i by omega, ← hb, Nat.testBit_eq_decide_div_mod_eq]
  by_cases h : k / 2 ^ i % 2 = 1
  · simp only [h, decide_true]; rfl
  · have : k / 2 ^ i % 2 = 0 := by omega
    simp only [this]; decide

theorem blkN_map' (cs : List AV) : (bN cs).elem ≠ mapTag := by show 33 ≠ mapTag; decide
def welV (x : Nat) : List Value := (numL x).map u64

/-- The state under new names. -/
theorem rl_named {w0 : World} {k u x2 z2 x3 z3 : Nat} {ν ν' : Nat → Int} {i : Int} {a b c d : List AV} {n : Nat} {act : Act} {w : World} (h : Holds 117 w0 ν ⟨(11, .i .i64 (.c i)) :: rlE0, rlH a b c d, n⟩ act w)
    (g0 : (heapL (rlH a b c d) n).get 66 = some (b32 z32)) (g1 : (heapL (rlH a b c d) n).get 67 = some (bN (wel 0))) (g2 : (heapL (rlH a b c d) n).get 68 = some (bN (wel 1))) (g3 : (heapL (rlH a b c d) n).get 69 = some (bN a)) (g4 : (heapL (rlH a b c d) n).get 70 = some (bN b)) (g5 : (heapL (rlH a b c d) n).get 71 = some (bN c)) (g6 : (heapL (rlH a b c d) n).get 72 = some (bN d))
    (c0 : concT ν (wel 0) = some (welV k)) (c1 : concT ν (wel 1) = some (welV u)) (c2 : concT ν a = some (welV x2)) (c3 : concT ν b = some (welV z2)) (c4 : concT ν c = some (welV x3)) (c5 : concT ν d = some (welV z3))
    (d0 : concT ν' (wel 0) = some (welV k)) (d1 : concT ν' (wel 1) = some (welV u)) (d2 : concT ν' (wel 2) = some (welV x2)) (d3 : concT ν' (wel 3) = some (welV z2)) (d4 : concT ν' (wel 4) = some (welV x3)) (d5 : concT ν' (wel 5) = some (welV z3)) : Holds 117 w0 ν' (rlN i) act w := by
  refine h.renumS (by decide) (fun p hp => ?_) fun p hp => ?_
  · simp only [rlE0, List.mem_cons, List.not_mem_nil, or_false] at hp
    rcases hp with rfl | rfl | rfl | rfl | rfl | rfl | rfl | rfl
    · exact .inl ⟨.i .i64 (.c i), .int .i64 i, by simp, rfl, rfl⟩
    · exact .inr ⟨66, 0, rfl, by decide, by simp [rlE0]⟩
    · exact .inr ⟨67, 0, rfl, by decide, by simp [rlE0]⟩
    · exact .inr ⟨68, 0, rfl, by decide, by simp [rlE0]⟩
    · exact .inr ⟨69, 0, rfl, by decide, by simp [rlE0]⟩
    · exact .inr ⟨70, 0, rfl, by decide, by simp [rlE0]⟩
    · exact .inr ⟨71, 0, rfl, by decide, by simp [rlE0]⟩
    · exact .inr ⟨72, 0, rfl, by decide, by simp [rlE0]⟩
  · simp only [rlH, List.mem_cons, List.not_mem_nil, or_false] at hp
    rcases hp with rfl | rfl | rfl | rfl | rfl | rfl | rfl
    · exact ⟨by decide, by decide, _, List.replicate 32 (u8 0), g0, rfl, rfl, blk32_map _, rfl, rfl⟩
    · exact ⟨by decide, by decide, _, _, g1, rfl, rfl, blkN_map' _, c0, d0⟩
    · exact ⟨by decide, by decide, _, _, g2, rfl, rfl, blkN_map' _, c1, d1⟩
    · exact ⟨by decide, by decide, _, _, g3, rfl, rfl, blkN_map' _, c2, d2⟩
    · exact ⟨by decide, by decide, _, _, g4, rfl, rfl, blkN_map' _, c3, d3⟩
    · exact ⟨by decide, by decide, _, _, g5, rfl, rfl, blkN_map' _, c4, d4⟩
    · exact ⟨by decide, by decide, _, _, g6, rfl, rfl, blkN_map' _, c5, d5⟩

theorem rlget (a b c d : List AV) : (heapL (rlH a b c d) 73).get 66 = some (b32 z32) ∧ (heapL (rlH a b c d) 73).get 67 = some (bN (wel 0)) ∧ (heapL (rlH a b c d) 73).get 68 = some (bN (wel 1)) ∧ (heapL (rlH a b c d) 73).get 69 = some (bN a) ∧ (heapL (rlH a b c d) 73).get 70 = some (bN b) ∧ (heapL (rlH a b c d) 73).get 71 = some (bN c) ∧ (heapL (rlH a b c d) 73).get 72 = some (bN d) := ⟨by kernel_rfl, by kernel_rfl, by kernel_rfl, by kernel_rfl, by kernel_rfl, by kernel_rfl, by kernel_rfl⟩
theorem rlget' (a b c d : List AV) : (heapL (rlH a b c d) 84).get 66 = some (b32 z32) ∧ (heapL (rlH a b c d) 84).get 67 = some (bN (wel 0)) ∧ (heapL (rlH a b c d) 84).get 68 = some (bN (wel 1)) ∧ (heapL (rlH a b c d) 84).get 69 = some (bN a) ∧ (heapL (rlH a b c d) 84).get 70 = some (bN b) ∧ (heapL (rlH a b c d) 84).get 71 = some (bN c) ∧ (heapL (rlH a b c d) 84).get 72 = some (bN d) := ⟨by kernel_rfl, by kernel_rfl, by kernel_rfl, by kernel_rfl, by kernel_rfl, by kernel_rfl, by kernel_rfl⟩

theorem nuw_wel (l : List Nat) (j : Nat) : concT (nuw l) (wel j) = some (welV (l.getD j 0)) := by
  have h : ∀ i, i < 4 → nuw l (4 * j + i) = (((numL (l.getD j 0)).getD i 0 : Nat) : Int) := by
    intro i hi
    unfold nuw
    rw [show (4 * j + i) / 4 = j by omega, show (4 * j + i) % 4 = i by omega]
  show some [Value.int .u64 (nuw l (4 * j)), .int .u64 (nuw l (4 * j + 1)), .int .u64 (nuw l (4 * j + 2)), .int .u64 (nuw l (4 * j + 3))] = _
  rw [show nuw l (4 * j) = nuw l (4 * j + 0) from rfl, h 0 (by decide), h 1 (by decide), h 2 (by decide), h 3 (by decide)]
  rfl
theorem nuwR (l : List Nat) (j : Nat) : conc2 (nuw l) (rw4 j) = some (num (l.getD j 0)) := by
  have h := nuw_wel l j
  show (concL (nuw l) (wel j)).map (fun vs => Value.agg vs.toArray) = _
  have e : concL (nuw l) (wel j) = concT (nuw l) (wel j) := rfl
  rw [e, h]
  rfl

end Go.Proofs.Ytlalonomdblhdaa
