/-
  UNLIKE ROWS OF BYTES: the fact that two numbers' bytes are not all the same. Own work.
-/
import Derived.Test.YtnlhpiieihnbiaaDoorShZ
namespace Go.Sh

theorem a_or8 (x y : Nat) (hx : x < 256) (hy : y < 256) : arith .or .u8 (x : Int) (y : Int) = ((x ||| y : Nat) : Int) := by
  have h : (BitVec.ofInt 8 (x : Int) ||| BitVec.ofInt 8 (y : Int)).toNat = x ||| y := by
    rw [BitVec.toNat_or]
    simp only [BitVec.ofInt_natCast, BitVec.toNat_ofNat, Nat.reducePow, Nat.mod_eq_of_lt hx, Nat.mod_eq_of_lt hy]
  have hl : (BitVec.ofInt 8 (x : Int) ||| BitVec.ofInt 8 (y : Int)).toNat < 256 := (BitVec.ofInt 8 (x : Int) ||| BitVec.ofInt 8 (y : Int)).isLt
  show IntKind.u8.wrap ((BitVec.ofInt 8 (x : Int) ||| BitVec.ofInt 8 (y : Int)).toNat : Int) = _
  rw [wrap8, h]
  rw [h] at hl
  omega

theorem a_xor8 (x y : Nat) (hx : x < 256) (hy : y < 256) : arith .xor .u8 (x : Int) (y : Int) = ((x ^^^ y : Nat) : Int) := by
  have h : (BitVec.ofInt 8 (x : Int) ^^^ BitVec.ofInt 8 (y : Int)).toNat = x ^^^ y := by
    rw [BitVec.toNat_xor]
    simp only [BitVec.ofInt_natCast, BitVec.toNat_ofNat, Nat.reducePow, Nat.mod_eq_of_lt hx, Nat.mod_eq_of_lt hy]
  have hl : (BitVec.ofInt 8 (x : Int) ^^^ BitVec.ofInt 8 (y : Int)).toNat < 256 := (BitVec.ofInt 8 (x : Int) ^^^ BitVec.ofInt 8 (y : Int)).isLt
  show IntKind.u8.wrap ((BitVec.ofInt 8 (x : Int) ^^^ BitVec.ofInt 8 (y : Int)).toNat : Int) = _
  rw [wrap8, h]
  rw [h] at hl
  omega

theorem xor_lt8 (x y : Nat) (hx : x < 256) (hy : y < 256) : x ^^^ y < 256 := Nat.xor_lt_two_pow (n := 8) hx hy
theorem or_lt8 (x y : Nat) (hx : x < 256) (hy : y < 256) : x ||| y < 256 := Nat.or_lt_two_pow (n := 8) hx hy
theorem xor_same (x y : Nat) (h : x ^^^ y = 0) : x = y := by
  have h1 : (x ^^^ y) ^^^ y = 0 ^^^ y := by rw [h]
  rwa [Nat.xor_assoc, Nat.xor_self, Nat.xor_zero, Nat.zero_xor] at h1
theorem or_none (x y : Nat) (h : x ||| y = 0) : x = 0 ∧ y = 0 := by
  have h1 : x ≤ x ||| y := Nat.left_le_or
  have h2 : y ≤ x ||| y := Nat.right_le_or
  omega

/-- Numbers of bytes, as a row's cells. -/
def rowA (xs : List AI) : List AV := xs.map (AV.i .u8)

theorem joint_zero {ν : Nat → Int} {xs ys : List AI} {bx by' : List Nat} (hx : xs.map (AI.val ν) = bx.map fun n => ((n : Nat) : Int)) (hy : ys.map (AI.val ν) = by'.map fun n => ((n : Nat) : Int)) (lx : ∀ b ∈ bx, b < 256) (ly : ∀ b ∈ by', b < 256) :
    ∀ l : List Nat, (∀ o ∈ l, o < bx.length ∧ o < by'.length) → ∃ m : Nat, m < 256 ∧ (joint (rowA xs) (rowA ys) l).val ν = m ∧ (m = 0 → ∀ o ∈ l, bx[o]? = by'[o]?) := by
  intro l
  induction l with
  | nil => intro _; exact ⟨0, by decide, rfl, fun _ o ho => by cases ho⟩
  | cons o r ih =>
    intro hl
    obtain ⟨m, m1, m2, m3⟩ := ih fun o' ho' => hl o' (by simp [ho'])
    obtain ⟨o1, o2⟩ := hl o (by simp)
    have n1 : xs.length = bx.length := by simpa using congrArg List.length hx
    have n2 : ys.length = by'.length := by simpa using congrArg List.length hy
    have g1 : (rowA xs)[o]? = some (.i .u8 (xs[o]'(by omega))) := by simp [rowA, n1, o1]
    have g2 : (rowA ys)[o]? = some (.i .u8 (ys[o]'(by omega))) := by simp [rowA, n2, o2]
    have v1 : (xs[o]'(by omega)).val ν = (bx[o] : Nat) := by
      have := congrArg (fun l => l[o]?) hx
      simpa [n1, o1] using this
    have v2 : (ys[o]'(by omega)).val ν = (by'[o] : Nat) := by
      have := congrArg (fun l => l[o]?) hy
      simpa [n2, o2] using this
    have b1 := lx bx[o] (List.getElem_mem o1)
    have b2 := ly by'[o] (List.getElem_mem o2)
    refine ⟨(bx[o] ^^^ by'[o]) ||| m, or_lt8 _ _ (xor_lt8 _ _ b1 b2) m1, ?_, fun hz => ?_⟩
    · simp only [joint, g1, g2, AI.val]
      rw [v1, v2, m2, a_xor8 _ _ b1 b2, a_or8 _ _ (xor_lt8 _ _ b1 b2) m1]
    · obtain ⟨z1, z2⟩ := or_none _ _ hz
      intro o' ho'
      rcases List.mem_cons.1 ho' with rfl | ho'
      · rw [List.getElem?_eq_getElem o1, List.getElem?_eq_getElem o2, xor_same _ _ z1]
      · exact m3 z2 o' ho'

theorem byL_lt (x : Nat) : ∀ b ∈ byL x, b < 256 := by
  intro b hb
  simp only [byL, bL, List.cons_append, List.nil_append, List.mem_cons, List.not_mem_nil, or_false] at hb
  rcases hb with h | h | h | h | h | h | h | h | h | h | h | h | h | h | h | h | h | h | h | h | h | h | h | h | h | h | h | h | h | h | h | h <;> (rw [h]; exact Nat.mod_lt _ (by decide))

theorem bL_inj {a b : Nat} (ha : a < 18446744073709551616) (hb : b < 18446744073709551616) (h : bL a = bL b) : a = b := by
  simp only [bL, List.cons.injEq, and_true] at h
  omega

theorem byL_inj {x y : Nat} (hx : x < B4) (hy : y < B4) (h : byL x = byL y) : x = y := by
  have l : ∀ z, (bL z).length = 8 := fun _ => rfl
  unfold byL at h
  obtain ⟨h, h3⟩ := List.append_inj' h rfl
  obtain ⟨h, h2⟩ := List.append_inj' h rfl
  obtain ⟨h0, h1⟩ := List.append_inj' h rfl
  obtain ⟨a0, a1, a2, a3⟩ := w_lt x
  obtain ⟨c0, c1, c2, c3⟩ := w_lt y
  have e0 := bL_inj a0 c0 h0
  have e1 := bL_inj a1 c1 h1
  have e2 := bL_inj a2 c2 h2
  have e3 := bL_inj a3 c3 h3
  have s1 := split4 x
  have s2 := split4 y
  rw [Nat.div_eq_of_lt hx] at s1
  rw [Nat.div_eq_of_lt hy] at s2
  rw [s1, s2, e0, e1, e2, e3]

/-- Names of bytes from a place on; known bytes. -/
def sL (k : Nat) : List AI := (List.range 32).map fun j => .s (k + j)
def cL (x : Nat) : List AI := (byL x).map fun n => .c (.ofNat n)
/-- The fact that two rows differ somewhere. -/
def neB (p q : List AI) : BinOp × AI × AI × Bool := (.neq, joint (rowA p) (rowA q) (List.range 32), .c 0, true)

theorem neB_holds {ν : Nat → Int} {p q : List AI} {x y : Nat} (hx : x < B4) (hy : y < B4) (hp : p.map (AI.val ν) = (byL x).map fun n => ((n : Nat) : Int)) (hq : q.map (AI.val ν) = (byL y).map fun n => ((n : Nat) : Int)) (h : x ≠ y) :
    compare (neB p q).1 ((neB p q).2.1.val ν) ((neB p q).2.2.1.val ν) = (neB p q).2.2.2 := by
  obtain ⟨m, _, m2, m3⟩ := joint_zero hp hq (byL_lt x) (byL_lt y) (List.range 32) (fun o ho => by
    have : o < 32 := by simpa using ho
    exact ⟨this, this⟩)
  show ((joint (rowA p) (rowA q) (List.range 32)).val ν != 0) = true
  rw [m2]
  by_cases hm : m = 0
  · exfalso
    apply h
    apply byL_inj hx hy
    apply List.ext_getElem?
    intro o
    by_cases ho : o < 32
    · exact m3 hm o (by simpa using ho)
    · have e1 : (byL x).length = 32 := rfl
      have e2 : (byL y).length = 32 := rfl
      rw [List.getElem?_eq_none (by omega), List.getElem?_eq_none (by omega)]
  · simp; omega

theorem cL_val (ν : Nat → Int) (x : Nat) : (cL x).map (AI.val ν) = (byL x).map fun n => ((n : Nat) : Int) := by
  unfold cL
  rw [List.map_map]
  rfl

end Go.Sh
