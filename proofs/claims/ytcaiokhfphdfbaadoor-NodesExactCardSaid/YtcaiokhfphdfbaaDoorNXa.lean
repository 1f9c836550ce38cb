/-
  NodesExact: levels, of every number. Own work.
-/
import Derived.Test.YtcaiokhfphdfbaaDoorTab
import Derived.Test.YtcaiokhfphdfbaaDoorShG3
import Derived.IntWalk
import Derived.Shelf.Spec.TrailingZeros
namespace Go.Proofs.YtcaiokhfphdfbaaDoor
open Go.Sh
set_option maxRecDepth 100000

def deb : List Int := [0, 1, 56, 2, 57, 49, 28, 3, 61, 58, 42, 50, 38, 29, 17, 4, 62, 47, 59, 36, 45, 43, 51, 22, 53, 39, 33, 30, 24, 18, 12, 5, 63, 55, 48, 27, 60, 41, 37, 16, 46, 35, 44, 21, 52, 32, 23, 11, 54, 26, 40, 15, 34, 20, 31, 10, 25, 14, 19, 9, 13, 8, 7, 6]
def debA : List AV := deb.map fun z => .i .u8 (.c z)
def glD : Gl := [(0, ⟨debA, 5, true⟩)]
theorem known8 (ν : Nat → Int) : ∀ l : List Int, concT ν (l.map fun n => AV.i .u8 (.c n)) = some (l.map fun n => Value.int .u8 n)
  | [] => rfl
  | a :: r => by
    show concT ν (AV.i .u8 (.c a) :: r.map fun n => AV.i .u8 (.c n)) = _
    unfold concT
    rw [known8 ν r]
    rfl
theorem glD_ok : GlOk glD := by
  intro p hp
  simp only [glD, List.mem_cons, List.not_mem_nil, or_false] at hp
  subst hp
  exact ⟨by decide, by decide, _, fun ν => known8 ν _⟩
def iS (k : Nat) : AV := .i .i64 (.s k)
def iC (k : Nat) : AV := .i .i64 (.c (.ofNat k))
abbrev Cm := BinOp × AI × AI × Bool
def nC (n : Nat) : AI := .c (.ofNat n)
def sh : Nat → AI
  | 0 => .s 0
  | k + 1 => .e .shr .i64 (sh k) (nC 1)
def upF (k : Nat) : List Cm := (List.range k).flatMap fun j => [(.gtr, sh j, nC 0, true), (.eql, .e .and .i64 (sh j) (nC 1), nC 1, true)]
def endF (k : Nat) (t : Bool) : List Cm := [(.gtr, sh k, nC 0, t), (.eql, .e .and .i64 (sh k) (nC 1), nC 1, false)]
def eE : AI := .e .xor .u64 (nC 18446744073709551615) (.w .u64 (.s 0))
def eK : AI := .e .shr .u64 (.e .mul .u64 (.e .and .u64 eE (.e .sub .u64 (nC 0) eE)) (nC 285870213051353865)) (nC 58)
def idx (k : Nat) : Nat := 2 ^ k * 285870213051353865 % 18446744073709551616 / 288230376151711744
def fTz (k : Nat) : Facts := ⟨[(eK, (idx k : Int))], [(.eql, eE, nC 0, false), (.lss, .s 0, nC 0, false)]⟩
def fUp (k : Nat) (t : Bool) : Facts := ⟨[], upF k ++ endF k t⟩
noncomputable def lv1 (k : Nat) : Bool := saysG (fTz k) tree [] glD [] 400 6 7 [iS 0] (iC k)
noncomputable def lv2 (k : Nat) : Bool := says (fUp k true) tree [] 400 6 4 [iS 0] (heap0 [] gmax) (iC k) && says (fUp k false) tree [] 400 6 4 [iS 0] (heap0 [] gmax) (iC k)
theorem lv1_all : (List.range 64).all lv1 = true := by kernel_rfl
theorem lv2_all : (List.range 64).all lv2 = true := by kernel_rfl

theorem wrapI (n : Int) (h : -9223372036854775808 ≤ n ∧ n ≤ 9223372036854775807) : IntKind.i64.wrap n = n := by rw [IntWalk.i64_left]; exact IntWalk.wrap64_in n h
theorem and_one (a : Nat) : arith .and .i64 (a : Int) 1 = ((a % 2 : Nat) : Int) := by
  show IntKind.i64.wrap (((BitVec.ofInt 64 (a : Int) &&& BitVec.ofInt 64 1).toNat : Nat) : Int) = _
  have h : (BitVec.ofInt 64 (a : Int) &&& BitVec.ofInt 64 1).toNat = a % 2 := by
    rw [BitVec.toNat_and, show (BitVec.ofInt 64 1).toNat = 1 from rfl, Nat.and_one_is_mod, BitVec.toNat_ofInt]
    omega
  rw [h]
  exact wrapI _ (by omega)
theorem div_pred (p A : Nat) (hp : 0 < p) (hA : 0 < A) : (p * A - 1) / p = A - 1 := by
  obtain ⟨B, rfl⟩ : ∃ B, A = B + 1 := ⟨A - 1, by omega⟩
  have e : p * (B + 1) - 1 = p * B + (p - 1) := by rw [Nat.mul_succ]; omega
  rw [e, Nat.mul_add_div hp, Nat.div_eq_of_lt (by omega)]
  omega
theorem sh_val {ν : Nat → Int} {x : Nat} (h0 : ν 0 = (x : Int)) : ∀ j, (sh j).val ν = ((x / 2 ^ j : Nat) : Int)
  | 0 => by
    show ν 0 = _
    rw [h0, Nat.pow_zero, Nat.div_one]
  | j + 1 => by
    show ((sh j).val ν).fdiv 2 = _
    rw [sh_val h0 j, Int.fdiv_eq_ediv_of_nonneg _ (by decide), Nat.pow_succ, ← Nat.div_div_eq_div_mul]
    omega
theorem sh_odd {x k q j : Nat} (h : x + 1 = 2 ^ k * (2 * q + 1)) (hj : j < k) : x / 2 ^ j % 2 = 1 ∧ 0 < x / 2 ^ j := by
  obtain ⟨d, rfl⟩ : ∃ d, k = j + (d + 1) := ⟨k - j - 1, by omega⟩
  have e : x = 2 ^ j * (2 ^ (d + 1) * (2 * q + 1)) - 1 := by
    rw [← Nat.mul_assoc, ← Nat.pow_add, ← h]
    omega
  have hp : 0 < 2 ^ d * (2 * q + 1) := Nat.mul_pos (Nat.two_pow_pos d) (by omega)
  have e2 : 2 ^ (d + 1) * (2 * q + 1) = 2 * (2 ^ d * (2 * q + 1)) := by rw [Nat.pow_succ, Nat.mul_comm (2 ^ d) 2, Nat.mul_assoc]
  have e3 : x / 2 ^ j = 2 * (2 ^ d * (2 * q + 1)) - 1 := by
    rw [e, div_pred _ _ (Nat.two_pow_pos j) (by omega), e2]
  rw [e3]
  omega
theorem sh_end {x k q : Nat} (h : x + 1 = 2 ^ k * (2 * q + 1)) : x / 2 ^ k % 2 = 0 := by
  have e : x = 2 ^ k * (2 * q + 1) - 1 := by omega
  rw [e, div_pred _ _ (Nat.two_pow_pos k) (by omega)]
  omega
theorem and_val {ν : Nat → Int} {x : Nat} (h0 : ν 0 = (x : Int)) (j : Nat) : (AI.e .and .i64 (sh j) (nC 1)).val ν = ((x / 2 ^ j % 2 : Nat) : Int) := by
  show arith .and .i64 ((sh j).val ν) 1 = _
  rw [sh_val h0 j, and_one]
theorem fUp_hold {ν : Nat → Int} {x k q : Nat} (h0 : ν 0 = (x : Int)) (h : x + 1 = 2 ^ k * (2 * q + 1)) : (fUp k (decide (0 < x / 2 ^ k))).Hold ν := by
  refine ⟨fun p hp => (by cases hp), fun p hp => ?_⟩
  rcases List.mem_append.1 hp with hp | hp
  · simp only [upF, List.mem_flatMap, List.mem_range, List.mem_cons, List.not_mem_nil, or_false] at hp
    obtain ⟨j, hj, rfl | rfl⟩ := hp
    · show decide ((sh j).val ν > 0) = true
      rw [sh_val h0]
      exact decide_eq_true (by have := (sh_odd h hj).2; omega)
    · show ((AI.e .and .i64 (sh j) (nC 1)).val ν == 1) = true
      rw [and_val h0, (sh_odd h hj).1]
      rfl
  · simp only [endF, List.mem_cons, List.not_mem_nil, or_false] at hp
    rcases hp with rfl | rfl
    · show decide ((sh k).val ν > 0) = _
      rw [sh_val h0]
      exact decide_eq_decide.2 ⟨fun h => by omega, fun h => by omega⟩
    · show ((AI.e .and .i64 (sh k) (nC 1)).val ν == 1) = false
      rw [and_val h0, sh_end h]
      rfl
theorem eE_val {ν : Nat → Int} {x : Nat} (h0 : ν 0 = (x : Int)) (hx : x < 9223372036854775808) : eE.val ν = ((18446744073709551615 - x : Nat) : Int) := by
  show IntKind.u64.wrap (((BitVec.ofInt 64 18446744073709551615 ^^^ BitVec.ofInt 64 (IntKind.u64.wrap (ν 0))).toNat : Nat) : Int) = _
  have e1 : IntKind.u64.wrap (ν 0) = (x : Int) := by rw [h0, IntKind.wrap_u64]; omega
  have e2 : (BitVec.ofInt 64 18446744073709551615 ^^^ BitVec.ofInt 64 (x : Int)).toNat = 18446744073709551615 - x := by
    rw [show BitVec.ofInt 64 18446744073709551615 = BitVec.allOnes 64 from rfl, BitVec.allOnes_xor, BitVec.toNat_not, BitVec.toNat_ofInt]
    omega
  rw [e1, e2, IntKind.wrap_u64]
  omega
theorem fTz_hold {ν : Nat → Int} {x k : Nat} (h0 : ν 0 = (x : Int)) (hx : x < 9223372036854775808) (hlow : (18446744073709551615 - x) &&& (18446744073709551616 - (18446744073709551615 - x)) = 2 ^ k) : (fTz k).Hold ν := by
  have e := eE_val h0 hx
  refine ⟨fun p hp => ?_, fun p hp => ?_⟩
  · simp only [fTz, List.mem_cons, List.not_mem_nil, or_false] at hp
    subst hp
    have key := tz64_key (18446744073709551615 - x) (2 ^ k) (by omega) (by omega) hlow
    show (IntKind.u64.wrap (arith .and .u64 (eE.val ν) (IntKind.u64.wrap (0 - eE.val ν)) * 285870213051353865)).fdiv 288230376151711744 = _
    rw [e, Int.zero_sub, Int.fdiv_eq_ediv_of_nonneg _ (by decide)]
    exact key
  · simp only [fTz, List.mem_cons, List.not_mem_nil, or_false] at hp
    rcases hp with rfl | rfl
    · show (eE.val ν == 0) = false
      rw [e]
      simpa using (show ¬ (((18446744073709551615 - x : Nat) : Int) = 0) by omega)
    · show decide (ν 0 < 0) = false
      rw [h0]
      exact decide_eq_false (by omega)
/-- EVERY LEVEL. -/
theorem level_ok {x : Nat} (hx : x < 9223372036854775808) : ∃ k : Nat, k < 64 ∧ PureG Tryd.prog glD 7 [.int .i64 (x : Int)] (.int .i64 (k : Int)) ∧ Pure Tryd.prog 4 [.int .i64 (x : Int)] (.int .i64 (k : Int)) := by
  have hy : 18446744073709551615 - x ≠ 0 := by omega
  obtain ⟨m, hm, hk⟩ := Lib.ctzFrom_spec 64 (18446744073709551615 - x) (by omega) (by omega)
  have hc : Lib.ctz 64 (18446744073709551615 - x) = Lib.ctzFrom 64 (18446744073709551615 - x) := by simp [Lib.ctz, hy]
  have hlow := (Lib.lowest_bit 64 (18446744073709551615 - x) hy (by omega)).1
  rw [hc] at hlow
  generalize Lib.ctzFrom 64 (18446744073709551615 - x) = k at *
  have hq : ∃ q, x + 1 = 2 ^ k * (2 * q + 1) := by
    obtain ⟨d, hd⟩ : ∃ d, 64 = k + (d + 1) := ⟨64 - k - 1, by omega⟩
    have e64 : 18446744073709551616 = 2 ^ k * (2 * 2 ^ d) := by
      rw [show 18446744073709551616 = 2 ^ 64 from rfl, show 2 ^ 64 = 2 ^ (k + (d + 1)) from congrArg _ hd, Nat.pow_add, Nat.pow_succ, Nat.mul_comm (2 ^ d) 2]
    have hlt : 2 ^ k * (2 * m + 1) < 2 ^ k * (2 * 2 ^ d) := by rw [← hm, ← e64]; omega
    have h2 := Nat.lt_of_mul_lt_mul_left hlt
    refine ⟨2 ^ d - m - 1, ?_⟩
    have e3 : 2 * (2 ^ d - m - 1) + 1 = 2 * 2 ^ d - (2 * m + 1) := by omega
    rw [e3, Nat.mul_sub, ← e64, ← hm]
    omega
  obtain ⟨q, hq⟩ := hq
  have l1 : lv1 k = true := List.all_eq_true.1 lv1_all k (List.mem_range.2 hk)
  have l2 : lv2 k = true := List.all_eq_true.1 lv2_all k (List.mem_range.2 hk)
  simp only [lv2, Bool.and_eq_true] at l2
  refine ⟨k, hk, pureG_of (ν := fun _ => (x : Int)) (fTz_hold rfl hx hlow) mixed tab_ok glD_ok (fun r hr => by cases hr) (fun r hr => by cases hr) l1 rfl rfl, ?_⟩
  have hF := fUp_hold (ν := fun _ => (x : Int)) rfl hq
  cases ht : decide (0 < x / 2 ^ k) with
  | true => rw [ht] at hF; exact pure_of (ν := fun _ => (x : Int)) hF mixed tab_ok (fun r hr => by cases hr) l2.1 rfl rfl
  | false => rw [ht] at hF; exact pure_of (ν := fun _ => (x : Int)) hF mixed tab_ok (fun r hr => by cases hr) l2.2 rfl rfl
end Go.Proofs.YtcaiokhfphdfbaaDoor
