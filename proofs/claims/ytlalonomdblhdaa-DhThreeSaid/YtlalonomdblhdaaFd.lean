/-
  THE FIELD: powers. Own work.
-/
import Derived.Test.YtlalonomdblhdaaFc
import Derived.Test.YtlalonomdblhdaaSh1
namespace Go.Proofs.Ytlalonomdblhdaa
open Go.Sh
set_option maxRecDepth 100000

theorem rowMul {ν : Nat → Int} {p q r : AV} {x y : Nat} (hx : x < B4) (hy : y < B4) (h1 : conc2 ν p = some (num x)) (h2 : conc2 ν q = some (num y)) (h3 : conc ν r = some (num (x * y % prime))) : Row.Ok ν Try.prog ⟨36, [p, q], r⟩ :=
  ⟨[num x, num y], num (x * y % prime), by simp [concT, h1, h2], h3, mul_ok x y hx hy⟩

/-! pow: its pieces -/

def pw : IC := t38.body
def pA : IC := pw.sub [false]
def pB : IC := pw.sub [true, false]
def pC : IC := pw.sub [true, true, false, false]
def oBody : IC := pw.sub [true, true, false, true, false, false]
def o1 : IC := oBody.sub [false]
def o2 : IC := oBody.sub [true, false]
def o3 : IC := oBody.sub [true, true, false]
def o4 : IC := oBody.sub [true, true, true]
def oY1 : IC := o3.sub [false, false]
def oY2 : IC := o3.sub [false, true, false]
def iBody : IC := o3.sub [false, true, true, false, false]
def pE : IC := pw.sub [true, true, true]
theorem pow_shape : t38 = ⟨.seq pA (.seq pB (.seq (.seq pC (.block 0 (.loop oBody))) pE)), [.c 4 (some 4)], 39⟩ := by kernel_rfl
theorem o_shape : oBody = .seq o1 (.seq o2 (.seq o3 o4)) := by kernel_rfl
theorem o3_shape : o3 = .block 1 (.seq oY1 (.seq oY2 (.block 2 (.loop iBody)))) := by kernel_rfl

def cellsOf (k : Nat) : List AV := [wd k, wd (k + 1), wd (k + 2), wd (k + 3)]
def zeroC : List AV := [c0, c0, c0, c0]
def blkN (cs : List AV) : ABlk := ⟨cs, 55, true⟩
def eArr : AV := .ag [wd 7, wd 6, wd 5, wd 4]
def baseE : List (Nat × AV) := [(2, .p 64 0), (4, .p 66 0), (5, .p 67 0), (18, eArr)]
def baseH (cs : List AV) : List (Nat × ABlk) := [(64, blkN (cellsOf 0)), (66, blkN zeroC), (67, blkN cs)]

/-- Inside the inner rounds: what is left is k. -/
def inE (k : Int) : List (Nat × AV) := (7, wd 12) :: (8, .i .i64 (.c k)) :: (19, .i .i64 (.s 13)) :: baseE
def inN (k : Int) (cs : List AV) : Now := ⟨inE k, baseH cs, 68⟩
def bitF (k : Nat) (b : Bool) : Facts := ⟨[], [(.eql, .e .and .u64 (.e .shr .u64 (.s 12) (.c (.ofNat k))) (.c (.ofNat 1)), .c (.ofNat 1), b)]⟩
def inT : List Row := [⟨36, [ns 8, ns 8], ns 14⟩, ⟨36, [ns 14, ns 0], ns 18⟩]
noncomputable def inGo (k : Nat) : Bool := goes (bitF k true) tree inT 60 2 iBody (inN (.ofNat k) (cellsOf 8)) .normal (inN ((k : Int) - 1) (cellsOf 18)) && goes (bitF k false) tree inT 60 2 iBody (inN (.ofNat k) (cellsOf 8)) .normal (inN ((k : Int) - 1) (cellsOf 14))
theorem in_goes : (List.range 64).all inGo = true := by kernel_rfl
theorem in_ends : goes noFacts tree [] 60 2 iBody (inN (-1) (cellsOf 8)) (.exit 2) (inN (-1) (cellsOf 8)) = true := by kernel_rfl

/-! The inner rounds. -/

def nuI (a e W i x : Nat) : Nat → Int := nu (numL a ++ numL e ++ numL x ++ [W, i] ++ numL (x * x % prime) ++ numL (x * x % prime * a % prime))

/-- What has come about when k bits are left. -/
def powX (a W x : Nat) (k : Nat) : Nat := x ^ 2 ^ (64 - k) * a ^ (W / 2 ^ k) % prime

theorem prime_pos : 0 < prime := by decide
theorem prime_lt (x : Nat) : x % prime < B4 := Nat.lt_trans (Nat.mod_lt _ prime_pos) (by decide)

theorem powX_step (a W x k : Nat) (hk : k < 64) : powX a W x k = if W / 2 ^ k % 2 = 1 then powX a W x (k + 1) * powX a W x (k + 1) % prime * a % prime else powX a W x (k + 1) * powX a W x (k + 1) % prime := by
  have e1 : 2 ^ (64 - k) = 2 ^ (64 - (k + 1)) + 2 ^ (64 - (k + 1)) := by
    rw [show 64 - k = (64 - (k + 1)) + 1 by omega, Nat.pow_succ]; omega
  have e2 : W / 2 ^ k = W / 2 ^ (k + 1) + W / 2 ^ (k + 1) + W / 2 ^ k % 2 := by
    rw [Nat.pow_succ, ← Nat.div_div_eq_div_mul]; omega
  have e3 : ∀ b, W / 2 ^ k % 2 = b → powX a W x k = x ^ 2 ^ (64 - (k + 1)) * a ^ (W / 2 ^ (k + 1)) * (x ^ 2 ^ (64 - (k + 1)) * a ^ (W / 2 ^ (k + 1))) * a ^ b % prime := by
    intro b hb
    unfold powX
    rw [hb] at e2
    rw [e2, e1, Nat.pow_add, Nat.pow_add, Nat.pow_add]
    congr 1
    simp only [Nat.mul_assoc, Nat.mul_left_comm, Nat.mul_comm]
  split
  · rename_i hb
    rw [e3 1 hb, Nat.pow_one]
    unfold powX
    rw [← Nat.mul_mod, Nat.mod_mul_mod]
  · rename_i hb
    rw [e3 0 (by omega), Nat.pow_zero, Nat.mul_one]
    unfold powX
    rw [← Nat.mul_mod]

theorem inT_ok (a e W i x : Nat) (ha : a < B4) (hx : x < B4) : ∀ r ∈ inT, r.Ok (nuI a e W i x) Try.prog := by
  intro r hr
  simp only [inT, List.mem_cons, List.not_mem_nil, or_false] at hr
  rcases hr with rfl | rfl
  · exact rowMul hx hx rfl rfl rfl
  · exact rowMul (prime_lt _) ha rfl rfl rfl

theorem bit_hold (a e W i x k : Nat) (hk : k ≤ 64) (b : Bool) (hb : decide (W / 2 ^ k % 2 = 1) = b) : (bitF k b).Hold (nuI a e W i x) := by
  refine ⟨fun p hp => (by cases hp), fun p hp => ?_⟩
  simp only [bitF, List.mem_cons, List.not_mem_nil, or_false] at hp
  subst hp
  show (arith .and .u64 (arith .shr .u64 ((W : Nat) : Int) ((k : Nat) : Int)) ((1 : Nat) : Int) == ((1 : Nat) : Int)) = b
  rw [a_shr .u64 W k hk, a_mask _ 1 1 rfl (by decide), ← hb]
  by_cases h : W / 2 ^ k % 2 = 1
  · simp only [Nat.pow_one, h, decide_true]; rfl
  · have : W / 2 ^ k % 2 = 0 := by omega
    simp only [Nat.pow_one, this]; decide

theorem base64 (cs : List AV) : (heapL (baseH cs) 68).get 64 = some (blkN (cellsOf 0)) := by kernel_rfl
theorem base66 (cs : List AV) : (heapL (baseH cs) 68).get 66 = some (blkN zeroC) := by kernel_rfl
theorem base67 (cs : List AV) : (heapL (baseH cs) 68).get 67 = some (blkN cs) := by kernel_rfl
theorem blk_map (cs : List AV) : (blkN cs).elem ≠ mapTag := by show 55 ≠ mapTag; decide

/-- Other names for the number that is made. -/
theorem in_named {w0 : World} {a e W i x x' : Nat} {k : Int} {c : Nat} {act : Act} {w : World} (h : Holds 39 w0 (nuI a e W i x) (inN k (cellsOf c)) act w) (hc : concL (nuI a e W i x) (cellsOf c) = some [u64 (Sh.w0 x'), u64 (w1 x'), u64 (w2 x'), u64 (w3 x')]) :
    Holds 39 w0 (nuI a e W i x') (inN k (cellsOf 8)) act w := by
  refine h.renum (fun p hp => ⟨p.2, hp, ?_⟩) fun p hp => ?_
  · simp only [inE, baseE, List.mem_cons, List.not_mem_nil, or_false] at hp
    rcases hp with rfl | rfl | rfl | rfl | rfl | rfl | rfl
    · exact Alike.conc (u := u64 W) rfl rfl
    · exact Alike.conc (u := .int .i64 k) rfl rfl
    · exact Alike.conc (u := .int .i64 (i : Int)) rfl rfl
    · exact Alike.p _ _
    · exact Alike.p _ _
    · exact Alike.p _ _
    · exact Alike.conc (u := n4 (w3 e) (w2 e) (w1 e) (Sh.w0 e)) rfl rfl
  · simp only [baseH, List.mem_cons, List.not_mem_nil, or_false] at hp
    rcases hp with rfl | rfl | rfl
    · exact ⟨by decide, blkN (cellsOf 0), [u64 (Sh.w0 a), u64 (w1 a), u64 (w2 a), u64 (w3 a)], base64 _, rfl, rfl, blk_map _, rfl, rfl⟩
    · exact ⟨by decide, blkN zeroC, [u64 0, u64 0, u64 0, u64 0], base66 _, rfl, rfl, blk_map _, rfl, rfl⟩
    · exact ⟨by decide, blkN (cellsOf c), [u64 (Sh.w0 x'), u64 (w1 x'), u64 (w2 x'), u64 (w3 x')], base67 _, rfl, rfl, blk_map _, hc, rfl⟩

theorem in_loop (w0 : World) (a e W i x : Nat) (ha : a < B4) : Tri Try.prog 39 (.loop iBody) (fun act w => Holds 39 w0 (nuI a e W i (powX a W x 64)) (inN 63 (cellsOf 8)) act w) (fun ex act w => ex = .exit 2 ∧ Holds 39 w0 (nuI a e W i (powX a W x 0)) (inN (-1) (cellsOf 8)) act w) := by
  have key := Tri.loop (P := Try.prog) (N := 39) (x := iBody) (J := fun k act w => k ≤ 64 ∧ Holds 39 w0 (nuI a e W i (powX a W x k)) (inN ((k : Int) - 1) (cellsOf 8)) act w) (Post := fun ex act w => ex = .exit 2 ∧ Holds 39 w0 (nuI a e W i (powX a W x 0)) (inN (-1) (cellsOf 8)) act w) 64 ?_ ?_
  · exact key.weak (fun act w h => ⟨Nat.le_refl _, h⟩) (fun _ _ _ h => h)
  · intro k c hc act w ⟨hk, hp⟩
    have hp' : Holds 39 w0 (nuI a e W i (powX a W x (k + 1))) (inN (.ofNat k) (cellsOf 8)) act w := by
      have : (((k + 1 : Nat) : Int) - 1) = .ofNat k := by rw [Int.ofNat_eq_natCast]; omega
      rw [this] at hp
      exact hp
    have hg := List.all_eq_true.1 in_goes k (List.mem_range.2 (by omega))
    simp only [inGo, Bool.and_eq_true] at hg
    have hst := powX_step a W x k (by omega)
    by_cases hb : W / 2 ^ k % 2 = 1
    · rw [if_pos hb] at hst
      refine ((Tri.run (bit_hold a e W i _ k (by omega) true (by simp [hb])) mixed tab_ok (inT_ok a e W i _ ha (prime_lt _)) hg.1).weak (fun _ _ h => h) (fun ex act w h => ?_)) c hc act w hp'
      refine .inl ⟨h.1, by omega, ?_⟩
      rw [hst]
      exact in_named h.2 rfl
    · rw [if_neg hb] at hst
      refine ((Tri.run (bit_hold a e W i _ k (by omega) false (by simp [hb])) mixed tab_ok (inT_ok a e W i _ ha (prime_lt _)) hg.2).weak (fun _ _ h => h) (fun ex act w h => ?_)) c hc act w hp'
      refine .inl ⟨h.1, by omega, ?_⟩
      rw [hst]
      exact in_named h.2 rfl
  · refine (Tri.run (noFacts_hold _) mixed tab_ok (fun r hr => by cases hr) in_ends).weak (fun act w h => h.2) (fun ex act w h => ?_)
    exact ⟨by rw [h.1]; simp, h.1, h.2⟩

end Go.Proofs.Ytlalonomdblhdaa
