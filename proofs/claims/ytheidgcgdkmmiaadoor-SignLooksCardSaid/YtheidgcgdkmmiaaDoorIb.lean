/-
 THE FIELD's POWERS: what pow answers. Own work.
-/
import Derived.Test.YtheidgcgdkmmiaaDoorIa
import Derived.Test.YtheidgcgdkmmiaaDoorSh0
namespace Go.Proofs.YtheidgcgdkmmiaaDoor
open Go.Sh
set_option maxRecDepth 100000
theorem rowMul {ν : Nat → Int} {p q r : AV} {x y : Nat} (hx : x < B4) (hy : y < B4) (h1 : qag ν p = some (num x)) (h2 : qag ν q = some (num y)) (h3 : conc ν r = some (num (x * y % qaa))) : Row.Ok ν Tryd.prog ⟨94, [p, q], r⟩ :=
 ⟨[num x, num y], num (x * y % qaa), by simp [qai, h1, h2], h3, mul_ok x y hx hy⟩
/-! pow: its pieces -/
def pw : IC := t97.body
def pA : IC := pw.sub [false]
def pB : IC := pw.sub [true, false]
def pC : IC := pw.sub [true, true, false, false]
def oBody : IC := pw.sub [true, true, false, true, false, false]
def o1 : IC := oBody.sub [false]
def o2 : IC := oBody.sub [true, false]
def o3 : IC := oBody.sub [true, true, false]
def o4 : IC := oBody.sub [true, true, true]
def oY1 : IC := o3.sub [false, false]
def oY2 : IC := o3.sub [false, true, false]
def iBody : IC := o3.sub [false, true, true, false, false]
def pE : IC := pw.sub [true, true, true]
theorem pow_shape : t97 = ⟨.seq pA (.seq pB (.seq (.seq pC (.block 0 (.loop oBody))) pE)), [.c 4 (some 4)], 39⟩ := by kernel_rfl
theorem o_shape : oBody = .seq o1 (.seq o2 (.seq o3 o4)) := by kernel_rfl
theorem o3_shape : o3 = .block 1 (.seq oY1 (.seq oY2 (.block 2 (.loop iBody)))) := by kernel_rfl
def cellsOf (k : Nat) : List AV := [wd k, wd (k + 1), wd (k + 2), wd (k + 3)]
def zeroC : List AV := [c0, c0, c0, c0]
def blkN (cs : List AV) : ABlk := ⟨cs, 113, true⟩
def eArr : AV := .ag [wd 7, wd 6, wd 5, wd 4]
def baseE : List (Nat × AV) := [(2, .p 64 0), (4, .p 66 0), (5, .p 67 0), (18, eArr)]
def baseH (cs : List AV) : List (Nat × ABlk) := [(64, blkN (cellsOf 0)), (66, blkN zeroC), (67, blkN cs)]
def inE (k : Int) : List (Nat × AV) := (7, wd 12) :: (8, .i .i64 (.c k)) :: (19, .i .i64 (.s 13)) :: baseE
def inN (k : Int) (cs : List AV) : Now := ⟨inE k, baseH cs, 68⟩
def bitF (k : Nat) (b : Bool) : Facts := ⟨[], [(.eql, .e .and .u64 (.e .shr .u64 (.s 12) (.c (.ofNat k))) (.c (.ofNat 1)), .c (.ofNat 1), b)], []⟩
def inT : List Row := [⟨94, [ns 8, ns 8], ns 14⟩, ⟨94, [ns 14, ns 0], ns 18⟩]
noncomputable def inGo (k : Nat) : Bool := goes (bitF k true) tree inT 60 2 iBody (inN (.ofNat k) (cellsOf 8)) .normal (inN ((k : Int) - 1) (cellsOf 18)) && goes (bitF k false) tree inT 60 2 iBody (inN (.ofNat k) (cellsOf 8)) .normal (inN ((k : Int) - 1) (cellsOf 14))
theorem in_goes : (List.range 64).all inGo = true := by kernel_rfl
theorem in_ends : goes qae tree [] 60 2 iBody (inN (-1) (cellsOf 8)) (.exit 2) (inN (-1) (cellsOf 8)) = true := by kernel_rfl
/-! The inner rounds. -/
def nuI (a e W i x : Nat) : Nat → Int := nu (numL a ++ numL e ++ numL x ++ [W, i] ++ numL (x * x % qaa) ++ numL (x * x % qaa * a % qaa))
def powX (a W x : Nat) (k : Nat) : Nat := x ^ 2 ^ (64 - k) * a ^ (W / 2 ^ k) % qaa
theorem prime_pos : 0 < qaa := by decide
theorem qah (x : Nat) : x % qaa < B4 := Nat.lt_trans (Nat.mod_lt _ prime_pos) (by decide)
theorem powX_step (a W x k : Nat) (hk : k < 64) : powX a W x k = if W / 2 ^ k % 2 = 1 then powX a W x (k + 1) * powX a W x (k + 1) % qaa * a % qaa else powX a W x (k + 1) * powX a W x (k + 1) % qaa := by
 have e1 : 2 ^ (64 - k) = 2 ^ (64 - (k + 1)) + 2 ^ (64 - (k + 1)) := by
  rw [show 64 - k = (64 - (k + 1)) + 1 by omega, Nat.pow_succ]; omega
 have e2 : W / 2 ^ k = W / 2 ^ (k + 1) + W / 2 ^ (k + 1) + W / 2 ^ k % 2 := by
  rw [Nat.pow_succ, ← Nat.div_div_eq_div_mul]; omega
 have e3 : ∀ b, W / 2 ^ k % 2 = b → powX a W x k = x ^ 2 ^ (64 - (k + 1)) * a ^ (W / 2 ^ (k + 1)) * (x ^ 2 ^ (64 - (k + 1)) * a ^ (W / 2 ^ (k + 1))) * a ^ b % qaa := by
  intro b hb
  unfold powX
  rw [hb] at e2
  rw [e2, e1, Nat.pow_add, Nat.pow_add, Nat.pow_add]
  congr 1
  simp only [Nat.mul_assoc, Nat.mul_left_comm, Nat.mul_comm]
 split
 ·rename_i hb
  rw [e3 1 hb, Nat.pow_one]
  unfold powX
  rw [← Nat.mul_mod, Nat.mod_mul_mod]
 ·rename_i hb
  rw [e3 0 (by omega), Nat.pow_zero, Nat.mul_one]
  unfold powX
  rw [← Nat.mul_mod]
theorem inT_ok (a e W i x : Nat) (ha : a < B4) (hx : x < B4) : ∀ r ∈ inT, r.Ok (nuI a e W i x) Tryd.prog := by
 intro r hr
 simp only [inT, List.mem_cons, List.not_mem_nil, or_false] at hr
 rcases hr with rfl | rfl
 ·exact rowMul hx hx rfl rfl rfl
 ·exact rowMul (qah _) ha rfl rfl rfl
theorem bit_hold (a e W i x k : Nat) (hk : k ≤ 64) (b : Bool) (hb : decide (W / 2 ^ k % 2 = 1) = b) : (bitF k b).Hold (nuI a e W i x) := by
 refine ⟨fun p hp => (by cases hp), fun p hp => ?_, fun p hp => by cases hp⟩
 simp only [bitF, List.mem_cons, List.not_mem_nil, or_false] at hp
 subst hp
 show (qaj .and .u64 (qaj .shr .u64 ((W : Nat) : Int) ((k : Nat) : Int)) ((1 : Nat) : Int) == ((1 : Nat) : Int)) = b
 rw [a_shr .u64 W k hk, a_mask _ 1 1 rfl (by decide), ← hb]
 by_cases h : W / 2 ^ k % 2 = 1
 ·simp only [Nat.pow_one, h, decide_true]; rfl
 ·have : W / 2 ^ k % 2 = 0 := by omega
  simp only [Nat.pow_one, this]; decide
theorem base64 (cs : List AV) : (qam (baseH cs) 68).get 64 = some (blkN (cellsOf 0)) := by kernel_rfl
theorem base66 (cs : List AV) : (qam (baseH cs) 68).get 66 = some (blkN zeroC) := by kernel_rfl
theorem base67 (cs : List AV) : (qam (baseH cs) 68).get 67 = some (blkN cs) := by kernel_rfl
theorem blk_map (cs : List AV) : (blkN cs).elem < qac := by show 113 < qac; decide
theorem in_named {w0 : World} {a e W i x x' : Nat} {k : Int} {c : Nat} {act : Act} {w : World} (h : Holds 39 w0 (nuI a e W i x) (inN k (cellsOf c)) act w) (hc : qap (nuI a e W i x) (cellsOf c) = some [u64 (Sh.w0 x'), u64 (w1 x'), u64 (w2 x'), u64 (w3 x')]) :
  Holds 39 w0 (nuI a e W i x') (inN k (cellsOf 8)) act w := by
 refine h.renum (fun p hp => ⟨p.2, hp, ?_⟩) fun p hp => ?_
 ·simp only [inE, baseE, List.mem_cons, List.not_mem_nil, or_false] at hp
  rcases hp with rfl | rfl | rfl | rfl | rfl | rfl | rfl
  ·exact qa5.conc (u := u64 W) rfl rfl
  ·exact qa5.conc (u := .int .i64 k) rfl rfl
  ·exact qa5.conc (u := .int .i64 (i : Int)) rfl rfl
  ·exact qa5.p _ _
  ·exact qa5.p _ _
  ·exact qa5.p _ _
  ·exact qa5.conc (u := n4 (w3 e) (w2 e) (w1 e) (Sh.w0 e)) rfl rfl
 ·simp only [baseH, List.mem_cons, List.not_mem_nil, or_false] at hp
  rcases hp with rfl | rfl | rfl
  ·exact ⟨by decide, blkN (cellsOf 0), [u64 (Sh.w0 a), u64 (w1 a), u64 (w2 a), u64 (w3 a)], base64 _, rfl, rfl, blk_map _, rfl, rfl⟩
  ·exact ⟨by decide, blkN zeroC, [u64 0, u64 0, u64 0, u64 0], base66 _, rfl, rfl, blk_map _, rfl, rfl⟩
  ·exact ⟨by decide, blkN (cellsOf c), [u64 (Sh.w0 x'), u64 (w1 x'), u64 (w2 x'), u64 (w3 x')], base67 _, rfl, rfl, blk_map _, hc, rfl⟩
theorem in_loop (w0 : World) (a e W i x : Nat) (ha : a < B4) : Tri Tryd.prog 39 (.loop iBody) (fun act w => Holds 39 w0 (nuI a e W i (powX a W x 64)) (inN 63 (cellsOf 8)) act w) (fun ex act w => ex = .exit 2 ∧ Holds 39 w0 (nuI a e W i (powX a W x 0)) (inN (-1) (cellsOf 8)) act w) := by
 have key := Tri.loop (P := Tryd.prog) (N := 39) (x := iBody) (J := fun k act w => k ≤ 64 ∧ Holds 39 w0 (nuI a e W i (powX a W x k)) (inN ((k : Int) - 1) (cellsOf 8)) act w) (Post := fun ex act w => ex = .exit 2 ∧ Holds 39 w0 (nuI a e W i (powX a W x 0)) (inN (-1) (cellsOf 8)) act w) 64 ?_ ?_
 ·exact key.weak (fun act w h => ⟨Nat.le_refl _, h⟩) (fun _ _ _ h => h)
 ·intro k c hc act w ⟨hk, hp⟩
  have hp' : Holds 39 w0 (nuI a e W i (powX a W x (k + 1))) (inN (.ofNat k) (cellsOf 8)) act w := by
   have : (((k + 1 : Nat) : Int) - 1) = .ofNat k := by rw [Int.ofNat_eq_natCast]; omega
   rw [this] at hp
   exact hp
  have hg := List.all_eq_true.1 in_goes k (List.mem_range.2 (by omega))
  simp only [inGo, Bool.and_eq_true] at hg
  have hst := powX_step a W x k (by omega)
  by_cases hb : W / 2 ^ k % 2 = 1
  ·rw [if_pos hb] at hst
   refine ((Tri.run (bit_hold a e W i _ k (by omega) true (by simp [hb])) qak qaf (inT_ok a e W i _ ha (qah _)) hg.1).weak (fun _ _ h => h) (fun ex act w h => ?_)) c hc act w hp'
   refine .inl ⟨h.1, by omega, ?_⟩
   rw [hst]
   exact in_named h.2 rfl
  ·rw [if_neg hb] at hst
   refine ((Tri.run (bit_hold a e W i _ k (by omega) false (by simp [hb])) qak qaf (inT_ok a e W i _ ha (qah _)) hg.2).weak (fun _ _ h => h) (fun ex act w h => ?_)) c hc act w hp'
   refine .inl ⟨h.1, by omega, ?_⟩
   rw [hst]
   exact in_named h.2 rfl
 ·refine (Tri.run (qab _) qak qaf (fun r hr => by cases hr) in_ends).weak (fun act w h => h.2) (fun ex act w h => ?_)
  exact ⟨by rw [h.1]; simp, h.1, h.2⟩
def nuO (a e x : Nat) : Nat → Int := nu (numL a ++ numL e ++ numL x)
def outN (i : Nat) : Now := ⟨(19, .i .i64 (.c (.ofNat i))) :: baseE, baseH (cellsOf 8), 68⟩
def out1 (i : Nat) (b : Bool) : Now := ⟨(20, .b b) :: (19, .i .i64 (.c (.ofNat i))) :: baseE, baseH (cellsOf 8), 68⟩
def outW (i s : Nat) : Now := ⟨(7, wd s) :: (19, .i .i64 (.c (.ofNat i))) :: baseE, baseH (cellsOf 8), 68⟩
def outV (i s : Nat) : Now := ⟨(7, wd s) :: (8, .i .i64 (.c 63)) :: (19, .i .i64 (.c (.ofNat i))) :: baseE, baseH (cellsOf 8), 68⟩
noncomputable def outGo (i : Nat) : Bool := goes qae tree [] 60 2 o1 (outN i) .normal (out1 i true) && (goes qae tree [] 60 2 o2 (out1 i true) .normal (outN i) && (goes qae tree [] 60 2 oY1 (outN i) .normal (outW i (7 - i)) && (goes qae tree [] 60 2 oY2 (outW i (7 - i)) .normal (outV i (7 - i)) && goes qae tree [] 60 2 o4 (outN i) .normal (outN (i + 1)))))
theorem out_goes : (List.range 4).all outGo = true := by kernel_rfl
theorem out_ends : goes qae tree [] 60 2 oBody (outN 4) (.exit 0) (outN 4) = true := by kernel_rfl
def wordOf (e i : Nat) : Nat := e / 2 ^ (64 * (3 - i)) % 2 ^ 64
theorem word_at (a e x i : Nat) (hi : i < 4) : nuO a e x (7 - i) = ((wordOf e i : Nat) : Int) := by
 match i, hi with
 | 0, _ => rfl
 | 1, _ => rfl
 | 2, _ => rfl
 | 3, _ => show ((e % 18446744073709551616 : Nat) : Int) = _; unfold wordOf; simp
def powY (a e : Nat) (i : Nat) : Nat := a ^ (e / 2 ^ (64 * (4 - i))) % qaa
theorem pow_words (a m K : Nat) : a ^ m % qaa = (a ^ (m / K) % qaa) ^ K * a ^ (m % K) % qaa := by
 have e3 : a ^ m = (a ^ (m / K)) ^ K * a ^ (m % K) := by
  rw [← Nat.pow_mul, ← Nat.pow_add]
  congr 1
  have := Nat.div_add_mod' m K
  omega
 rw [e3, Nat.mul_mod, Nat.pow_mod, ← Nat.mul_mod]
theorem powY_step (a e i : Nat) (hi : i < 4) : powY a e (i + 1) = powX a (wordOf e i) (powY a e i) 0 := by
 unfold powX powY wordOf
 have e1 : 64 * (4 - (i + 1)) = 64 * (3 - i) := by omega
 have e2 : 64 * (4 - i) = 64 * (3 - i) + 64 := by omega
 rw [e1, e2, Nat.pow_add, ← Nat.div_div_eq_div_mul]
 generalize e / 2 ^ (64 * (3 - i)) = m
 rw [Nat.pow_zero, Nat.div_one, Nat.sub_zero]
 generalize (2 : Nat) ^ 64 = K
 exact pow_words a m K
theorem nuO_named {w0 : World} {a e W i x : Nat} {s : Nat} {act : Act} {w : World} (hs : nuO a e x s = ((W : Nat) : Int)) (h : Holds 39 w0 (nuO a e x) (outV i s) act w) : Holds 39 w0 (nuI a e W i x) (inN 63 (cellsOf 8)) act w := by
 refine h.renum (fun p hp => ?_) fun p hp => ?_
 ·simp only [inE, baseE, List.mem_cons, List.not_mem_nil, or_false] at hp
  rcases hp with rfl | rfl | rfl | rfl | rfl | rfl | rfl
  ·exact ⟨wd s, by simp, qa5.conc (u := u64 W) (by show some (Value.int .u64 (nuO a e x s)) = _; rw [hs]; rfl) rfl⟩
  ·exact ⟨.i .i64 (.c 63), by simp, qa5.conc (u := .int .i64 63) rfl rfl⟩
  ·exact ⟨.i .i64 (.c (.ofNat i)), by simp, qa5.conc (u := .int .i64 (i : Int)) rfl rfl⟩
  ·exact ⟨_, by simp [baseE], qa5.p _ _⟩
  ·exact ⟨_, by simp [baseE], qa5.p _ _⟩
  ·exact ⟨_, by simp [baseE], qa5.p _ _⟩
  ·exact ⟨eArr, by simp [baseE], qa5.conc (u := n4 (w3 e) (w2 e) (w1 e) (Sh.w0 e)) rfl rfl⟩
 ·simp only [baseH, List.mem_cons, List.not_mem_nil, or_false] at hp
  rcases hp with rfl | rfl | rfl
  ·exact ⟨by decide, blkN (cellsOf 0), [u64 (Sh.w0 a), u64 (w1 a), u64 (w2 a), u64 (w3 a)], base64 _, rfl, rfl, blk_map _, rfl, rfl⟩
  ·exact ⟨by decide, blkN zeroC, [u64 0, u64 0, u64 0, u64 0], base66 _, rfl, rfl, blk_map _, rfl, rfl⟩
  ·exact ⟨by decide, blkN (cellsOf 8), [u64 (Sh.w0 x), u64 (w1 x), u64 (w2 x), u64 (w3 x)], base67 _, rfl, rfl, blk_map _, rfl, rfl⟩
theorem nuI_named {w0 : World} {a e W i x : Nat} {act : Act} {w : World} (h : Holds 39 w0 (nuI a e W i x) (inN (-1) (cellsOf 8)) act w) : Holds 39 w0 (nuO a e x) (outN i) act w := by
 refine h.renum (fun p hp => ?_) fun p hp => ?_
 ·simp only [baseE, List.mem_cons, List.not_mem_nil, or_false] at hp
  rcases hp with rfl | rfl | rfl | rfl | rfl
  ·exact ⟨.i .i64 (.s 13), by simp [inE], qa5.conc (u := .int .i64 (i : Int)) rfl rfl⟩
  ·exact ⟨_, by simp [inE, baseE], qa5.p _ _⟩
  ·exact ⟨_, by simp [inE, baseE], qa5.p _ _⟩
  ·exact ⟨_, by simp [inE, baseE], qa5.p _ _⟩
  ·exact ⟨eArr, by simp [inE, baseE], qa5.conc (u := n4 (w3 e) (w2 e) (w1 e) (Sh.w0 e)) rfl rfl⟩
 ·simp only [baseH, List.mem_cons, List.not_mem_nil, or_false] at hp
  rcases hp with rfl | rfl | rfl
  ·exact ⟨by decide, blkN (cellsOf 0), [u64 (Sh.w0 a), u64 (w1 a), u64 (w2 a), u64 (w3 a)], base64 _, rfl, rfl, blk_map _, rfl, rfl⟩
  ·exact ⟨by decide, blkN zeroC, [u64 0, u64 0, u64 0, u64 0], base66 _, rfl, rfl, blk_map _, rfl, rfl⟩
  ·exact ⟨by decide, blkN (cellsOf 8), [u64 (Sh.w0 x), u64 (w1 x), u64 (w2 x), u64 (w3 x)], base67 _, rfl, rfl, blk_map _, rfl, rfl⟩
theorem noRows {ν : Nat → Int} : ∀ r ∈ ([] : List Row), r.Ok ν Tryd.prog := fun r hr => by cases hr
theorem word_round (w0 : World) (a e i x : Nat) (ha : a < B4) (hx : x < qaa) (hi : i < 4) :
  Tri Tryd.prog 39 oBody (Holds 39 w0 (nuO a e x) (outN i)) (fun ex act w => ex = .normal ∧ Holds 39 w0 (nuO a e (powX a (wordOf e i) x 0)) (outN (i + 1)) act w) := by
 have hg := List.all_eq_true.1 out_goes i (List.mem_range.2 hi)
 simp only [outGo, Bool.and_eq_true] at hg
 obtain ⟨g1, g2, g3, g4, g5⟩ := hg
 have hW : wordOf e i < 2 ^ 64 := Nat.mod_lt _ (by decide)
 have hx64 : powX a (wordOf e i) x 64 = x := by
  unfold powX
  rw [Nat.div_eq_of_lt hW, Nat.sub_self, Nat.pow_zero, Nat.pow_one, Nat.pow_zero, Nat.mul_one, Nat.mod_eq_of_lt hx]
 rw [o_shape, o3_shape]
 have hin := in_loop w0 a e (wordOf e i) i x ha
 rw [hx64] at hin
 refine Tri.seq (Tri.run (qab _) qak qaf noRows g1) ?_ (fun ex a w hne h => (hne h.1).elim)
 refine Tri.weak (Pre := Holds 39 w0 (nuO a e x) (out1 i true)) ?_ (fun _ _ h => h.2) (fun _ _ _ h => h)
 refine Tri.seq (Tri.run (qab _) qak qaf noRows g2) ?_ (fun ex a w hne h => (hne h.1).elim)
 refine Tri.weak (Pre := Holds 39 w0 (nuO a e x) (outN i)) ?_ (fun _ _ h => h.2) (fun _ _ _ h => h)
 refine Tri.seq (Mid := fun ex act w => ex = .normal ∧ Holds 39 w0 (nuO a e (powX a (wordOf e i) x 0)) (outN i) act w) ?_ ?_ (fun ex a w hne h => (hne h.1).elim)
 ·refine Tri.block (Mid := fun ex act w => ex = .normal ∧ Holds 39 w0 (nuO a e (powX a (wordOf e i) x 0)) (outN i) act w) ?_ (fun a w h => h) (fun a w h => by cases h.1) (fun i a w _ h => by cases h.1) (fun a w h => by cases h.1)
  refine Tri.seq (Tri.run (qab _) qak qaf noRows g3) ?_ (fun ex a w hne h => (hne h.1).elim)
  refine Tri.weak (Pre := Holds 39 w0 (nuO a e x) (outW i (7 - i))) ?_ (fun _ _ h => h.2) (fun _ _ _ h => h)
  refine Tri.seq (Tri.run (qab _) qak qaf noRows g4) ?_ (fun ex a w hne h => (hne h.1).elim)
  refine Tri.weak (Pre := Holds 39 w0 (nuI a e (wordOf e i) i x) (inN 63 (cellsOf 8))) ?_ (fun act w h => nuO_named (word_at a e x i hi) h.2) (fun _ _ _ h => h)
  refine Tri.block hin (fun a w h => by cases h.1) (fun act w h => ⟨rfl, nuI_named h.2⟩) (fun j a w hj h => ?_) (fun a w h => by cases h.1)
  have := h.1
  simp only [Ex.exit.injEq] at this
  exact (hj this).elim
 ·refine Tri.weak (Pre := Holds 39 w0 (nuO a e (powX a (wordOf e i) x 0)) (outN i)) (Tri.run (qab _) qak qaf noRows g5) (fun _ _ h => h.2) (fun _ _ _ h => h)
theorem words (w0 : World) (a e : Nat) (ha : a < B4) : Tri Tryd.prog 39 (.loop oBody) (Holds 39 w0 (nuO a e (powY a e 0)) (outN 0)) (fun ex act w => ex = .exit 0 ∧ Holds 39 w0 (nuO a e (powY a e 4)) (outN 4) act w) := by
 have key := Tri.loop (P := Tryd.prog) (N := 39) (x := oBody) (J := fun k act w => k ≤ 4 ∧ Holds 39 w0 (nuO a e (powY a e (4 - k))) (outN (4 - k)) act w) (Post := fun ex act w => ex = .exit 0 ∧ Holds 39 w0 (nuO a e (powY a e 4)) (outN 4) act w) 4 ?_ ?_
 ·exact key.weak (fun act w h => ⟨Nat.le_refl _, h⟩) (fun _ _ _ h => h)
 ·intro k c hc act w ⟨hk, hp⟩
  refine ((word_round w0 a e (4 - (k + 1)) (powY a e (4 - (k + 1))) ha (Nat.mod_lt _ prime_pos) (by omega)).weak (fun _ _ h => h) (fun ex act w h => ?_)) c hc act w hp
  refine .inl ⟨h.1, by omega, ?_⟩
  have h2 := h.2
  rw [← powY_step a e _ (by omega)] at h2
  rw [show 4 - (k + 1) + 1 = 4 - k by omega] at h2
  exact h2
 ·refine (Tri.run (qab _) qak qaf noRows out_ends).weak (fun act w h => h.2) (fun ex act w h => ?_)
  exact ⟨by rw [h.1]; simp, h.1, h.2⟩
/-! Ahead of the rounds, and behind them. -/
def now0 : Now := ⟨[(0, ns 0), (1, ns 4)], [], gmax⟩
def nowA : Now := ⟨[(2, .p 64 0), (3, .p 65 0), (4, .p 66 0)], [(64, blkN (cellsOf 0)), (65, blkN (cellsOf 4)), (66, blkN zeroC)], 67⟩
def nowB : Now := ⟨[(2, .p 64 0), (3, .p 65 0), (4, .p 66 0), (5, .p 67 0)], [(64, blkN (cellsOf 0)), (65, blkN (cellsOf 4)), (66, blkN zeroC), (67, blkN [cK 1, c0, c0, c0])], 68⟩
def nowC : Now := ⟨(19, .i .i64 (.c (.ofNat 0))) :: baseE, baseH [cK 1, c0, c0, c0], 68⟩
def nowE : Now := ⟨[(4, .p 66 0)], [(66, blkN (cellsOf 8))], 68⟩
theorem goA : goes qae tree [] 60 2 pA now0 .normal nowA = true := by kernel_rfl
theorem goB : goes qae tree [] 60 2 pB nowA .normal nowB = true := by kernel_rfl
theorem goC : goes qae tree [] 60 2 pC nowB .normal nowC = true := by kernel_rfl
theorem goE : goes qae tree [] 60 2 pE (outN 4) .ret nowE = true := by kernel_rfl
theorem one_named {w0 : World} {a e : Nat} {act : Act} {w : World} (h : Holds 39 w0 (nu (numL a ++ numL e)) nowC act w) : Holds 39 w0 (nuO a e 1) (outN 0) act w := by
 refine h.renum (fun p hp => ?_) fun p hp => ?_
 ·simp only [baseE, List.mem_cons, List.not_mem_nil, or_false] at hp
  rcases hp with rfl | rfl | rfl | rfl | rfl
  ·exact ⟨.i .i64 (.c (.ofNat 0)), by simp, qa5.conc (u := .int .i64 0) rfl rfl⟩
  ·exact ⟨_, by simp [baseE], qa5.p _ _⟩
  ·exact ⟨_, by simp [baseE], qa5.p _ _⟩
  ·exact ⟨_, by simp [baseE], qa5.p _ _⟩
  ·exact ⟨eArr, by simp [baseE], qa5.conc (u := n4 (w3 e) (w2 e) (w1 e) (Sh.w0 e)) rfl rfl⟩
 ·simp only [baseH, List.mem_cons, List.not_mem_nil, or_false] at hp
  rcases hp with rfl | rfl | rfl
  ·exact ⟨by decide, blkN (cellsOf 0), [u64 (Sh.w0 a), u64 (w1 a), u64 (w2 a), u64 (w3 a)], base64 _, rfl, rfl, blk_map _, rfl, rfl⟩
  ·exact ⟨by decide, blkN zeroC, [u64 0, u64 0, u64 0, u64 0], base66 _, rfl, rfl, blk_map _, rfl, rfl⟩
  ·exact ⟨by decide, blkN [cK 1, c0, c0, c0], [u64 1, u64 0, u64 0, u64 0], base67 _, rfl, rfl, blk_map _, rfl, rfl⟩
theorem pow_ok (a e : Nat) (ha : a < B4) (he : e < B4) : Pure Tryd.prog 97 [num a, num e] (num (a ^ e % qaa)) := by
 have y0 : powY a e 0 = 1 := by
  unfold powY
  rw [Nat.div_eq_of_lt (show e < 2 ^ (64 * (4 - 0)) by unfold B4 at he; simpa using he), Nat.pow_zero]
  decide
 have y4 : powY a e 4 = a ^ e % qaa := by unfold powY; simp
 refine pure_tri (ν := nu (numL a ++ numL e)) (ν' := nuO a e (powY a e 4)) (args := [ns 0, ns 4]) (r := ns 8) (o := nowE) tree qaf (by kernel_rfl) pow_shape rfl (by decide) now0.e (fun p hp => ?_) (fun w0 => ?_) (by kernel_rfl) (by rw [y4]; rfl)
 ·simp only [now0, List.mem_cons, List.not_mem_nil, or_false] at hp
  rcases hp with rfl | rfl <;> rfl
 ·refine Tri.seq (Tri.run (i := now0) (qab _) qak qaf noRows goA) ?_ (fun ex a w hne h => (hne h.1).elim)
  refine Tri.weak (Pre := Holds 39 w0 (nu (numL a ++ numL e)) nowA) ?_ (fun _ _ h => h.2) (fun _ _ _ h => h)
  refine Tri.seq (Tri.run (qab _) qak qaf noRows goB) ?_ (fun ex a w hne h => (hne h.1).elim)
  refine Tri.weak (Pre := Holds 39 w0 (nu (numL a ++ numL e)) nowB) ?_ (fun _ _ h => h.2) (fun _ _ _ h => h)
  refine Tri.seq (Mid := fun ex act w => ex = .normal ∧ Holds 39 w0 (nuO a e (powY a e 4)) (outN 4) act w) ?_ ?_ (fun ex a w hne h => (hne h.1).elim)
  ·refine Tri.seq (Tri.run (qab _) qak qaf noRows goC) ?_ (fun ex a w hne h => (hne h.1).elim)
   refine Tri.weak (Pre := Holds 39 w0 (nuO a e (powY a e 0)) (outN 0)) ?_ (fun _ _ h => by rw [y0]; exact one_named h.2) (fun _ _ _ h => h)
   refine Tri.block (words w0 a e ha) (fun a w h => by cases h.1) (fun act w h => ⟨rfl, h.2⟩) (fun j a w hj h => ?_) (fun a w h => by cases h.1)
   have := h.1
   simp only [Ex.exit.injEq] at this
   exact (hj this).elim
  ·exact (Tri.run (qab _) qak qaf noRows goE).weak (fun _ _ h => h.2) (fun ex act w h => ⟨.inr h.1, h.2⟩)
end Go.Proofs.YtheidgcgdkmmiaaDoor
