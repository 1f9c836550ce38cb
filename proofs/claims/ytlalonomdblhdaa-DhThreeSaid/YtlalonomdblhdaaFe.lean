/-
  THE FIELD: powers, all of it. Own work.
-/
import Derived.Test.YtlalonomdblhdaaFd
namespace Go.Proofs.Ytlalonomdblhdaa
open Go.Sh
set_option maxRecDepth 100000

def nuO (a e x : Nat) : Nat → Int := nu (numL a ++ numL e ++ numL x)
def outN (i : Nat) : Now := ⟨(19, .i .i64 (.c (.ofNat i))) :: baseE, baseH (cellsOf 8), 68⟩
def out1 (i : Nat) (b : Bool) : Now := ⟨(20, .b b) :: (19, .i .i64 (.c (.ofNat i))) :: baseE, baseH (cellsOf 8), 68⟩
def outW (i s : Nat) : Now := ⟨(7, wd s) :: (19, .i .i64 (.c (.ofNat i))) :: baseE, baseH (cellsOf 8), 68⟩
def outV (i s : Nat) : Now := ⟨(7, wd s) :: (8, .i .i64 (.c 63)) :: (19, .i .i64 (.c (.ofNat i))) :: baseE, baseH (cellsOf 8), 68⟩

noncomputable def outGo (i : Nat) : Bool := goes noFacts tree [] 60 2 o1 (outN i) .normal (out1 i true) && (goes noFacts tree [] 60 2 o2 (out1 i true) .normal (outN i) && (goes noFacts tree [] 60 2 oY1 (outN i) .normal (outW i (7 - i)) && (goes noFacts tree [] 60 2 oY2 (outW i (7 - i)) .normal (outV i (7 - i)) && goes noFacts tree [] 60 2 o4 (outN i) .normal (outN (i + 1)))))
theorem out_goes : (List.range 4).all outGo = true := by kernel_rfl
theorem out_ends : goes noFacts tree [] 60 2 oBody (outN 4) (.exit 0) (outN 4) = true := by kernel_rfl

/-- The word of an exponent that a round takes. -/
def wordOf (e i : Nat) : Nat := e / 2 ^ (64 * (3 - i)) % 2 ^ 64
theorem word_at (a e x i : Nat) (hi : i < 4) : nuO a e x (7 - i) = ((wordOf e i : Nat) : Int) := by
  match i, hi with
  | 0, _ => rfl
  | 1, _ => rfl
  | 2, _ => rfl
  | 3, _ => show ((e % 18446744073709551616 : Nat) : Int) = _; unfold wordOf; simp

def powY (a e : Nat) (i : Nat) : Nat := a ^ (e / 2 ^ (64 * (4 - i))) % prime

theorem pow_words (a m K : Nat) : a ^ m % prime = (a ^ (m / K) % prime) ^ K * a ^ (m % K) % prime := by
  have e3 : a ^ m = (a ^ (m / K)) ^ K * a ^ (m % K) := by
    rw [← Nat.pow_mul, ← Nat.pow_add]
    congr 1
    have := Nat.div_add_mod' m K
    omega
  rw [e3, Nat.mul_mod, Nat.pow_mod, ← Nat.mul_mod]

theorem powY_step (a e i : Nat) (hi : i < 4) : powY a e (i + 1) = powX a (wordOf e i) (powY a e i) 0 := by
  unfold powX powY wordOf
  have e1 : 64 * (4 - (i + 1)) = 64 * (3 - i) := by omega
  have e2 : 64 * (4 - i) = 64 * (3 - i) + 64 := by omega
  rw [e1, e2, Nat.pow_add, ← Nat.div_div_eq_div_mul]
  generalize e / 2 ^ (64 * (3 - i)) = m
  rw [Nat.pow_zero, Nat.div_one, Nat.sub_zero]
  generalize (2 : Nat) ^ 64 = K
  exact pow_words a m K

theorem nuO_named {w0 : World} {a e W i x : Nat} {s : Nat} {act : Act} {w : World} (hs : nuO a e x s = ((W : Nat) : Int)) (h : Holds 39 w0 (nuO a e x) (outV i s) act w) : Holds 39 w0 (nuI a e W i x) (inN 63 (cellsOf 8)) act w := by
  refine h.renum (fun p hp => ?_) fun p hp => ?_
  · simp only [inE, baseE, List.mem_cons, List.not_mem_nil, or_false] at hp
    rcases hp with rfl | rfl | rfl | rfl | rfl | rfl | rfl
    · exact ⟨wd s, by simp, Alike.conc (u := u64 W) (by show some (Value.int .u64 (nuO a e x s)) = _; rw [hs]; rfl) rfl⟩
    · exact ⟨.i .i64 (.c 63), by simp, Alike.conc (u := .int .i64 63) rfl rfl⟩
    · exact ⟨.i .i64 (.c (.ofNat i)), by simp, Alike.conc (u := .int .i64 (i : Int)) rfl rfl⟩
    · exact ⟨_, by simp [baseE], Alike.p _ _⟩
    · exact ⟨_, by simp [baseE], Alike.p _ _⟩
    · exact ⟨_, by simp [baseE], Alike.p _ _⟩
    · exact ⟨eArr, by simp [baseE], Alike.conc (u := n4 (w3 e) (w2 e) (w1 e) (Sh.w0 e)) rfl rfl⟩
  · simp only [baseH, List.mem_cons, List.not_mem_nil, or_false] at hp
    rcases hp with rfl | rfl | rfl
    · exact ⟨by decide, blkN (cellsOf 0), [u64 (Sh.w0 a), u64 (w1 a), u64 (w2 a), u64 (w3 a)], base64 _, rfl, rfl, blk_map _, rfl, rfl⟩
    · exact ⟨by decide, blkN zeroC, [u64 0, u64 0, u64 0, u64 0], base66 _, rfl, rfl, blk_map _, rfl, rfl⟩
    · exact ⟨by decide, blkN (cellsOf 8), [u64 (Sh.w0 x), u64 (w1 x), u64 (w2 x), u64 (w3 x)], base67 _, rfl, rfl, blk_map _, rfl, rfl⟩

theorem nuI_named {w0 : World} {a e W i x : Nat} {act : Act} {w : World} (h : Holds 39 w0 (nuI a e W i x) (inN (-1) (cellsOf 8)) act w) : Holds 39 w0 (nuO a e x) (outN i) act w := by
  refine h.renum (fun p hp => ?_) fun p hp => ?_
  · simp only [baseE, List.mem_cons, List.not_mem_nil, or_false] at hp
    rcases hp with rfl | rfl | rfl | rfl | rfl
    · exact ⟨.i .i64 (.s 13), by simp [inE], Alike.conc (u := .int .i64 (i : Int)) rfl rfl⟩
    · exact ⟨_, by simp [inE, baseE], Alike.p _ _⟩
    · exact ⟨_, by simp [inE, baseE], Alike.p _ _⟩
    · exact ⟨_, by simp [inE, baseE], Alike.p _ _⟩
    · exact ⟨eArr, by simp [inE, baseE], Alike.conc (u := n4 (w3 e) (w2 e) (w1 e) (Sh.w0 e)) rfl rfl⟩
  · simp only [baseH, List.mem_cons, List.not_mem_nil, or_false] at hp
    rcases hp with rfl | rfl | rfl
    · exact ⟨by decide, blkN (cellsOf 0), [u64 (Sh.w0 a), u64 (w1 a), u64 (w2 a), u64 (w3 a)], base64 _, rfl, rfl, blk_map _, rfl, rfl⟩
    · exact ⟨by decide, blkN zeroC, [u64 0, u64 0, u64 0, u64 0], base66 _, rfl, rfl, blk_map _, rfl, rfl⟩
    · exact ⟨by decide, blkN (cellsOf 8), [u64 (Sh.w0 x), u64 (w1 x), u64 (w2 x), u64 (w3 x)], base67 _, rfl, rfl, blk_map _, rfl, rfl⟩

theorem noRows {ν : Nat → Int} : ∀ r ∈ ([] : List Row), r.Ok ν Try.prog := fun r hr => by cases hr

/-- One word's rounds. -/
theorem word_round (w0 : World) (a e i x : Nat) (ha : a < B4) (hx : x < prime) (hi : i < 4) :
    Tri Try.prog 39 oBody (Holds 39 w0 (nuO a e x) (outN i)) (fun ex act w => ex = .normal ∧ Holds 39 w0 (nuO a e (powX a (wordOf e i) x 0)) (outN (i + 1)) act w) := by
  have hg := List.all_eq_true.1 out_goes i (List.mem_range.2 hi)
  simp only [outGo, Bool.and_eq_true] at hg
  obtain ⟨g1, g2, g3, g4, g5⟩ := hg
  have hW : wordOf e i < 2 ^ 64 := Nat.mod_lt _ (by decide)
  have hx64 : powX a (wordOf e i) x 64 = x := by
    unfold powX
    rw [Nat.div_eq_of_lt hW, Nat.sub_self, Nat.pow_zero, Nat.pow_one, Nat.pow_zero, Nat.mul_one, Nat.mod_eq_of_lt hx]
  rw [o_shape, o3_shape]
  have hin := in_loop w0 a e (wordOf e i) i x ha
  rw [hx64] at hin
  refine Tri.seq (Tri.run (noFacts_hold _) mixed tab_ok noRows g1) ?_ (fun ex a w hne h => (hne h.1).elim)
  refine Tri.weak (Pre := Holds 39 w0 (nuO a e x) (out1 i true)) ?_ (fun _ _ h => h.2) (fun _ _ _ h => h)
  refine Tri.seq (Tri.run (noFacts_hold _) mixed tab_ok noRows g2) ?_ (fun ex a w hne h => (hne h.1).elim)
  refine Tri.weak (Pre := Holds 39 w0 (nuO a e x) (outN i)) ?_ (fun _ _ h => h.2) (fun _ _ _ h => h)
  refine Tri.seq (Mid := fun ex act w => ex = .normal ∧ Holds 39 w0 (nuO a e (powX a (wordOf e i) x 0)) (outN i) act w) ?_ ?_ (fun ex a w hne h => (hne h.1).elim)
  · refine Tri.block (Mid := fun ex act w => ex = .normal ∧ Holds 39 w0 (nuO a e (powX a (wordOf e i) x 0)) (outN i) act w) ?_ (fun a w h => h) (fun a w h => by cases h.1) (fun i a w _ h => by cases h.1) (fun a w h => by cases h.1)
    refine Tri.seq (Tri.run (noFacts_hold _) mixed tab_ok noRows g3) ?_ (fun ex a w hne h => (hne h.1).elim)
    refine Tri.weak (Pre := Holds 39 w0 (nuO a e x) (outW i (7 - i))) ?_ (fun _ _ h => h.2) (fun _ _ _ h => h)
    refine Tri.seq (Tri.run (noFacts_hold _) mixed tab_ok noRows g4) ?_ (fun ex a w hne h => (hne h.1).elim)
    refine Tri.weak (Pre := Holds 39 w0 (nuI a e (wordOf e i) i x) (inN 63 (cellsOf 8))) ?_ (fun act w h => nuO_named (word_at a e x i hi) h.2) (fun _ _ _ h => h)
    refine Tri.block hin (fun a w h => by cases h.1) (fun act w h => ⟨rfl, nuI_named h.2⟩) (fun j a w hj h => ?_) (fun a w h => by cases h.1)
    have := h.1
    simp only [Ex.exit.injEq] at this
    exact (hj this).elim
  · refine Tri.weak (Pre := Holds 39 w0 (nuO a e (powX a (wordOf e i) x 0)) (outN i)) (Tri.run (noFacts_hold _) mixed tab_ok noRows g5) (fun _ _ h => h.2) (fun _ _ _ h => h)

theorem words (w0 : World) (a e : Nat) (ha : a < B4) : Tri Try.prog 39 (.loop oBody) (Holds 39 w0 (nuO a e (powY a e 0)) (outN 0)) (fun ex act w => ex = .exit 0 ∧ Holds 39 w0 (nuO a e (powY a e 4)) (outN 4) act w) := by
  have key := Tri.loop (P := Try.prog) (N := 39) (x := oBody) (J := fun k act w => k ≤ 4 ∧ Holds 39 w0 (nuO a e (powY a e (4 - k))) (outN (4 - k)) act w) (Post := fun ex act w => ex = .exit 0 ∧ Holds 39 w0 (nuO a e (powY a e 4)) (outN 4) act w) 4 ?_ ?_
  · exact key.weak (fun act w h => ⟨Nat.le_refl _, h⟩) (fun _ _ _ h => h)
  · intro k c hc act w ⟨hk, hp⟩
    refine ((word_round w0 a e (4 - (k + 1)) (powY a e (4 - (k + 1))) ha (Nat.mod_lt _ prime_pos) (by omega)).weak (fun _ _ h => h) (fun ex act w h => ?_)) c hc act w hp
    refine .inl ⟨h.1, by omega, ?_⟩
    have h2 := h.2
    rw [← powY_step a e _ (by omega)] at h2
    rw [show 4 - (k + 1) + 1 = 4 - k by omega] at h2
    exact h2
  · refine (Tri.run (noFacts_hold _) mixed tab_ok noRows out_ends).weak (fun act w h => h.2) (fun ex act w h => ?_)
    exact ⟨by rw [h.1]; simp, h.1, h.2⟩

/-! Ahead of the rounds, and behind them. -/

def now0 : Now := ⟨[(0, ns 0), (1, ns 4)], [], gmax⟩
def nowA : Now := ⟨[(2, .p 64 0), (3, .p 65 0), (4, .p 66 0)], [(64, blkN (cellsOf 0)), (65, blkN (cellsOf 4)), (66, blkN zeroC)], 67⟩
def nowB : Now := ⟨[(2, .p 64 0), (3, .p 65 0), (4, .p 66 0), (5, .p 67 0)], [(64, blkN (cellsOf 0)), (65, blkN (cellsOf 4)), (66, blkN zeroC), (67, blkN [cK 1, c0, c0, c0])], 68⟩
def nowC : Now := ⟨(19, .i .i64 (.c (.ofNat 0))) :: baseE, baseH [cK 1, c0, c0, c0], 68⟩
def nowE : Now := ⟨[(4, .p 66 0)], [(66, blkN (cellsOf 8))], 68⟩
theorem goA : goes noFacts tree [] 60 2 pA now0 .normal nowA = true := by kernel_rfl
theorem goB : goes noFacts tree [] 60 2 pB nowA .normal nowB = true := by kernel_rfl
theorem goC : goes noFacts tree [] 60 2 pC nowB .normal nowC = true := by kernel_rfl
theorem goE : goes noFacts tree [] 60 2 pE (outN 4) .ret nowE = true := by kernel_rfl

theorem one_named {w0 : World} {a e : Nat} {act : Act} {w : World} (h : Holds 39 w0 (nu (numL a ++ numL e)) nowC act w) : Holds 39 w0 (nuO a e 1) (outN 0) act w := by
  refine h.renum (fun p hp => ?_) fun p hp => ?_
  · simp only [baseE, List.mem_cons, List.not_mem_nil, or_false] at hp
    rcases hp with rfl | rfl | rfl | rfl | rfl
    · exact ⟨.i .i64 (.c (.ofNat 0)), by simp, Alike.conc (u := .int .i64 0) rfl rfl⟩
    · exact ⟨_, by simp [baseE], Alike.p _ _⟩
    · exact ⟨_, by simp [baseE], Alike.p _ _⟩
    · exact ⟨_, by simp [baseE], Alike.p _ _⟩
    · exact ⟨eArr, by simp [baseE], Alike.conc (u := n4 (w3 e) (w2 e) (w1 e) (Sh.w0 e)) rfl rfl⟩
  · simp only [baseH, List.mem_cons, List.not_mem_nil, or_false] at hp
    rcases hp with rfl | rfl | rfl
    · exact ⟨by decide, blkN (cellsOf 0), [u64 (Sh.w0 a), u64 (w1 a), u64 (w2 a), u64 (w3 a)], base64 _, rfl, rfl, blk_map _, rfl, rfl⟩
    · exact ⟨by decide, blkN zeroC, [u64 0, u64 0, u64 0, u64 0], base66 _, rfl, rfl, blk_map _, rfl, rfl⟩
    · exact ⟨by decide, blkN [cK 1, c0, c0, c0], [u64 1, u64 0, u64 0, u64 0], base67 _, rfl, rfl, blk_map _, rfl, rfl⟩

/-- WHAT pow ANSWERS. -/
theorem pow_ok (a e : Nat) (ha : a < B4) (he : e < B4) : Pure Try.prog 38 [num a, num e] (num (a ^ e % prime)) := by
  have y0 : powY a e 0 = 1 := by
    unfold powY
    rw [Nat.div_eq_of_lt (show e < 2 ^ (64 * (4 - 0)) by unfold B4 at he; simpa using he), Nat.pow_zero]
    decide
  have y4 : powY a e 4 = a ^ e % prime := by unfold powY; simp
  refine pure_tri (ν := nu (numL a ++ numL e)) (ν' := nuO a e (powY a e 4)) (args := [ns 0, ns 4]) (r := ns 8) (o := nowE) tree tab_ok (by kernel_rfl) pow_shape rfl (by decide) now0.e (fun p hp => ?_) (fun w0 => ?_) (by kernel_rfl) (by rw [y4]; rfl)
  · simp only [now0, List.mem_cons, List.not_mem_nil, or_false] at hp
    rcases hp with rfl | rfl <;> rfl
  · refine Tri.seq (Tri.run (i := now0) (noFacts_hold _) mixed tab_ok noRows goA) ?_ (fun ex a w hne h => (hne h.1).elim)
    refine Tri.weak (Pre := Holds 39 w0 (nu (numL a ++ numL e)) nowA) ?_ (fun _ _ h => h.2) (fun _ _ _ h => h)
    refine Tri.seq (Tri.run (noFacts_hold _) mixed tab_ok noRows goB) ?_ (fun ex a w hne h => (hne h.1).elim)
    refine Tri.weak (Pre := Holds 39 w0 (nu (numL a ++ numL e)) nowB) ?_ (fun _ _ h => h.2) (fun _ _ _ h => h)
    refine Tri.seq (Mid := fun ex act w => ex = .normal ∧ Holds 39 w0 (nuO a e (powY a e 4)) (outN 4) act w) ?_ ?_ (fun ex a w hne h => (hne h.1).elim)
    · refine Tri.seq (Tri.run (noFacts_hold _) mixed tab_ok noRows goC) ?_ (fun ex a w hne h => (hne h.1).elim)
      refine Tri.weak (Pre := Holds 39 w0 (nuO a e (powY a e 0)) (outN 0)) ?_ (fun _ _ h => by rw [y0]; exact one_named h.2) (fun _ _ _ h => h)
      refine Tri.block (words w0 a e ha) (fun a w h => by cases h.1) (fun act w h => ⟨rfl, h.2⟩) (fun j a w hj h => ?_) (fun a w h => by cases h.1)
      have := h.1
      simp only [Ex.exit.injEq] at this
      exact (hj this).elim
    · exact (Tri.run (noFacts_hold _) mixed tab_ok noRows goE).weak (fun _ _ h => h.2) (fun ex act w h => ⟨.inr h.1, h.2⟩)

end Go.Proofs.Ytlalonomdblhdaa
