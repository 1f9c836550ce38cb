/-
  THE PAGE's POWERS: what trystref06's Pow answers. Own work.
-/
import Derived.Test.YtdillfhieilgnaaFl
namespace Go.Proofs.Ytdillfhieilgnaa
open Go.Sh
set_option maxRecDepth 100000

theorem rowMulP {ν : Nat → Int} {p q r : AV} {x y : Nat} (hx : x < B4) (hy : y < B4) (h1 : conc2 ν p = some (num x)) (h2 : conc2 ν q = some (num y)) (h3 : conc ν r = some (num (x * y % prime))) : Row.Ok ν Try.prog ⟨21, [p, q], r⟩ := ⟨[num x, num y], _, by simp [concT, h1, h2], h3, rMul_ok x y hx hy⟩

/-! its pieces -/

def rpw : IC := t26.body
def rpA : IC := rpw.sub [false]
def rpB : IC := rpw.sub [true, false]
def rpC : IC := rpw.sub [true, true, false, false]
def rBody : IC := rpw.sub [true, true, false, true, false, false]
def rpE : IC := rpw.sub [true, true, true]
theorem rpow_shape : t26 = ⟨.seq rpA (.seq rpB (.seq (.seq rpC (.block 0 (.loop rBody))) rpE)), [.c 4 (some 4)], 29⟩ := by kernel_rfl

def rblk (cs : List AV) : ABlk := ⟨cs, 25, true⟩
def rbaseE : List (Nat × AV) := [(2, .p 64 0), (3, .p 65 0), (4, .p 66 0), (5, .p 67 0)]
def rbaseH (cs : List AV) : List (Nat × ABlk) := [(64, rblk (cellsOf 0)), (65, rblk (cellsOf 4)), (66, rblk zeroC), (67, rblk cs)]
def rN (k : Int) (cs : List AV) : Now := ⟨(6, .i .i64 (.c k)) :: rbaseE, rbaseH cs, 68⟩
def rbitF (k : Nat) (b : Bool) : Facts := ⟨[], [(.eql, .e .and .u64 (.e .shr .u64 (.s (4 + k / 64)) (.c (.ofNat (k % 64)))) (.c (.ofNat 1)), .c (.ofNat 1), b)]⟩
def rT : List Row := [⟨21, [ns 8, ns 8], ns 12⟩, ⟨21, [ns 12, ns 0], ns 16⟩]
noncomputable def rGo (k : Nat) : Bool := goes (rbitF k true) tree rT 60 2 rBody (rN (.ofNat k) (cellsOf 8)) .normal (rN ((k : Int) - 1) (cellsOf 16)) && goes (rbitF k false) tree rT 60 2 rBody (rN (.ofNat k) (cellsOf 8)) .normal (rN ((k : Int) - 1) (cellsOf 12))
theorem r_goes0 : (List.range 64).all (fun k => rGo k) = true := by kernel_rfl
theorem r_goes1 : (List.range 64).all (fun k => rGo (64 + k)) = true := by kernel_rfl
theorem r_goes2 : (List.range 64).all (fun k => rGo (128 + k)) = true := by kernel_rfl
theorem r_goes3 : (List.range 64).all (fun k => rGo (192 + k)) = true := by kernel_rfl
theorem r_goes (k : Nat) (h : k < 256) : rGo k = true := by
  by_cases h0 : k < 64
  · exact List.all_eq_true.1 r_goes0 k (List.mem_range.2 h0)
  · by_cases h1 : k < 128
    · have := List.all_eq_true.1 r_goes1 (k - 64) (List.mem_range.2 (by omega))
      rwa [show 64 + (k - 64) = k by omega] at this
    · by_cases h2 : k < 192
      · have := List.all_eq_true.1 r_goes2 (k - 128) (List.mem_range.2 (by omega))
        rwa [show 128 + (k - 128) = k by omega] at this
      · have := List.all_eq_true.1 r_goes3 (k - 192) (List.mem_range.2 (by omega))
        rwa [show 192 + (k - 192) = k by omega] at this
theorem r_ends : goes noFacts tree [] 60 2 rBody (rN (-1) (cellsOf 8)) (.exit 0) (rN (-1) (cellsOf 8)) = true := by kernel_rfl

/-! the rounds -/

def nuR (a e x : Nat) : Nat → Int := nu (numL a ++ numL e ++ numL x ++ numL (x * x % prime) ++ numL (x * x % prime * a % prime))
def powZ (a e : Nat) (k : Nat) : Nat := a ^ (e / 2 ^ k) % prime

theorem powZ_step (a e k : Nat) : powZ a e k = if e / 2 ^ k % 2 = 1 then powZ a e (k + 1) * powZ a e (k + 1) % prime * a % prime else powZ a e (k + 1) * powZ a e (k + 1) % prime := by
  have e2 : e / 2 ^ k = e / 2 ^ (k + 1) + e / 2 ^ (k + 1) + e / 2 ^ k % 2 := by
    rw [Nat.pow_succ, ← Nat.div_div_eq_div_mul]; omega
  have e3 : ∀ b, e / 2 ^ k % 2 = b → powZ a e k = a ^ (e / 2 ^ (k + 1)) * a ^ (e / 2 ^ (k + 1)) * a ^ b % prime := by
    intro b hb
    unfold powZ
    rw [hb] at e2
    rw [e2, Nat.pow_add, Nat.pow_add]
  split
  · rename_i hb
    rw [e3 1 hb, Nat.pow_one]
    unfold powZ
    rw [← Nat.mul_mod, Nat.mod_mul_mod]
  · rename_i hb
    rw [e3 0 (by omega), Nat.pow_zero, Nat.mul_one]
    unfold powZ
    rw [← Nat.mul_mod]

theorem rT_ok (a e x : Nat) (ha : a < B4) (hx : x < B4) : ∀ r ∈ rT, r.Ok (nuR a e x) Try.prog := by
  intro r hr
  simp only [rT, List.mem_cons, List.not_mem_nil, or_false] at hr
  rcases hr with rfl | rfl
  · exact rowMulP hx hx rfl rfl rfl
  · exact rowMulP (prime_lt _) ha rfl rfl rfl

theorem bit_at (e j r : Nat) (hr : r < 64) : e / 2 ^ (64 * j) % 2 ^ 64 / 2 ^ r % 2 = e / 2 ^ (64 * j + r) % 2 := by
  have h1 : (e / 2 ^ (64 * j) % 2 ^ 64).testBit r = e.testBit (64 * j + r) := by
    rw [Nat.testBit_mod_two_pow, decide_eq_true hr, Bool.true_and, Nat.testBit_div_two_pow, Nat.add_comm]
  rw [Nat.testBit_eq_decide_div_mod_eq, Nat.testBit_eq_decide_div_mod_eq] at h1
  have h2 := decide_eq_decide.1 h1
  omega

theorem rword_at (a e x j : Nat) (hj : j < 4) : nuR a e x (4 + j) = ((e / 2 ^ (64 * j) % 2 ^ 64 : Nat) : Int) := by
  match j, hj with
  | 0, _ => show ((e % 18446744073709551616 : Nat) : Int) = _; simp
  | 1, _ => rfl
  | 2, _ => rfl
  | 3, _ => rfl

theorem rbit_hold (a e x k : Nat) (hk : k < 256) (b : Bool) (hb : decide (e / 2 ^ k % 2 = 1) = b) : (rbitF k b).Hold (nuR a e x) := by
  refine ⟨fun p hp => (by cases hp), fun p hp => ?_⟩
  simp only [rbitF, List.mem_cons, List.not_mem_nil, or_false] at hp
  subst hp
  show (arith .and .u64 (arith .shr .u64 (nuR a e x (4 + k / 64)) ((k % 64 : Nat) : Int)) ((1 : Nat) : Int) == ((1 : Nat) : Int)) = b
  have hm : k % 64 < 64 := Nat.mod_lt _ (by decide)
  have e1 := bit_at e (k / 64) (k % 64) hm
  rw [show 64 * (k / 64) + k % 64 = k by omega] at e1
  rw [rword_at a e x (k / 64) (by omega), a_shr .u64 _ (k % 64) (Nat.le_of_lt hm), a_mask _ 1 1 rfl (by decide), ← hb, Nat.pow_one, e1]
  by_cases h : e / 2 ^ k % 2 = 1
  · simp only [h, decide_true]; rfl
  · have : e / 2 ^ k % 2 = 0 := by omega
    simp only [this]; decide

theorem rbase64 (cs : List AV) : (heapL (rbaseH cs) 68).get 64 = some (rblk (cellsOf 0)) := by kernel_rfl
theorem rbase65 (cs : List AV) : (heapL (rbaseH cs) 68).get 65 = some (rblk (cellsOf 4)) := by kernel_rfl
theorem rbase66 (cs : List AV) : (heapL (rbaseH cs) 68).get 66 = some (rblk zeroC) := by kernel_rfl
theorem rbase67 (cs : List AV) : (heapL (rbaseH cs) 68).get 67 = some (rblk cs) := by kernel_rfl
theorem rblk_map (cs : List AV) : (rblk cs).elem ≠ mapTag := by show 25 ≠ mapTag; decide

theorem r_named {w0 : World} {ν : Nat → Int} {a e x' : Nat} {k : Int} {cs : List AV} {act : Act} {w : World} (h : Holds 29 w0 ν (rN k cs) act w) (ca : concL ν (cellsOf 0) = some [u64 (Sh.w0 a), u64 (w1 a), u64 (w2 a), u64 (w3 a)]) (ce : concL ν (cellsOf 4) = some [u64 (Sh.w0 e), u64 (w1 e), u64 (w2 e), u64 (w3 e)])
    (hc : concL ν cs = some [u64 (Sh.w0 x'), u64 (w1 x'), u64 (w2 x'), u64 (w3 x')]) : Holds 29 w0 (nuR a e x') (rN k (cellsOf 8)) act w := by
  refine h.renum (fun p hp => ⟨p.2, hp, ?_⟩) fun p hp => ?_
  · simp only [rbaseE, List.mem_cons, List.not_mem_nil, or_false] at hp
    rcases hp with rfl | rfl | rfl | rfl | rfl
    · exact Alike.conc (u := .int .i64 k) rfl rfl
    · exact Alike.p _ _
    · exact Alike.p _ _
    · exact Alike.p _ _
    · exact Alike.p _ _
  · simp only [rbaseH, List.mem_cons, List.not_mem_nil, or_false] at hp
    rcases hp with rfl | rfl | rfl | rfl
    · exact ⟨by decide, rblk (cellsOf 0), [u64 (Sh.w0 a), u64 (w1 a), u64 (w2 a), u64 (w3 a)], rbase64 _, rfl, rfl, rblk_map _, ca, rfl⟩
    · exact ⟨by decide, rblk (cellsOf 4), [u64 (Sh.w0 e), u64 (w1 e), u64 (w2 e), u64 (w3 e)], rbase65 _, rfl, rfl, rblk_map _, ce, rfl⟩
    · exact ⟨by decide, rblk zeroC, [u64 0, u64 0, u64 0, u64 0], rbase66 _, rfl, rfl, rblk_map _, rfl, rfl⟩
    · exact ⟨by decide, rblk cs, [u64 (Sh.w0 x'), u64 (w1 x'), u64 (w2 x'), u64 (w3 x')], rbase67 _, rfl, rfl, rblk_map _, hc, rfl⟩

theorem r_loop (w0 : World) (a e : Nat) (ha : a < B4) : Tri Try.prog 29 (.loop rBody) (fun act w => Holds 29 w0 (nuR a e (powZ a e 256)) (rN 255 (cellsOf 8)) act w) (fun ex act w => ex = .exit 0 ∧ Holds 29 w0 (nuR a e (powZ a e 0)) (rN (-1) (cellsOf 8)) act w) := by
  have key := Tri.loop (P := Try.prog) (N := 29) (x := rBody) (J := fun k act w => k ≤ 256 ∧ Holds 29 w0 (nuR a e (powZ a e k)) (rN ((k : Int) - 1) (cellsOf 8)) act w) (Post := fun ex act w => ex = .exit 0 ∧ Holds 29 w0 (nuR a e (powZ a e 0)) (rN (-1) (cellsOf 8)) act w) 256 ?_ ?_
  · exact key.weak (fun act w h => ⟨Nat.le_refl _, h⟩) (fun _ _ _ h => h)
  · intro k c hc act w ⟨hk, hp⟩
    have hp' : Holds 29 w0 (nuR a e (powZ a e (k + 1))) (rN (.ofNat k) (cellsOf 8)) act w := by
      have : (((k + 1 : Nat) : Int) - 1) = .ofNat k := by rw [Int.ofNat_eq_natCast]; omega
      rw [this] at hp
      exact hp
    have hg := r_goes k (by omega)
    simp only [rGo, Bool.and_eq_true] at hg
    have hst := powZ_step a e k
    by_cases hb : e / 2 ^ k % 2 = 1
    · rw [if_pos hb] at hst
      refine ((Tri.run (rbit_hold a e _ k (by omega) true (by simp [hb])) mixed tab_ok (rT_ok a e _ ha (prime_lt _)) hg.1).weak (fun _ _ h => h) (fun ex act w h => ?_)) c hc act w hp'
      refine .inl ⟨h.1, by omega, ?_⟩
      rw [hst]
      exact r_named h.2 rfl rfl rfl
    · rw [if_neg hb] at hst
      refine ((Tri.run (rbit_hold a e _ k (by omega) false (by simp [hb])) mixed tab_ok (rT_ok a e _ ha (prime_lt _)) hg.2).weak (fun _ _ h => h) (fun ex act w h => ?_)) c hc act w hp'
      refine .inl ⟨h.1, by omega, ?_⟩
      rw [hst]
      exact r_named h.2 rfl rfl rfl
  · refine (Tri.run (noFacts_hold _) mixed tab_ok (fun r hr => by cases hr) r_ends).weak (fun act w h => h.2) (fun ex act w h => ?_)
    exact ⟨by rw [h.1]; simp, h.1, h.2⟩

def rnowA : Now := ⟨[(2, .p 64 0), (3, .p 65 0), (4, .p 66 0)], [(64, rblk (cellsOf 0)), (65, rblk (cellsOf 4)), (66, rblk zeroC)], 67⟩
def rnowB : Now := ⟨rbaseE, rbaseH [cK 1, c0, c0, c0], 68⟩
def rnowE : Now := ⟨[(4, .p 66 0)], [(66, rblk (cellsOf 8))], 68⟩
theorem rgoA : goes noFacts tree [] 60 2 rpA now0 .normal rnowA = true := by kernel_rfl
theorem rgoB : goes noFacts tree [] 60 2 rpB rnowA .normal rnowB = true := by kernel_rfl
theorem rgoC : goes noFacts tree [] 60 2 rpC rnowB .normal (rN 255 [cK 1, c0, c0, c0]) = true := by kernel_rfl
theorem rgoE : goes noFacts tree [] 60 2 rpE (rN (-1) (cellsOf 8)) .ret rnowE = true := by kernel_rfl

/-- WHAT Pow ANSWERS. -/
theorem rPow_ok (a e : Nat) (ha : a < B4) (he : e < B4) : Pure Try.prog 26 [num a, num e] (num (a ^ e % prime)) := by
  have y0 : powZ a e 256 = 1 := by
    unfold powZ
    rw [Nat.div_eq_of_lt (show e < 2 ^ 256 by unfold B4 at he; simpa using he), Nat.pow_zero]
    decide
  have y4 : powZ a e 0 = a ^ e % prime := by unfold powZ; simp
  refine pure_tri (ν := nu (numL a ++ numL e)) (ν' := nuR a e (powZ a e 0)) (args := [ns 0, ns 4]) (r := ns 8) (o := rnowE) tree tab_ok (by kernel_rfl) rpow_shape rfl (by decide) now0.e (fun p hp => ?_) (fun w0 => ?_) (by kernel_rfl) (by rw [y4]; rfl)
  · simp only [now0, List.mem_cons, List.not_mem_nil, or_false] at hp
    rcases hp with rfl | rfl <;> rfl
  · refine Tri.seq (Tri.run (i := now0) (noFacts_hold _) mixed tab_ok noRows rgoA) ?_ (fun ex a w hne h => (hne h.1).elim)
    refine Tri.weak (Pre := Holds 29 w0 (nu (numL a ++ numL e)) rnowA) ?_ (fun _ _ h => h.2) (fun _ _ _ h => h)
    refine Tri.seq (Tri.run (noFacts_hold _) mixed tab_ok noRows rgoB) ?_ (fun ex a w hne h => (hne h.1).elim)
    refine Tri.weak (Pre := Holds 29 w0 (nu (numL a ++ numL e)) rnowB) ?_ (fun _ _ h => h.2) (fun _ _ _ h => h)
    refine Tri.seq (Mid := fun ex act w => ex = .normal ∧ Holds 29 w0 (nuR a e (powZ a e 0)) (rN (-1) (cellsOf 8)) act w) ?_ ?_ (fun ex a w hne h => (hne h.1).elim)
    · refine Tri.seq (Tri.run (noFacts_hold _) mixed tab_ok noRows rgoC) ?_ (fun ex a w hne h => (hne h.1).elim)
      refine Tri.weak (Pre := Holds 29 w0 (nuR a e (powZ a e 256)) (rN 255 (cellsOf 8))) ?_ (fun _ _ h => by rw [y0]; exact r_named h.2 rfl rfl rfl) (fun _ _ _ h => h)
      refine Tri.block (r_loop w0 a e ha) (fun a w h => by cases h.1) (fun act w h => ⟨rfl, h.2⟩) (fun j a w hj h => ?_) (fun a w h => by cases h.1)
      have := h.1
      simp only [Ex.exit.injEq] at this
      exact (hj this).elim
    · exact (Tri.run (noFacts_hold _) mixed tab_ok noRows rgoE).weak (fun _ _ h => h.2) (fun ex act w h => ⟨.inr h.1, h.2⟩)

end Go.Proofs.Ytdillfhieilgnaa
