/-
 NUMBERS MODULO L: what curve's reduce answers (512 rounds). Own work.
-/
import Derived.Test.YtheidgcgdkmmiaaDoorLb
namespace Go.Proofs.YtheidgcgdkmmiaaDoor
open Go.Sh
set_option maxRecDepth 100000
def rcw : IC := t43.body
def rcA : IC := rcw.sub [false]
def rcB : IC := rcw.sub [true, false]
def rcC : IC := rcw.sub [true, true, false, false]
def rcBody : IC := rcw.sub [true, true, false, true, false, false]
def rcE : IC := rcw.sub [true, true, true]
theorem rc_shape : t43 = ⟨.seq rcA (.seq rcB (.seq (.seq rcC (.block 0 (.loop rcBody))) rcE)), [.c 2 (some 4)], 46⟩ := by kernel_rfl
def sblk (cs : List AV) : ABlk := ⟨cs, 66, true⟩
def wblk : ABlk := ⟨w8C, 73, true⟩
def rcH (cs : List AV) : List (Nat × ABlk) := [(64, wblk), (65, sblk zeroC), (66, sblk cs)]
def rcM (n : Nat) (k : Int) (cs : List AV) : Now := ⟨(4, .i .i64 (.c k)) :: mdbE, rcH cs, n⟩
abbrev rcN (k : Int) (cs : List AV) : Now := rcM 67 k cs
def cE0 (k : Nat) : AI := .e .or .u64 (.e .shl .u64 (.s 8) (.c (.ofNat 1))) (.e .and .u64 (.e .shr .u64 (.s (k / 64)) (.c (.ofNat (k % 64)))) (.c (.ofNat 1)))
def cEj (a b : Nat) : AI := .e .or .u64 (.e .shl .u64 (.s a) (.c (.ofNat 1))) (.e .shr .u64 (.s b) (.c (.ofNat 63)))
def uC (k : Nat) : List AV := [.i .u64 (cE0 k), .i .u64 (cEj 9 8), .i .u64 (cEj 10 9), .i .u64 (cEj 11 10)]
def rcT (k : Nat) (t : Bool) : List Row := [⟨40, [.ag (uC k)], .tp [ns 16, .b t]⟩]
noncomputable def rcGo (k : Nat) : Bool := goesG qae tree [] glO (rcT k true) 80 3 rcBody (rcN (.ofNat k) (cellsOf 8)) .normal (rcM 68 ((k : Int) - 1) (uC k)) && goesG qae tree [] glO (rcT k false) 80 3 rcBody (rcN (.ofNat k) (cellsOf 8)) .normal (rcM 68 ((k : Int) - 1) (cellsOf 16))
theorem rc_goes0 : (List.range 64).all (fun k => rcGo (k)) = true := by kernel_rfl
theorem rc_goes1 : (List.range 64).all (fun k => rcGo (64 + k)) = true := by kernel_rfl
theorem rc_goes2 : (List.range 64).all (fun k => rcGo (128 + k)) = true := by kernel_rfl
theorem rc_goes3 : (List.range 64).all (fun k => rcGo (192 + k)) = true := by kernel_rfl
theorem rc_goes4 : (List.range 64).all (fun k => rcGo (256 + k)) = true := by kernel_rfl
theorem rc_goes5 : (List.range 64).all (fun k => rcGo (320 + k)) = true := by kernel_rfl
theorem rc_goes6 : (List.range 64).all (fun k => rcGo (384 + k)) = true := by kernel_rfl
theorem rc_goes7 : (List.range 64).all (fun k => rcGo (448 + k)) = true := by kernel_rfl
theorem rc_goes (k : Nat) (h : k < 512) : rcGo k = true := by
 have key : ∀ m, (List.range 64).all (fun k => rcGo (64 * m + k)) = true → k / 64 = m → rcGo k = true := fun m hm hk => by
  have := List.all_eq_true.1 hm (k % 64) (List.mem_range.2 (Nat.mod_lt _ (by decide)))
  rwa [show 64 * m + k % 64 = k by omega] at this
 have hk : k / 64 < 8 := by omega
 rcases (by omega : k / 64 = 0 ∨ k / 64 = 1 ∨ k / 64 = 2 ∨ k / 64 = 3 ∨ k / 64 = 4 ∨ k / 64 = 5 ∨ k / 64 = 6 ∨ k / 64 = 7) with e | e | e | e | e | e | e | e
 ·refine key 0 ?_ e
  simp only [Nat.mul_zero, Nat.zero_add]
  exact rc_goes0
 ·exact key 1 rc_goes1 e
 ·exact key 2 rc_goes2 e
 ·exact key 3 rc_goes3 e
 ·exact key 4 rc_goes4 e
 ·exact key 5 rc_goes5 e
 ·exact key 6 rc_goes6 e
 ·exact key 7 rc_goes7 e
theorem rc_ends : goesG qae tree [] glO [] 60 2 rcBody (rcN (-1) (cellsOf 8)) (.exit 0) (rcN (-1) (cellsOf 8)) = true := by kernel_rfl
/-! the words of a round -/
theorem sh1 (x : Nat) : qaj .shl .u64 (x : Int) ((1 : Nat) : Int) = ((2 * x % 18446744073709551616 : Nat) : Int) := by
 rw [a_shl x 1 (by decide), Nat.pow_one, Nat.mul_comm]
theorem orB (x b : Nat) (hb : b < 2) : qaj .or .u64 ((2 * x % 18446744073709551616 : Nat) : Int) (b : Int) = ((2 * x % 18446744073709551616 + b : Nat) : Int) := by
 rw [a_or]
 have h1 : 2 * x % 18446744073709551616 % 18446744073709551616 = 2 ^ 1 * (x % 9223372036854775808) := by omega
 have h2 : b % 18446744073709551616 = b := by omega
 rw [h1, h2, ← Nat.two_pow_add_eq_or_of_lt (i := 1) (b := b) hb]
 congr 1
 omega
theorem cE0_val (w r s k : Nat) (hk : k < 512) : (cE0 k).val (nuD w r s) = ((2 * Sh.w0 r % 18446744073709551616 + w / 2 ^ k % 2 : Nat) : Int) := by
 have hm : k % 64 < 64 := Nat.mod_lt _ (by decide)
 have e1 := bit_at w (k / 64) (k % 64) hm
 rw [show 64 * (k / 64) + k % 64 = k by omega] at e1
 show qaj .or .u64 (qaj .shl .u64 (nuD w r s 8) ((1 : Nat) : Int)) (qaj .and .u64 (qaj .shr .u64 (nuD w r s (k / 64)) ((k % 64 : Nat) : Int)) ((1 : Nat) : Int)) = _
 have e0 : nuD w r s 8 = ((Sh.w0 r : Nat) : Int) := rfl
 rw [w8_at w r s (k / 64) (by omega), a_shr .u64 _ (k % 64) (Nat.le_of_lt hm), a_mask _ 1 1 rfl (by decide), Nat.pow_one, e1, e0, sh1, orB _ _ (Nat.mod_lt _ (by decide))]
theorem cEj_val {ν : Nat → Int} {a b x y : Nat} (ha : ν a = (x : Int)) (hb : ν b = (y : Int)) (hy : y < 18446744073709551616) : (cEj a b).val ν = ((2 * x % 18446744073709551616 + y / 9223372036854775808 : Nat) : Int) := by
 show qaj .or .u64 (qaj .shl .u64 (ν a) ((1 : Nat) : Int)) (qaj .shr .u64 (ν b) ((63 : Nat) : Int)) = _
 have e : (2 ^ 63 : Nat) = 9223372036854775808 := by decide
 rw [ha, hb, sh1, a_shr .u64 _ 63 (by decide), e, orB _ _ (by omega)]
theorem u0 (r b : Nat) (hb : b < 2) : 2 * Sh.w0 r % 18446744073709551616 + b = Sh.w0 (2 * r + b) := by unfold Sh.w0; omega
theorem u1 (r b : Nat) (hb : b < 2) : 2 * w1 r % 18446744073709551616 + Sh.w0 r / 9223372036854775808 = w1 (2 * r + b) := by unfold Sh.w0 w1; omega
theorem u2 (r b : Nat) (hb : b < 2) : 2 * w2 r % 18446744073709551616 + w1 r / 9223372036854775808 = w2 (2 * r + b) := by unfold w1 w2; omega
theorem u3 (r b : Nat) (hb : b < 2) : 2 * w3 r % 18446744073709551616 + w2 r / 9223372036854775808 = w3 (2 * r + b) := by unfold w2 w3; omega
theorem uC_conc (w r s k : Nat) (hk : k < 512) : qap (nuD w r s) (uC k) = some ((numL (2 * r + w / 2 ^ k % 2)).map u64) := by
 obtain ⟨l0, l1, l2, l3⟩ := w_lt r
 have h0 := cE0_val w r s k hk
 have h1 := cEj_val (ν := nuD w r s) (a := 9) (b := 8) (x := w1 r) (y := Sh.w0 r) rfl rfl l0
 have h2 := cEj_val (ν := nuD w r s) (a := 10) (b := 9) (x := w2 r) (y := w1 r) rfl rfl l1
 have h3 := cEj_val (ν := nuD w r s) (a := 11) (b := 10) (x := w3 r) (y := w2 r) rfl rfl l2
 have hb : w / 2 ^ k % 2 < 2 := Nat.mod_lt _ (by decide)
 generalize w / 2 ^ k % 2 = b at *
 rw [u0 r b hb] at h0
 rw [u1 r b hb] at h1
 rw [u2 r b hb] at h2
 rw [u3 r b hb] at h3
 show some [Value.int .u64 ((cE0 k).val (nuD w r s)), .int .u64 ((cEj 9 8).val (nuD w r s)), .int .u64 ((cEj 10 9).val (nuD w r s)), .int .u64 ((cEj 11 10).val (nuD w r s))] = some [u64 (Sh.w0 (2 * r + b)), u64 (w1 (2 * r + b)), u64 (w2 (2 * r + b)), u64 (w3 (2 * r + b))]
 rw [h0, h1, h2, h3]
 rfl
theorem uC_conc2 (w r s k : Nat) (hk : k < 512) : qag (nuD w r s) (.ag (uC k)) = some (num (2 * r + w / 2 ^ k % 2)) := by
 show (qap (nuD w r s) (uC k)).map (fun vs => Value.agg vs.toArray) = _
 rw [uC_conc w r s k hk]
 rfl
/-! the rounds -/
theorem rcget (n : Nat) (hn : n = 67 ∨ n = 68) (cs : List AV) : (qam (rcH cs) n).get 64 = some wblk ∧ (qam (rcH cs) n).get 65 = some (sblk zeroC) ∧ (qam (rcH cs) n).get 66 = some (sblk cs) := by
 rcases hn with rfl | rfl
 ·exact ⟨by kernel_rfl, by kernel_rfl, by kernel_rfl⟩
 ·exact ⟨by kernel_rfl, by kernel_rfl, by kernel_rfl⟩
theorem sblk_map (cs : List AV) : (sblk cs).elem < qac := by show 66 < qac; decide
theorem wblk_map : wblk.elem < qac := by show 73 < qac; decide
theorem rc_named {w0 : World} {ν : Nat → Int} {w r s n : Nat} {k : Int} {cs : List AV} {act : Act} {W : World} (hn : n = 67 ∨ n = 68) (h : HoldsG 46 w0 ν glO (rcM n k cs) act W) (ct : qai ν w8C = some (w8V w)) (hc : qai ν cs = some ((numL r).map u64)) : HoldsG 46 w0 (nuD w r s) glO (rcN k (cellsOf 8)) act W := by
 obtain ⟨g0, g1, g2⟩ := rcget n hn cs
 refine HoldsG.renumS (e := (rcM n k cs).e) (H := rcH cs) (n := n) glO_ok h (by decide) (fun p hp => ?_) fun p hp => ?_
 ·simp only [mdbE, List.mem_cons, List.not_mem_nil, or_false] at hp
  rcases hp with rfl | rfl | rfl | rfl
  ·exact .inl ⟨.i .i64 (.c k), .int .i64 k, by simp [rcM], rfl, rfl⟩
  ·exact .inr ⟨64, 0, rfl, by decide, by simp [rcM, mdbE]⟩
  ·exact .inr ⟨65, 0, rfl, by decide, by simp [rcM, mdbE]⟩
  ·exact .inr ⟨66, 0, rfl, by decide, by simp [rcM, mdbE]⟩
 ·simp only [rcH, List.mem_cons, List.not_mem_nil, or_false] at hp
  rcases hp with rfl | rfl | rfl
  ·exact ⟨by decide, by decide, _, _, g0, rfl, rfl, wblk_map, ct, nuD_w _ _ _⟩
  ·exact ⟨by decide, by decide, _, [u64 0, u64 0, u64 0, u64 0], g1, rfl, rfl, sblk_map _, by kernel_rfl, by kernel_rfl⟩
  ·exact ⟨by decide, by decide, _, _, g2, rfl, rfl, sblk_map _, hc, nuD_c8 _ _ _⟩
def rcJ (w0 : World) (w k : Nat) (act : Act) (W : World) : Prop := k ≤ 512 ∧ ∃ r, r = red w k ∧ ∀ s, HoldsG 46 w0 (nuD w r s) glO (rcN ((k : Int) - 1) (cellsOf 8)) act W
theorem rc_loop (w0 : World) (w : Nat) : Tri Tryd.prog 46 (.loop rcBody) (rcJ w0 w 512) (fun ex act W => ex = .exit 0 ∧ rcJ w0 w 0 act W) := by
 refine Tri.loop (P := Tryd.prog) (N := 46) (x := rcBody) (J := fun k => rcJ w0 w k) 512 ?_ ?_
 ·intro k c hc act W ⟨hk, r, hr, hp⟩
  have hp' : ∀ s, HoldsG 46 w0 (nuD w r s) glO (rcN (.ofNat k) (cellsOf 8)) act W := by
   intro s
   have := hp s
   have e : (((k + 1 : Nat) : Int) - 1) = .ofNat k := by rw [Int.ofNat_eq_natCast]; omega
   rw [e] at this
   exact this
  have hg := rc_goes k (by omega)
  simp only [rcGo, Bool.and_eq_true] at hg
  have hst := red_step w k
  obtain ⟨v, hv⟩ : ∃ v, 2 * r + w / 2 ^ k % 2 = v := ⟨_, rfl⟩
  have hv' : vOf w k = v := by
   unfold vOf
   rw [← hr]
   exact hv
  rw [hv'] at hst
  have hrl : r < ordL := hr ▸ red_lt _ _
  have hb2 : w / 2 ^ k % 2 < 2 := Nat.mod_lt _ (by decide)
  have hB : 2 * ordL < B4 := by decide
  have hc2 : ∀ s, qag (nuD w r s) (.ag (uC k)) = some (num v) := fun s => by
   have := uC_conc2 w r s k (by omega)
   rwa [hv] at this
  by_cases hb : v < ordL
  ·rw [if_pos hb] at hst
   refine ((Tri.runG (qab (nuD w r (v + B4 - ordL))) qak qaf glO_ok (fun q hq => by cases hq) (fun q hq => ?_) hg.1).weak (fun _ _ h => h) (fun ex act W h => ?_)) c hc act W (hp' _)
   ·simp only [rcT, List.mem_cons, List.not_mem_nil, or_false] at hq
    subst hq
    exact ⟨[num v], _, by simp [qai, hc2], tp2 true (nuD_16 _ _ _), minusL_lt v hb⟩
   ·refine .inl ⟨h.1, by omega, v, hst.symm, fun s => rc_named (.inr rfl) h.2 (nuD_w _ _ _) ?_⟩
    have := uC_conc w r (v + B4 - ordL) k (by omega)
    rwa [hv] at this
  ·rw [if_neg hb] at hst
   refine ((Tri.runG (qab (nuD w r (v - ordL))) qak qaf glO_ok (fun q hq => by cases hq) (fun q hq => ?_) hg.2).weak (fun _ _ h => h) (fun ex act W h => ?_)) c hc act W (hp' _)
   ·simp only [rcT, List.mem_cons, List.not_mem_nil, or_false] at hq
    subst hq
    exact ⟨[num v], _, by simp [qai, hc2], tp2 false (nuD_16 _ _ _), minusL_ge v (by omega) (Nat.le_of_not_lt hb)⟩
   ·exact .inl ⟨h.1, by omega, v - ordL, hst.symm, fun s => rc_named (.inr rfl) h.2 (nuD_w _ _ _) (nuD_c16 _ _ _)⟩
 ·intro c hc act W ⟨hk, r, hr, hp⟩
  refine ((Tri.runG (i := rcN (-1) (cellsOf 8)) (qab _) qak qaf glO_ok (fun r hr => by cases hr) (fun r hr => by cases hr) rc_ends).weak (fun _ _ h => h) (fun ex act W h => ?_)) c hc act W (hp 0)
  exact ⟨by rw [h.1]; simp, h.1, hk, r, hr, fun s => rc_named (.inl rfl) h.2 (nuD_w _ _ _) (nuD_c8 _ _ _)⟩
def rcnowA : Now := ⟨[(1, .p 64 0), (2, .p 65 0)], [(64, wblk), (65, sblk zeroC)], 66⟩
def rcnowB : Now := ⟨mdbE, rcH zeroC, 67⟩
def rcnowE : Now := ⟨[(2, .p 65 0)], [(65, sblk (cellsOf 8))], 67⟩
theorem rcgoA : goesG qae tree [] glO [] 60 2 rcA mdnow0 .normal rcnowA = true := by kernel_rfl
theorem rcgoB : goesG qae tree [] glO [] 60 2 rcB rcnowA .normal rcnowB = true := by kernel_rfl
theorem rcgoC : goesG qae tree [] glO [] 60 2 rcC rcnowB .normal (rcN 511 zeroC) = true := by kernel_rfl
theorem rcgoE : goesG qae tree [] glO [] 60 2 rcE (rcN (-1) (cellsOf 8)) .ret rcnowE = true := by kernel_rfl
theorem rc_res : resA (trL rcnowE.e) (qam (rcnowE.H ++ glO) rcnowE.n) [.c 2 (some 4)] = some (ns 8) := by kernel_rfl
theorem rc_tab : tree.get 43 = some t43 := by kernel_rfl
theorem reduce_ok (w : Nat) (hw : w < B4 * B4) : qa4 Tryd.prog glO 43 [num8 w] (num (w % ordL)) := by
 obtain ⟨r, hr⟩ : ∃ r, r = w % ordL := ⟨_, rfl⟩
 rw [← hr]
 have hr0 : red w 0 = r := by rw [hr]; unfold red; rw [Nat.pow_zero, Nat.div_one]
 refine pureG_tri (ν := nuD w 0 0) (ν' := nuD w r 0) (args := [.ag w8C]) (r := ns 8) (o := rcnowE) tree qaf glO_ok rc_tab rc_shape (md_ins w 0 0) (by decide) mdnow0.e (fun p hp => ?_) (fun w0 => ?_) rc_res (nuD_8 w r 0)
 ·simp only [mdnow0, List.mem_cons, List.not_mem_nil, or_false] at hp
  subst hp
  rfl
 ·refine Tri.seq (Tri.runG (i := mdnow0) (qab _) qak qaf glO_ok (fun r hr => by cases hr) (fun r hr => by cases hr) rcgoA) ?_ (fun ex a w hne h => (hne h.1).elim)
  refine Tri.weak (Pre := HoldsG 46 w0 (nuD w 0 0) glO rcnowA) ?_ (fun _ _ h => h.2) (fun _ _ _ h => h)
  refine Tri.seq (Tri.runG (qab _) qak qaf glO_ok (fun r hr => by cases hr) (fun r hr => by cases hr) rcgoB) ?_ (fun ex a w hne h => (hne h.1).elim)
  refine Tri.weak (Pre := HoldsG 46 w0 (nuD w 0 0) glO rcnowB) ?_ (fun _ _ h => h.2) (fun _ _ _ h => h)
  refine Tri.seq (Mid := fun ex act W => ex = .normal ∧ rcJ w0 w 0 act W) ?_ ?_ (fun ex a w hne h => (hne h.1).elim)
  ·refine Tri.seq (Tri.runG (qab _) qak qaf glO_ok (fun r hr => by cases hr) (fun r hr => by cases hr) rcgoC) ?_ (fun ex a w hne h => (hne h.1).elim)
   refine Tri.weak (Pre := rcJ w0 w 512) ?_ (fun _ _ h => ⟨Nat.le_refl _, 0, (red_top (a := 256) rfl rfl hw).symm, fun s => rc_named (.inl rfl) h.2 (nuD_w _ _ _) rfl⟩) (fun _ _ _ h => h)
   refine Tri.block (rc_loop w0 w) (fun a w h => by cases h.1) (fun act w h => ⟨rfl, h.2⟩) (fun j a w hj h => ?_) (fun a w h => by cases h.1)
   have := h.1
   simp only [Ex.exit.injEq] at this
   exact (hj this).elim
  ·intro c hc act W ⟨_, hk, r', hr', hp⟩
   have e : r' = r := hr'.trans hr0
   subst e
   exact ((Tri.runG (qab _) qak qaf glO_ok (fun r hr => by cases hr) (fun r hr => by cases hr) rcgoE).weak (fun _ _ h => h) (fun ex act W h => ⟨.inr h.1, h.2⟩)) c hc act W (hp 0)
end Go.Proofs.YtheidgcgdkmmiaaDoor
