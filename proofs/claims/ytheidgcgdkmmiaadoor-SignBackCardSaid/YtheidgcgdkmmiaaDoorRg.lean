/-
  SIGNATURES: what the rows of a signature that is looked at answer. Own work.
-/
import Derived.Test.YtheidgcgdkmmiaaDoorRf
namespace Go.Proofs.YtheidgcgdkmmiaaDoor
open Go.Sh
open Go.ChangeShapes Go.WideShapes Go.ChangeAt Go.RowKit
set_option maxRecDepth 100000
/-! curve's Add of what is no point -/
theorem adN_says : saysG noFacts tree [] glC [⟨39, [rw8 0], .tp [z128v, .b false]⟩] 100 3 34 [rw8 0, rw8 1] (.tp [kB 0, ePoint]) = true := by kernel_rfl
theorem Add_no1 (n m : Nat) (hn : n < B4) (h : ∀ P, enc P ≠ n) : PureG Tryd.prog glC 34 [byt n, byt m] (.tuple #[byt 0, .int .i64 4]) := by
  refine pureG_of (ν := nub [n, m]) (args := [rw8 0, rw8 1]) (noFacts_hold _) mixed tab_ok glC_ok (fun r hr => by cases hr) (fun r hr => ?_) adN_says (by simp [concT, nubR8]) (tpE 4 (kB_val _ 0))
  simp only [List.mem_cons, List.not_mem_nil, or_false] at hr
  subst hr
  exact rowReadN hn h (nubR8 _ 0)
def ones : Nat := 115792089237316195423570985008687907853269984665640564039457584007913129639935
theorem ones_no (P : Pt) : enc P ≠ ones := by
  have h := val_lt P.y
  unfold prime at h
  unfold enc two255 ones
  omega
theorem smul_red (n : Nat) : smul (n % ordL) pB0 = smul n pB0 := by
  have h := Nat.div_add_mod n ordL
  have e : smul n pB0 = (smul (ordL * (n / ordL)) pB0).add (smul (n % ordL) pB0) := by rw [← smul_add, h]
  rw [e, smul_ord, zero_add']
theorem sig_holds (k a r : Nat) : smul ((k * a + r) % ordL) pB0 = (smul r pB0).add (smul k (smul a pB0)) := by rw [smul_red, smul_add, smul_mul, add_comm']
/-! one more L -/
theorem digit_add (s l B : Nat) (hB : 0 < B) : (s + l) / B % 256 = (s / B % 256 + l / B % 256 + (s % B + l % B) / B) % 256 := by
  have h : (s + l) / B = s / B + l / B + (s % B + l % B) / B := by
    conv => lhs; rw [← Nat.div_add_mod s B, ← Nat.div_add_mod l B]
    rw [show B * (s / B) + s % B + (B * (l / B) + l % B) = (s % B + l % B) + B * (s / B + l / B) by rw [Nat.mul_add]; omega, Nat.add_mul_div_left _ _ hB]
    omega
  rw [h]
  omega
theorem carry_next (s l B : Nat) (hB : 0 < B) : (s % (B * 256) + l % (B * 256)) / (B * 256) = (s / B % 256 + l / B % 256 + (s % B + l % B) / B) / 256 := by
  rw [Nat.mod_mul, Nat.mod_mul, ← Nat.div_div_eq_div_mul, show s % B + B * (s / B % 256) + (l % B + B * (l / B % 256)) = (s % B + l % B) + B * (s / B % 256 + l / B % 256) by rw [Nat.mul_add]; omega, Nat.add_mul_div_left _ _ hB]
  congr 1
  omega
theorem carry_lt (s l B : Nat) (hB : 0 < B) : (s % B + l % B) / B ≤ 1 := by
  have h1 := Nat.mod_lt s hB
  have h2 := Nat.mod_lt l hB
  exact Nat.le_of_lt_succ ((Nat.div_lt_iff_lt_mul hB).2 (by omega))
theorem i64_add {a b : Nat} (h : a + b < 9223372036854775808) : arith .add .i64 (a : Int) (b : Int) = ((a + b : Nat) : Int) := by
  show IntKind.i64.wrap ((a : Int) + (b : Int)) = _
  simp only [IntKind.wrap, IntKind.bits, IntKind.signed]
  simp
  omega
theorem i64_quo {a : Nat} (h : a < 9223372036854775808) : arith .quo .i64 (a : Int) ((256 : Nat) : Int) = ((a / 256 : Nat) : Int) := by
  show IntKind.i64.wrap ((a : Int).tdiv ((256 : Nat) : Int)) = _
  rw [show (a : Int).tdiv ((256 : Nat) : Int) = ((a / 256 : Nat) : Int) from rfl]
  simp only [IntKind.wrap, IntKind.bits, IntKind.signed]
  simp
  omega
theorem i64_w {a : Nat} (h : a < 9223372036854775808) : IntKind.i64.wrap (a : Int) = (a : Int) := by
  simp only [IntKind.wrap, IntKind.bits, IntKind.signed]
  simp
  omega
theorem u8_w (a : Nat) : IntKind.u8.wrap (a : Int) = ((a % 256 : Nat) : Int) := by
  simp only [IntKind.wrap, IntKind.bits, IntKind.signed]
  simp
theorem ovA_val {ν : Nat → Int} {s : Nat} (hs : ∀ j, j < 32 → ν (384 + j) = ((s / 2 ^ (8 * j) % 256 : Nat) : Int)) : ∀ i, i < 32 → (ovA i).val ν = ((s / 2 ^ (8 * i) % 256 + ordL / 2 ^ (8 * i) % 256 + (s % 2 ^ (8 * i) + ordL % 2 ^ (8 * i)) / 2 ^ (8 * i) : Nat) : Int)
  | 0, _ => by
    show arith .add .i64 (arith .add .i64 ((0 : Nat) : Int) (IntKind.i64.wrap (ν 384))) ((lB 0 : Nat) : Int) = _
    have h0 := hs 0 (by decide)
    simp only [Nat.add_zero, Nat.mul_zero, Nat.pow_zero, Nat.div_one, Nat.mod_one] at h0 ⊢
    rw [h0, i64_w (by omega), i64_add (by omega), show lB 0 = ordL % 256 by unfold lB; rw [Nat.mul_zero, Nat.pow_zero, Nat.div_one], i64_add (by omega)]
    congr 1
    omega
  | i + 1, hi => by
    have ih := ovA_val hs i (by omega)
    show arith .add .i64 (arith .add .i64 (arith .quo .i64 ((ovA i).val ν) ((256 : Nat) : Int)) (IntKind.i64.wrap (ν (384 + (i + 1))))) ((lB (i + 1) : Nat) : Int) = _
    have hB : 0 < 2 ^ (8 * i) := Nat.pow_pos (by decide)
    have hc := carry_lt s ordL _ hB
    have hn := carry_next s ordL _ hB
    rw [show 2 ^ (8 * i) * 256 = 2 ^ (8 * (i + 1)) by rw [show 8 * (i + 1) = 8 * i + 8 by omega, Nat.pow_add]] at hn
    rw [ih, hs (i + 1) hi, hn]
    unfold lB
    generalize s / 2 ^ (8 * (i + 1)) = x
    generalize ordL / 2 ^ (8 * (i + 1)) = y
    generalize (s % 2 ^ (8 * i) + ordL % 2 ^ (8 * i)) / 2 ^ (8 * i) = c at *
    generalize s / 2 ^ (8 * i) = x0
    generalize ordL / 2 ^ (8 * i) = y0
    rw [i64_quo (by omega), i64_w (by omega), i64_add (by omega), i64_add (by omega)]
    congr 1
    omega
theorem ovV_val {ν : Nat → Int} {s : Nat} (hs : ∀ j, j < 32 → ν (384 + j) = (((byL s).getD j 0 : Nat) : Int)) : conc2 ν ovV = some (byt (s + ordL)) := by
  show conc2 ν (.ag (rowC .u8 ovC (31 + 1))) = _
  rw [conc2_row]
  refine congrArg some (byt_agg fun j hj => ?_)
  rw [byL_get _ j hj]
  show IntKind.u8.wrap ((ovA j).val ν) = _
  rw [ovA_val (fun j hj => by rw [hs j hj, byL_get _ j hj]) j hj, u8_w, digit_add s ordL _ (Nat.pow_pos (by decide))]
/-! the numbers beside -/
def zF (p : Nat) (zz : Nat → Nat) : Wd := fun j => if j < 32 then 255 else if j < 64 then (((byL p).getD (j - 32) 0 : Nat) : Int) else (zz (j - 64) : Int)
structure Bk where
  q : Nat
  v : Nat
  f1 : Nat
  f2 : Nat
  k : Nat
  w : Nat
structure Bk.Ok (b : Bk) (g : Sg) (n : Nat) (zz : Nat → Nat) : Prop where
  hq : enc (smul g.k (smul g.a pB0)) = b.q
  hv : enc ((smul g.r pB0).add (smul g.k (smul g.a pB0))) = b.v
  h1 : b.f1 = dLo (zF g.p zz) (64 + n)
  h2 : b.f2 = dHi (zF g.p zz) (64 + n)
  hk : wS (dgt (zF g.p zz) (64 + n)) 64 % ordL = b.k
  hw : enc (smul b.k (smul g.a pB0)) = b.w
theorem bk_is (g : Sg) (n : Nat) (zz : Nat → Nat) : ∃ b : Bk, b.Ok g n zz := by
  obtain ⟨q, hq⟩ : ∃ x, enc (smul g.k (smul g.a pB0)) = x := ⟨_, rfl⟩
  obtain ⟨v, hv⟩ : ∃ x, enc ((smul g.r pB0).add (smul g.k (smul g.a pB0))) = x := ⟨_, rfl⟩
  obtain ⟨f1, h1⟩ : ∃ d, d = dLo (zF g.p zz) (64 + n) := ⟨_, rfl⟩
  obtain ⟨f2, h2⟩ : ∃ d, d = dHi (zF g.p zz) (64 + n) := ⟨_, rfl⟩
  obtain ⟨k, hk⟩ : ∃ r, wS (dgt (zF g.p zz) (64 + n)) 64 % ordL = r := ⟨_, rfl⟩
  obtain ⟨w, hw⟩ : ∃ x, enc (smul k (smul g.a pB0)) = x := ⟨_, rfl⟩
  exact ⟨⟨q, v, f1, f2, k, w⟩, hq, hv, h1, h2, hk, hw⟩
def Bk.e (b : Bk) (g : Sg) (zz : Nat → Nat) : Ex := ⟨[b.q, b.v, b.f1, b.f2, b.k, b.w], [b.k], fun _ => zF g.p zz⟩
section
variable {g : Sg} {b : Bk} {n : Nat} {zz : Nat → Nat}
theorem vfG_ok (H : g.Ok n zz) (B : b.Ok g n zz) : ∀ r ∈ vfG, r.OkG (nuX9 g (b.e g zz) n zz) Tryd.prog gl9 := by
  intro r hr
  simp only [vfG, List.mem_cons, List.not_mem_nil, or_false] at hr
  rcases hr with rfl | rfl | rfl
  · exact OkG_up upC9 (rowTimesPt (P := smul g.a pB0) H.kB H.hp B.hq (nu9_b 11 (by decide)) (nu9_b 4 (by decide)) (nu9_b 13 (by decide)))
  · exact OkG_up upC9 (rowAddPt H.hpl B.hq B.hv (nu9_b 8 (by decide)) (nu9_b 13 (by decide)) (nu9_b 14 (by decide)))
  · exact OkG_up upB9 (rowBase (n := g.s) (ordB H.sL) (by rw [← H.hs, sig_holds]; exact B.hv) (nu9_b 12 (by decide)) (nu9_bc 14 (by decide)))
theorem bkT_ok : ∀ r ∈ bkT, r.Ok (nuX9 g (b.e g zz) n zz) Tryd.prog := by
  intro r hr
  rcases List.mem_append.1 hr with hr | hr
  · exact sgT_ok r hr
  · simp only [List.mem_cons, List.not_mem_nil, or_false] at hr
    subst hr
    exact rowLayS (x := b.k) (nu9_w 2 (by decide)) (nu9_bc 17 (by decide))
theorem Bk.Ok.kB (B : b.Ok g n zz) : b.k < B4 := by rw [← B.hk]; exact modB _
theorem bkV_ok (H : g.Ok n zz) (B : b.Ok g n zz) : ∀ r ∈ bkV, r.OkG (nuX9 g (b.e g zz) n zz) Tryd.prog gl9 := by
  intro r hr
  have hs := H.sL
  simp only [bkV, List.mem_cons, List.not_mem_nil, or_false] at hr
  rcases hr with rfl | rfl | rfl | rfl
  · exact OkG_up upO9 (rowBelow (x := g.s + ordL) false (by unfold ordL at hs ⊢; unfold B4; omega) (decide_eq_false (by omega)) (ovV_val (s := g.s) fun j hj => nu9_at (j := 12) (by decide) hj))
  · exact OkG_up upO9 (rowRed (T := wS (dgt (zF g.p zz) (64 + n)) 64) (wS_B8 (dgt_lt _ _)) B.hk (wag (j := 15) (by decide) B.h1 B.h2) (nu9_wc 2 (by decide)))
  · exact OkG_up upC9 (rowTimesPt (P := smul g.a pB0) B.kB H.hp B.hw (nu9_b 17 (by decide)) (nu9_b 4 (by decide)) (nu9_b 18 (by decide)))
  · have h1 : conc2 (nuX9 g (b.e g zz) n zz) ffV = some (byt ones) := by kernel_rfl
    have h2 : conc2 (nuX9 g (b.e g zz) n zz) (rw8 18) = some (byt b.w) := nu9_b 18 (by decide)
    exact OkG_up upC9 ⟨[byt ones, byt b.w], _, by simp [concT, h1, h2], tpE 4 (kB_val _ 0), Add_no1 ones b.w (by decide) ones_no⟩
theorem bkG_ok (H : g.Ok n zz) (B : b.Ok g n zz) : ∀ r ∈ bkG, r.OkG (nuX9 g (b.e g zz) n zz) Tryd.prog gl9 := by
  intro r hr
  rcases List.mem_append.1 hr with hr | hr
  · exact sgG_ok H r hr
  rcases List.mem_append.1 hr with hr | hr
  · exact okT_ok H r hr
  rcases List.mem_append.1 hr with hr | hr
  · exact vfG_ok H B r hr
  rcases List.mem_append.1 hr with hr | hr
  · exact bkV_ok H B r hr
  · simp only [List.mem_cons, List.not_mem_nil, or_false] at hr
    subst hr
    exact rowWk9_ok
theorem sg3_ok (B : b.Ok g n zz) {c : Nat} (hn : n < 1000000000) : (sg3 c 14).Ok (nuX9 g (b.e g zz) n zz) Tryd.prog gl9 := by
  have hA : nuX9 g (b.e g zz) n zz (pinA (tg 14)) = ((64 + n : Nat) : Int) := nu9_A (t := 14) (by decide)
  have hL : nuX9 g (b.e g zz) n zz (pinL (tg 14)) = ((64 + n : Nat) : Int) := nu9_L (t := 14) (by decide)
  exact rowSum_ok (n := 64 + n) (z := zF g.p zz) (isText_win (t := 14) (own := true) List.mem_cons_self (by decide) (tg_Ke (by decide)) rfl hA (by rw [hL]; omega) fun j hj => nu9_B (t := 14) (by decide) (by omega)) (by omega) fun j hj => nu9_dg (L := sgX g (b.e g zz)) (j := 15) (by decide) B.h1 B.h2 hj
theorem ff_val {j : Nat} (hj : j < 64) : (ffA j).val (nuX9 g (b.e g zz) n zz) = zF g.p zz j := by
  unfold ffA zF
  by_cases c : j < 32
  · rw [if_pos (by simpa using c), if_pos c]
    rfl
  · rw [if_neg (by simpa using c), if_neg c, if_pos hj]
    exact nu9_at (j := 4) (by decide) (by omega)
theorem sg3E_ok (B : b.Ok g 0 zz) {c : Nat} : (sg3E c).Ok (nuX9 g (b.e g zz) 0 zz) Tryd.prog gl9 := by
  refine rowSum_ok (n := 64) (z := zF g.p zz) (isText_row (off := 0) (n := 64) List.mem_cons_self (by decide) (by decide) (by decide) fun j hj => ?_) (by decide) fun j hj => nu9_dg (L := sgX g (b.e g zz)) (j := 15) (by decide) B.h1 B.h2 hj
  rw [Nat.zero_add]
  exact ff_val hj
theorem cat64 {e : Ex} {cells : List AI} {z : Wd} (hl : cells.length = 64) (h1 : ∀ j x, cells[j]? = some x → z j = x.val (nuX9 g e n zz)) (h2 : ∀ j, z (64 + j) = (zz j : Int)) {t T : Nat} (ht : t = 2 ∨ t = 4) (hT : 12 < T) (hz : e.zx T = z) (hn : n < 1000000000) : 0 ≤ nuX9 g e n zz (pinL (tg T)) ∧ lst (nuX9 g e n zz) (tg T) = lst0 (nuX9 g e n zz) 0 ++ cells.map (AI.val (nuX9 g e n zz)) ++ lst0 (nuX9 g e n zz) (tg t) := by
  have e1 : sgN n T = 64 + n := by unfold sgN; rw [if_neg (by omega), if_neg (by omega)]
  have e2 : sgN n t = n := by unfold sgN; rw [if_pos (by omega)]
  have hL : nuX9 g e n zz (pinL (tg T)) = ((64 + n : Nat) : Int) := by rw [← e1]; exact nu9_L (t := T) (by omega)
  have hl2 : nuX9 g e n zz (pinL (tg t)) = (n : Int) := (nu9_L (t := t) (by omega)).trans (congrArg (fun n : Nat => (n : Int)) e2)
  have zT : ∀ j, j < 1099511627774 → nuX9 g e n zz (pinB (tg T) j) = z j := fun j hj => (nu9_B (by omega) hj).trans (by unfold sgZ; rw [if_neg (by omega), if_neg (by omega), if_neg (by omega), hz])
  have zt : ∀ j, j < 1099511627774 → nuX9 g e n zz (pinB (tg t) j) = (zz j : Int) := fun j hj => (nu9_B (by omega) hj).trans (by unfold sgZ; rw [if_pos (by omega)])
  refine ⟨by rw [hL]; omega, ?_⟩
  rw [lst0_zero, List.nil_append, lst0_row _ (tgT (t := t) (by omega) (by omega)).1]
  refine lst_pre (cells := cells) (by rw [hl]; exact hL) hl2 (fun j y hy => ?_) fun j hj => ?_
  · have hj : j < 64 := by
      have := (List.getElem?_eq_some_iff.1 hy).1
      omega
    rw [zT j (by omega)]
    exact h1 j y hy
  · rw [hl, zT _ (by omega), zt j (by omega)]
    exact h2 j
theorem catF_ok (hn : n < 1000000000) : 0 ≤ nuX9 g (b.e g zz) n zz (pinL (tg 14)) ∧ lst (nuX9 g (b.e g zz) n zz) (tg 14) = lst0 (nuX9 g (b.e g zz) n zz) 0 ++ clF9.map (AI.val (nuX9 g (b.e g zz) n zz)) ++ lst0 (nuX9 g (b.e g zz) n zz) (tg 2) := by
  refine cat64 (z := zF g.p zz) (by decide) (fun j y hy => ?_) (fun j => ?_) (.inl rfl) (by decide) rfl hn
  · have hj : j < 64 := by
      have := (List.getElem?_eq_some_iff.1 hy).1
      simpa [clF9] using this
    simp only [clF9, List.getElem?_map, List.getElem?_range hj, Option.map_some, Option.some.injEq] at hy
    rw [← hy]
    exact (ff_val hj).symm
  · unfold zF
    rw [if_neg (by omega), if_neg (by omega), Nat.add_sub_cancel_left]
end
end Go.Proofs.YtheidgcgdkmmiaaDoor
