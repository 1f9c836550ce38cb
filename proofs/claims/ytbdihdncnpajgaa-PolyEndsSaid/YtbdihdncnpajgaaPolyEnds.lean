/-
  PolyEnds: for all its arguments the law returns true. Conditions: none.
-/
import Derived.Test.YtbdihdncnpajgaaPoo
namespace Go.Proofs.Ytbdihdncnpajgaa
open Go.Sh
open Go.ChangeShapes Go.WideShapes Go.ChangeAt Go.RowKit
set_option maxRecDepth 100000

/-! numbers -/
theorem dv_digit {s : Nat → Nat} {m i : Nat} (hs : ∀ j, j < m → s j < 256) (hi : i < m) : dv s m / 256 ^ i % 256 = s i := by
  obtain ⟨t, ht⟩ := dv_up s (i + 1) (m - (i + 1))
  rw [show i + 1 + (m - (i + 1)) = m by omega] at ht
  have h2 : dv s i < 256 ^ i := dv_lt fun j hj => hs j (by omega)
  have hp : 0 < 256 ^ i := Nat.pow_pos (by decide)
  have e : dv s m = dv s i + 256 ^ i * (s i + 256 * t) := by
    rw [ht, show dv s (i + 1) = dv s i + s i * 256 ^ i from rfl, Nat.pow_succ, Nat.mul_add, Nat.mul_comm (s i), Nat.mul_assoc, Nat.add_assoc]
  rw [e, Nat.add_mul_div_left _ _ hp, Nat.div_eq_of_lt h2, Nat.zero_add, Nat.add_mul_mod_self_left, Nat.mod_eq_of_lt (hs i hi)]
theorem accN_zero {n : Nat} {z : Nat → Nat} : ∀ q, accN 0 n z q = 0
  | 0 => rfl
  | q + 1 => by
    show (accN 0 n z q + dv (pcN n z q) 17) * 0 % pp = 0
    rw [Nat.mul_zero, Nat.zero_mod]
theorem tag_r0 {k zz : Nat → Nat} {n i : Nat} (hr : rN k = 0) (hk : ∀ j, k j < 256) (hi : i < 16) : tagN k n zz i = k (16 + i) := by
  unfold tagN
  rw [hr, accN_zero, Nat.zero_add]
  exact dv_digit (fun j _ => hk _) hi
theorem tag_none {k zz : Nat → Nat} {i : Nat} (hk : ∀ j, k j < 256) (hi : i < 16) : tagN k 0 zz i = k (16 + i) := by
  rw [tag0]
  exact dv_digit (fun j _ => hk _) hi
theorem tag_key {k k' zz : Nat → Nat} {n i : Nat} (h1 : ∀ j, j < 16 → hfN k j = hfN k' j) (h2 : ∀ j, j < 16 → k (16 + j) = k' (16 + j)) : tagN k n zz i = tagN k' n zz i := by
  unfold tagN
  rw [show rN k = rN k' from dv_congr h1, dv_congr h2]
/-! the keys -/
def frL : List Nat := [28, 29, 30, 31, 32, 33, 60, 61, 62, 63, 64, 65, 92, 93, 94, 95, 96, 97, 124, 125, 126, 127]
def fP (m : Nat) : Nat := frL.getD m 0 / 8
def fB2 (m : Nat) : Nat := 2 ^ (frL.getD m 0 % 8)
def zkA (j : Nat) : AI := if Nat.blt j 16 then .c 0 else .s j
def pkA (j : Nat) : AI := if Nat.blt j 16 then .s j else .c 0
def okA (m j : Nat) : AI := if Nat.beq j (fP m) then .e .xor .u8 (.s j) (nA (fB2 m)) else .s j
def zkN (k : Nat → Nat) (j : Nat) : Nat := if j < 16 then 0 else k j
def pkN (k : Nat → Nat) (j : Nat) : Nat := if j < 16 then k j else 0
def okN (m : Nat) (k : Nat → Nat) (j : Nat) : Nat := if j = fP m then (arith .xor .u8 ((k j : Nat) : Int) ((fB2 m : Nat) : Int)).toNat else k j
def okQ (m x : Nat) : Bool := decide (0 ≤ arith .xor .u8 ((x : Nat) : Int) ((fB2 m : Nat) : Int)) && decide ((arith .xor .u8 ((x : Nat) : Int) ((fB2 m : Nat) : Int)).toNat < 256) && (if fP m % 4 = 3 then decide ((arith .xor .u8 ((x : Nat) : Int) ((fB2 m : Nat) : Int)).toNat % 16 = x % 16) else decide (fP m % 4 = 0 ∧ 0 < fP m ∧ (arith .xor .u8 ((x : Nat) : Int) ((fB2 m : Nat) : Int)).toNat / 4 * 4 = x / 4 * 4)) && decide (fP m < 16)
theorem okQ_all : (List.range 22).all (fun m => (List.range 256).all (okQ m)) = true := by decide +kernel
theorem okQ_at {m x : Nat} (hm : m < 22) (hx : x < 256) : okQ m x = true := List.all_eq_true.1 (List.all_eq_true.1 okQ_all m (List.mem_range.2 hm)) x (List.mem_range.2 hx)
section
variable {k : Nat → Nat} {m : Nat}
theorem okN_lt (hm : m < 22) (hk : ∀ j, k j < 256) (j : Nat) : okN m k j < 256 := by
  unfold okN
  split
  · have h := okQ_at hm (hk j)
    simp only [okQ, Bool.and_eq_true, decide_eq_true_eq] at h
    exact h.1.1.2
  · exact hk j
theorem okN_hf (hm : m < 22) (hk : ∀ j, k j < 256) (j : Nat) : hfN (okN m k) j = hfN k j := by
  have h := okQ_at hm (hk j)
  simp only [okQ, Bool.and_eq_true, decide_eq_true_eq] at h
  have h2 := h.1.2
  unfold hfN okN
  by_cases c : j = fP m
  · rw [if_pos c]
    by_cases c3 : fP m % 4 = 3
    · rw [if_pos c3] at h2
      rw [c, if_pos c3, if_pos c3, ← c]
      exact of_decide_eq_true h2
    · rw [if_neg c3] at h2
      obtain ⟨q1, q2, q3⟩ := of_decide_eq_true h2
      rw [c, if_neg c3, if_neg c3, if_pos ⟨q1, q2⟩, if_pos ⟨q1, q2⟩, ← c]
      exact q3
  · rw [if_neg c]
theorem okN_hi (hm : m < 22) (hk : ∀ j, k j < 256) (j : Nat) : okN m k (16 + j) = k (16 + j) := by
  have h := okQ_at hm (hk 0)
  simp only [okQ, Bool.and_eq_true, decide_eq_true_eq] at h
  have h2 := h.2
  exact if_neg (by omega)
end
/-! the carries that the law holds against it -/
def ceA : Nat → AI
  | 0 => .e .add .i64 (.e .add .i64 (.c 0) (.w .i64 (.s 180))) (.w .i64 (.s 16))
  | i + 1 => .e .add .i64 (.e .add .i64 (.e .quo .i64 (ceA i) (nA 256)) (.w .i64 (.s (180 + (i + 1))))) (.w .i64 (.s (16 + (i + 1))))
def ceF (o : Nat) : List (BinOp × AI × AI × Bool) := (List.range 16).map fun i => (.neq, .s (o + i), .w .u8 (ceA i), false)
def enS (b o : Nat) : AV := .sl b o (nA 16) (.ex 16)
def enB (b o : Nat) : Nat × ABlk := (b, ⟨rowC .u8 (nmA o) 16, e16, true⟩)
def enK (b : Nat) : Nat × ABlk := (b, ⟨rowC .u8 (nmA 0) 32, e32, true⟩)
def enM (x : AV) (nd : Gl) (b m o : Nat) : List RowM := [rowTag 8 (nmA 0) .nsl [] (nmA 100), rowTag 8 zkA x nd (nmA 120), rowTag 8 (nmA 0) x nd (nmA 140), rowTag 8 (okA m) x nd (nmA 160), rowTag 8 pkA x nd (nmA 180),
  rowEq (enS (b + 1) 0) (enS b 16) [enB (b + 1) 100, enK b], rowEq (enS (b + 3) 0) (enS b 16) [enB (b + 3) 120, enK b], rowEq (enS (b + 4) 0) (enS (b + 7) 0) [enB (b + 4) o, enB (b + 7) 160]]
def rm22 : AI := .e .rem .u64 (.w .u64 (.s 302)) (nA 22)
def fEn (m o : Nat) (l : List (BinOp × AI × AI × Bool)) : Facts := ⟨[(rm22, (m : Int))], l ++ ceF o, []⟩
def enG (b : Bool) : List (BinOp × AI × AI × Bool) := [(.gtr, .s (pinL (tg 2)), nA 1000, b)]
def enA (x : AV) : List AV := [kyS, x, .i .i64 (.s 302)]
noncomputable def enT (m : Nat) : Bool := saysB (fEn m 140 (enG false)) tree [rowWk] [] [] (enM (ps 64 2) [pn 64 2] 65 m 140) [pn 64 2] 65 60 4 4 (enA (ps 64 2)) (.b true)
noncomputable def enE (x : AV) (o m : Nat) : Bool := saysB (fEn m o []) tree [rowWk] [] [] (enM x [] 64 m o) [] 64 60 4 4 (enA x) (.b true)
theorem en_T : (List.range 22).all enT = true := by kernel_rfl
theorem en_E1 : (List.range 22).all (enE .nsl 100) = true := by kernel_rfl
theorem en_E2 : (List.range 22).all (enE (.sle false) 140) = true := by kernel_rfl
theorem en_over : saysB ⟨[], [(.gtr, .s 301, nA 1000, true)], []⟩ tree [] [] [] [] (Hd.gl0 64 .c) 65 60 4 4 (enA (Hd.av0 64 301 .c)) (.b true) = true := by kernel_rfl
def loN4 (k : Nat → Nat) (n : Nat) (zz : Nat → Nat) (B : Int) : Nat → Int := fun x => if x < 32 then (k x : Int) else if x < 100 then 0 else if x < 116 then (k (16 + (x - 100)) : Int) else if x < 120 then 0 else if x < 136 then (k (16 + (x - 120)) : Int) else if x < 140 then 0 else if x < 156 then (tagN k n zz (x - 140) : Int) else if x < 160 then 0
  else if x < 176 then (tagN k n zz (x - 160) : Int) else if x < 180 then 0 else if x < 196 then (tagN (pkN k) n zz (x - 180) : Int) else if x = 302 then B else (n : Int)
section
variable {k zz : Nat → Nat} {n m : Nat} {B : Int}
theorem nuN_K {j : Nat} (h : j < 32) : nuW (loN4 k n zz B) n zz j = (k j : Int) := (nuR_lo (by omega)).trans (if_pos h)
theorem nuN_1 {j : Nat} (h : j < 16) : nuW (loN4 k n zz B) n zz (100 + j) = (k (16 + j) : Int) := by
  refine (nuR_lo (by omega)).trans ?_
  unfold loN4
  rw [if_neg (by omega), if_neg (by omega), if_pos (by omega), Nat.add_sub_cancel_left]
theorem nuN_2 {j : Nat} (h : j < 16) : nuW (loN4 k n zz B) n zz (120 + j) = (k (16 + j) : Int) := by
  refine (nuR_lo (by omega)).trans ?_
  unfold loN4
  rw [if_neg (by omega), if_neg (by omega), if_neg (by omega), if_neg (by omega), if_pos (by omega), Nat.add_sub_cancel_left]
theorem nuN_3 {j : Nat} (h : j < 16) : nuW (loN4 k n zz B) n zz (140 + j) = (tagN k n zz j : Int) := by
  refine (nuR_lo (by omega)).trans ?_
  unfold loN4
  rw [if_neg (by omega), if_neg (by omega), if_neg (by omega), if_neg (by omega), if_neg (by omega), if_neg (by omega), if_pos (by omega), Nat.add_sub_cancel_left]
theorem nuN_4 {j : Nat} (h : j < 16) : nuW (loN4 k n zz B) n zz (160 + j) = (tagN k n zz j : Int) := by
  refine (nuR_lo (by omega)).trans ?_
  unfold loN4
  rw [if_neg (by omega), if_neg (by omega), if_neg (by omega), if_neg (by omega), if_neg (by omega), if_neg (by omega), if_neg (by omega), if_neg (by omega), if_pos (by omega), Nat.add_sub_cancel_left]
theorem nuN_5 {j : Nat} (h : j < 16) : nuW (loN4 k n zz B) n zz (180 + j) = (tagN (pkN k) n zz j : Int) := by
  refine (nuR_lo (by omega)).trans ?_
  unfold loN4
  rw [if_neg (by omega), if_neg (by omega), if_neg (by omega), if_neg (by omega), if_neg (by omega), if_neg (by omega), if_neg (by omega), if_neg (by omega), if_neg (by omega), if_neg (by omega), if_pos (by omega), Nat.add_sub_cancel_left]
theorem nuN_B : nuW (loN4 k n zz B) n zz 302 = B := (nuR_lo (by decide)).trans rfl
theorem nuN_n : nuW (loN4 k n zz B) n zz 301 = (n : Int) := (nuR_lo (by decide)).trans rfl
/-- The tag is the sum of the one without the second half, and that half. -/
def sumN (k : Nat → Nat) (n : Nat) (zz : Nat → Nat) (j : Nat) : Nat := tagN (pkN k) n zz j + k (16 + j)
theorem tag_sum (hk : ∀ j, k j < 256) {i : Nat} (hi : i < 16) : tagN k n zz i = dgN 0 (sumN k n zz) i := by
  have hr : rN (pkN k) = rN k := dv_congr fun j hj => by
    unfold hfN pkN
    rw [if_pos hj]
  have hp : ∀ j, tagN (pkN k) n zz j = accN (rN k) n zz ((n + 15) / 16) / 256 ^ j % 256 := fun j => by
    unfold tagN
    rw [hr, dv_zero (v := fun j => pkN k (16 + j)) fun j hj => if_neg (by omega), Nat.add_zero]
  let v : Nat → Nat := fun j => accN (rN k) n zz ((n + 15) / 16) / 256 ^ j % 256 + (if j < 16 then k (16 + j) else 0)
  have hs : dv v 64 = accN (rN k) n zz ((n + 15) / 16) + dv (fun j => k (16 + j)) 16 := by
    show dv (fun j => accN (rN k) n zz ((n + 15) / 16) / 256 ^ j % 256 + (if j < 16 then k (16 + j) else 0)) 64 = _
    rw [dv_add, acc_dv, show 64 = 16 + 48 from rfl, dv_cut fun j h1 h2 => if_neg (by omega)]
    exact congrArg _ (dv_congr fun j hj => if_pos hj)
  have h1 := dg_at 0 v (show i < 64 by omega)
  have h2 := dg_at 0 v hi
  have h3 := dg_at 0 (sumN k n zz) hi
  have e : dv v 16 = dv (sumN k n zz) 16 := dv_congr fun j hj => by
    show _ + (if j < 16 then k (16 + j) else 0) = tagN (pkN k) n zz j + k (16 + j)
    rw [if_pos hj, hp]
  rw [h3, ← e, ← h2, h1, hs, Nat.zero_add]
  rfl
theorem tag_lt {i : Nat} : tagN k n zz i < 256 := Nat.mod_lt _ (by decide)
theorem i64_w (x : Nat) (h : x < 65536) : IntKind.i64.wrap (x : Int) = (x : Int) := i64_small (by omega) (by omega)
theorem i64_add (x y : Nat) (h : x + y < 65536) : arith .add .i64 (x : Int) (y : Int) = ((x + y : Nat) : Int) := by
  show IntKind.i64.wrap ((x : Int) + (y : Int)) = _
  rw [← Int.natCast_add, i64_w _ h]
theorem ce_num (hk : ∀ j, k j < 256) : ∀ i, i < 16 → (ceA i).val (nuW (loN4 k n zz B) n zz) = (chN 0 (sumN k n zz) i : Int) ∧ chN 0 (sumN k n zz) i < 1024
  | 0, h => by
    have h1 := tag_lt (k := pkN k) (n := n) (zz := zz) (i := 0)
    have h2 := hk 16
    refine ⟨?_, by show 0 + (tagN (pkN k) n zz 0 + k 16) < 1024; omega⟩
    show arith .add .i64 (arith .add .i64 ((0 : Nat) : Int) (IntKind.i64.wrap (nuW (loN4 k n zz B) n zz (180 + 0)))) (IntKind.i64.wrap (nuW (loN4 k n zz B) n zz 16)) = ((0 + (tagN (pkN k) n zz 0 + k 16) : Nat) : Int)
    rw [nuN_5 h, nuN_K (by decide), i64_w _ (by omega), i64_w _ (by omega), i64_add _ _ (by omega), i64_add _ _ (by omega), Nat.add_assoc]
  | i + 1, h => by
    obtain ⟨h3, h4⟩ := ce_num hk i (by omega)
    have h1 := tag_lt (k := pkN k) (n := n) (zz := zz) (i := i + 1)
    have h2 := hk (16 + (i + 1))
    refine ⟨?_, by show chN 0 (sumN k n zz) i / 256 + (tagN (pkN k) n zz (i + 1) + k (16 + (i + 1))) < 1024; omega⟩
    show arith .add .i64 (arith .add .i64 (arith .quo .i64 ((ceA i).val (nuW (loN4 k n zz B) n zz)) ((256 : Nat) : Int)) (IntKind.i64.wrap (nuW (loN4 k n zz B) n zz (180 + (i + 1))))) (IntKind.i64.wrap (nuW (loN4 k n zz B) n zz (16 + (i + 1)))) = ((chN 0 (sumN k n zz) i / 256 + (tagN (pkN k) n zz (i + 1) + k (16 + (i + 1))) : Nat) : Int)
    have hq : arith .quo .i64 ((chN 0 (sumN k n zz) i : Nat) : Int) ((256 : Nat) : Int) = ((chN 0 (sumN k n zz) i / 256 : Nat) : Int) := by
      show IntKind.i64.wrap (((chN 0 (sumN k n zz) i : Nat) : Int).tdiv ((256 : Nat) : Int)) = _
      rw [show ((chN 0 (sumN k n zz) i : Nat) : Int).tdiv ((256 : Nat) : Int) = ((chN 0 (sumN k n zz) i / 256 : Nat) : Int) from rfl, i64_w _ (by omega)]
    rw [h3, hq, nuN_5 h, nuN_K (by omega), i64_w _ (by omega), i64_w _ (by omega), i64_add _ _ (by omega), i64_add _ _ (by omega), Nat.add_assoc]
theorem fEn_hold {X o : Nat} (ho : ∀ j, j < 16 → nuW (loN4 k n zz B) n zz (o + j) = (tagN k n zz j : Int)) {l : List (BinOp × AI × AI × Bool)} (hk : ∀ j, k j < 256) (hX : IntKind.u64.wrap B = (X : Int)) (hm : X % 22 = m) (hl : ∀ p ∈ l, compare p.1 (p.2.1.val (nuW (loN4 k n zz B) n zz)) (p.2.2.1.val (nuW (loN4 k n zz B) n zz)) = p.2.2.2) : (fEn m o l).Hold (nuW (loN4 k n zz B) n zz) := by
  refine ⟨fun p hp => ?_, fun p hp => ?_, fun p hp => by cases hp⟩
  · simp only [fEn, List.mem_cons, List.not_mem_nil, or_false] at hp
    subst hp
    show (IntKind.u64.wrap (nuW (loN4 k n zz B) n zz 302)).tmod ((22 : Nat) : Int) = _
    rw [nuN_B, hX, ← hm]
    rfl
  · rcases List.mem_append.1 (show p ∈ l ++ ceF o from hp) with hp | hp
    · exact hl p hp
    · obtain ⟨i, hi, rfl⟩ := List.mem_map.1 hp
      have hi := List.mem_range.1 hi
      show (nuW (loN4 k n zz B) n zz (o + i) != IntKind.u8.wrap ((ceA i).val (nuW (loN4 k n zz B) n zz))) = false
      rw [ho i hi, (ce_num hk i hi).1, w_u8, tag_sum hk hi]
      exact bne_self_eq_false _
theorem enM_ok (hm : m < 22) (hk : ∀ j, k j < 256) (hz : ∀ j, zz j < 256) (hn : n < 1000000000) {x : AV} {nd : Gl} {b o : Nat} (ho : ∀ j, j < 16 → nuW (loN4 k n zz B) n zz (o + j) = (tagN k n zz j : Int)) (hx : IsText (nuW (loN4 k n zz B) n zz) nd x n (fun j => (zz j : Int))) : ∀ r ∈ enM x nd b m o, r.Ok (nuW (loN4 k n zz B) n zz) Try.prog [] := by
  have bt : ∀ (b o : Nat) (need : Gl) (V : Wd), (∀ j, j < 16 → nuW (loN4 k n zz B) n zz (o + j) = V j) → enB b o ∈ need → IsText (nuW (loN4 k n zz B) n zz) need (enS b 0) 16 V := fun b o need V hV hm =>
    isText_row (off := 0) (n := 16) hm (by decide) (by decide) (by decide) fun j hj => by rw [Nat.zero_add, nm_val, hV j hj]
  have kt : ∀ (need : Gl), enK b ∈ need → IsText (nuW (loN4 k n zz B) n zz) need (enS b 16) 16 (fun j => (k (16 + j) : Int)) := fun need hm =>
    isText_row (off := 16) (n := 32) hm (by decide) (by decide) (by decide) fun j hj => by rw [nm_val, Nat.zero_add, nuN_K (by omega)]
  have tr : ∀ {ka g : Nat → AI} {x : AV} {nd : Gl} {n' : Nat} (k' : Nat → Nat), n' < 1000000000 → IsText (nuW (loN4 k n zz B) n zz) nd x n' (fun j => (zz j : Int)) → (∀ j, j < 32 → (ka j).val (nuW (loN4 k n zz B) n zz) = (k' j : Int) ∧ k' j < 256) → (∀ j, j < 16 → (g j).val (nuW (loN4 k n zz B) n zz) = (tagN k' n' zz j : Int)) → (rowTag 8 ka x nd g).Ok (nuW (loN4 k n zz B) n zz) Try.prog [] := fun k' hn' hx hK hg =>
    rowTag_ok (k := k') (zz := zz) tagC hK (fun j hj => ⟨rfl, hz j⟩) hx (by omega) hg
  intro r hr
  simp only [enM, List.mem_cons, List.not_mem_nil, or_false] at hr
  rcases hr with rfl | rfl | rfl | rfl | rfl | rfl | rfl | rfl
  · exact tr (n' := 0) k (by decide) isText_nsl (fun j hj => ⟨by rw [nm_val, Nat.zero_add, nuN_K hj], hk j⟩) fun j hj => by rw [nm_val, nuN_1 hj, tag_none hk hj]
  · refine tr (zkN k) hn hx (fun j hj => ?_) fun j hj => ?_
    · unfold zkA zkN
      by_cases c : j < 16
      · rw [if_pos (by simpa using c), if_pos c]
        exact ⟨rfl, by decide⟩
      · rw [if_neg (by simpa using c), if_neg c]
        exact ⟨nuN_K hj, hk j⟩
    · have hr : rN (zkN k) = 0 := dv_zero fun j hj => by
        unfold hfN zkN
        rw [if_pos hj]
        split
        · rfl
        · split <;> rfl
      have hz9 : ∀ j, zkN k j < 256 := fun j => by
        unfold zkN
        split
        · decide
        · exact hk j
      rw [nm_val, nuN_2 hj, tag_r0 hr hz9 hj]
      unfold zkN
      rw [if_neg (by omega)]
  · exact tr k hn hx (fun j hj => ⟨by rw [nm_val, Nat.zero_add, nuN_K hj], hk j⟩) fun j hj => by rw [nm_val, nuN_3 hj]
  · refine tr (okN m k) hn hx (fun j hj => ⟨?_, okN_lt hm hk j⟩) fun j hj => ?_
    · unfold okA okN
      by_cases c : j = fP m
      · rw [if_pos (by simpa using c), if_pos c]
        show arith .xor .u8 (nuW (loN4 k n zz B) n zz j) ((fB2 m : Nat) : Int) = _
        rw [nuN_K hj]
        have h := okQ_at hm (hk j)
        simp only [okQ, Bool.and_eq_true, decide_eq_true_eq] at h
        have := h.1.1.1
        omega
      · rw [if_neg (by simpa using c), if_neg c]
        exact nuN_K hj
    · rw [nm_val, nuN_4 hj]
      exact congrArg (fun n : Nat => (n : Int)) (tag_key (fun j _ => (okN_hf hm hk j).symm) fun j _ => (okN_hi hm hk j).symm)
  · refine tr (pkN k) hn hx (fun j hj => ?_) fun j hj => by rw [nm_val, nuN_5 hj]
    unfold pkA pkN
    by_cases c : j < 16
    · rw [if_pos (by simpa using c), if_pos c]
      exact ⟨nuN_K hj, hk j⟩
    · rw [if_neg (by simpa using c), if_neg c]
      exact ⟨rfl, by decide⟩
  · exact rowEq_T (bt (b + 1) 100 _ _ (fun j hj => nuN_1 hj) (by simp)) (kt _ (by simp)) (by decide) (by decide)
  · exact rowEq_T (bt (b + 3) 120 _ _ (fun j hj => nuN_2 hj) (by simp)) (kt _ (by simp)) (by decide) (by decide)
  · exact rowEq_T (bt (b + 4) o _ _ ho (by simp)) (bt (b + 7) 160 _ _ (fun j hj => nuN_4 hj) (by simp)) (by decide) (by decide)
end
theorem polyEnds_law {W : World} {v : Value} {zs : List Int} (hv : ReadsAs W .u8 v zs) (hw : ∀ z ∈ zs, (Lit.int .u8 z).wf = true) (zk : List Int) (lk : zk.length = 32) (B : Int) (hzk : ∀ z ∈ zk, (Lit.int .u8 z).wf = true) (_ : (Lit.int .i64 B).wf = true) :
    Calls Try.prog 4 #[.agg (zk.map (Value.int .u8)).toArray, v, .int .i64 B] W fun e W' => e = .returned (.bool true) ∧ Below W.heap.size W W' := by
  obtain ⟨s, n, pl, hc, _⟩ := came_of hv hw
  obtain ⟨zz, hz8, hzz⟩ := nat_bytes hw
  obtain ⟨k, hk8, hkk⟩ := nat_bytes hzk
  obtain ⟨X, hX⟩ : ∃ X : Nat, IntKind.u64.wrap B = (X : Int) := by
    refine ⟨(B % 18446744073709551616).toNat, ?_⟩
    simp only [IntKind.wrap, IntKind.bits, IntKind.signed]
    simp
    omega
  have hm22 : X % 22 < 22 := Nat.mod_lt _ (by decide)
  rw [aggI_of lk, show (fun j => zk.getD j 0) = fun j => (k j : Int) from funext hkk]
  rw [show (fun i => zs.getD i 0) = fun j => (zz j : Int) from funext hzz] at hc
  have hky : ∀ ρ, VR (nuW (loN4 k n zz B) n zz) ρ kyS (aggI .u8 32 fun j => (k j : Int)) := fun ρ => (conc2_vr (keyS_val fun j hj => nuN_K hj)).1
  have args : ∀ {ρ : Emb} {x : AV}, VR (nuW (loN4 k n zz B) n zz) ρ x v → LR (nuW (loN4 k n zz B) n zz) ρ (enA x) #[aggI .u8 32 fun j => (k j : Int), v, .int .i64 B] := fun {ρ x} hx => by
    have hbs : VR (nuW (loN4 k n zz B) n zz) ρ (.i .i64 (.s 302)) (.int .i64 ((AI.s 302).val (nuW (loN4 k n zz B) n zz))) := .i _ _
    rw [show (AI.s 302).val (nuW (loN4 k n zz B) n zz) = B from nuN_B] at hbs
    exact lr_of (vs := [_, _, _]) ⟨hky _, hx, hbs, trivial⟩
  have hT : ∀ r ∈ [rowWk], r.Ok (nuW (loN4 k n zz B) n zz) Try.prog := fun r hr => by
    simp only [List.mem_cons, List.not_mem_nil, or_false] at hr
    subst hr
    exact rowWk_ok
  by_cases hm : 1000 < n
  · cases s
    · have : n = 0 := hc.2.1
      omega
    · have : n = 0 := hc.2.1
      omega
    · obtain ⟨va, nd⟩ := hc.here0 (ν := nuW (loN4 k n zz B) n zz) (gp := at1' 64 pl) (blk := 64) (k := 301) (by decide) (if_pos rfl) nuN_n
      refine yes_ofN (law_rowT (by decide) ⟨fun p hp => (by cases hp), fun p hp => ?_, fun p hp => by cases hp⟩ (fun r hr => by cases hr) (fun r hr => by cases hr) en_over (gl0_need (by decide)) (by kernel_rfl)) (fun p hp => by cases hp) nd (args va)
      simp only [List.mem_cons, List.not_mem_nil, or_false] at hp
      subst hp
      show decide (nuW (loN4 k n zz B) n zz 301 > ((1000 : Nat) : Int)) = true
      rw [nuN_n]
      exact decide_eq_true (by omega)
  · cases s
    · have h0 : n = 0 := hc.2.1
      subst h0
      have h100 : ∀ j, j < 16 → nuW (loN4 k 0 zz B) 0 zz (100 + j) = (tagN k 0 zz j : Int) := fun j hj => by rw [nuN_1 hj, tag_none hk8 hj]
      exact yes_ofN (ρ := embF fun _ => none) (law_rowT (by decide) (fEn_hold h100 hk8 hX rfl fun p hp => by cases hp) hT (enM_ok hm22 hk8 hz8 (by decide) h100 isText_nsl) (List.all_eq_true.1 en_E1 _ (List.mem_range.2 hm22)) (fun p hp => by cases hp) (by kernel_rfl)) (fun p hp => by cases hp) (fun p hp => by cases hp) (args (by rw [hc.1]; exact .nsl))
    · have h0 : n = 0 := hc.2.1
      subst h0
      obtain ⟨a, cp, rfl⟩ := hc.1
      exact yes_ofN (ρ := embF fun _ => none) (law_rowT (by decide) (fEn_hold (fun j hj => nuN_3 hj) hk8 hX rfl fun p hp => by cases hp) hT (enM_ok hm22 hk8 hz8 (by decide) (fun j hj => nuN_3 hj) isText_sle) (List.all_eq_true.1 en_E2 _ (List.mem_range.2 hm22)) (fun p hp => by cases hp) (by kernel_rfl)) (fun p hp => by cases hp) (fun p hp => by cases hp) (args (.sle _ _ _ (fun h => by cases h)))
    · have h0 := hc.fits
      obtain ⟨va, nd⟩ := hc.here (ν := nuW (loN4 k n zz B) n zz) (gp := at1' 64 pl) (blk := 64) (T := tg 2) (by decide) (if_pos rfl) (tgT (by decide) (by decide)) (tg_Ke (by decide)) (nuW_L (by decide)) (fun j hj => nuW_B (by decide) (by omega))
      have ht : IsText (nuW (loN4 k n zz B) n zz) [pn 64 2] (ps 64 2) n (fun j => (zz j : Int)) := isText_pin List.mem_cons_self (tgT (by decide) (by decide)) (tg_Ke (by decide)) h0 (nuW_L (by decide)) fun j hj => nuW_B (by decide) (by omega)
      refine yes_ofN (law_rowT (by decide) (fEn_hold (fun j hj => nuN_3 hj) hk8 hX rfl fun p hp => ?_) hT (enM_ok hm22 hk8 hz8 (by omega) (fun j hj => nuN_3 hj) ht) (List.all_eq_true.1 en_T _ (List.mem_range.2 hm22)) pn_need (by kernel_rfl)) (fun p hp => by cases hp) (fun p hp => ?_) (args va)
      · simp only [enG, List.mem_cons, List.not_mem_nil, or_false] at hp
        subst hp
        show decide (nuW (loN4 k n zz B) n zz (pinL (tg 2)) > ((1000 : Nat) : Int)) = false
        rw [nuW_L (by decide)]
        exact decide_eq_false (by omega)
      · simp only [List.mem_cons, List.not_mem_nil, or_false] at hp
        subst hp
        obtain ⟨_, _, pl', q3, q4⟩ := nd _ List.mem_cons_self
        exact ⟨pl', (embF_other (by decide)).trans q3, q4⟩

theorem polyEnds_lifted (os : Os) (started : os.Started) (H : Type) (enc : TypeId × Value → H) :
    ReturnsInHanded {} Try.checked os 4 .any (Rows.polyEndsSpec.pre6 enc Try.prog Try.f4 Rows.polyEndsRow.domain false) (Rows.polyEndsSpec.post enc Try.prog Try.f4 false true false false) := by
  refine returnsInHanded_of_change (C := Try.checked) own started (by kernel_rfl) Try.func4
    (ChangeSpec.witness6 (enc := enc) (C := Try.checked) false ⟨#[], #[(.agg (List.replicate 32 (.int .u8 0)).toArray), .slice none 0 0, .int .i64 0], []⟩ 8 (by kernel_rfl) (by kernel_rfl) (by kernel_rfl) (by kernel_rfl)) ?_
  intro W base args ds gs before hval0 hW hcnd _
  have hval : ∀ (j : Nat) t v, Try.f4.params[j]? = some t → args[j]? = some v → Value.okWide Try.prog W .any base t v := hval0
  have hW' := hW
  obtain ⟨p, q, hA0, hV, rfl, hfz, hnd⟩ := hW
  have hA : DataW.TrodAll enc Try.prog W 0 (fun _ => true) true Try.f4.params.toList args.toList ds p := hA0
  rw [Try.params4] at hA hval
  obtain ⟨v0, vs0, d0, ds0, p0, q0, hargs, rfl, rfl, h0, r0⟩ := trodAll_cons hA
  obtain ⟨v1, vs1, d1, ds1, p1, q1, rfl, rfl, rfl, h1, r1⟩ := trodAll_cons r0
  obtain ⟨v2, vs2, d2, ds2, p2, q2, rfl, rfl, rfl, h2, r2⟩ := trodAll_cons r1
  obtain ⟨rfl, rfl, rfl⟩ := trodAll_nil r2
  obtain rfl : args = #[v0, v1, v2] := by cases args; simp_all
  obtain ⟨rfl, rfl⟩ := trodVars_none hV
  obtain ⟨z0, l0, rfl, b0, rfl, s0⟩ := open_array Try.underlying22 Try.underlying5 cells1 (by kernel_rfl) (hval 0 _ v0 rfl rfl) h0
  obtain ⟨z1, k1, w1, _⟩ := reads_open Try.underlying23 Try.underlying5 cells1 (hval 1 _ v1 rfl rfl) h1
  obtain ⟨a2, rfl, rfl, rfl, b2⟩ := open_int Try.underlying3 (hval 2 _ v2 rfl rfl) h2
  have s2 := plain_int (H := H) Try.underlying3 b2
  clear hA0 hval0
  simp only [List.append_nil] at hW'
  have hlt : ∀ x ∈ p1, x.block < W.heap.size := fun x hx => hW'.lt x hx
  refine (polyEnds_law k1 w1 z0 l0 a2 b0 b2).mono fun e W' ⟨he, hg⟩ => ?_
  subst he
  exact ⟨_, rfl, post_below (pa := p1) (pv := []) hW' (fun _ _ _ => trodAll_cons_mk (shut_bool Try.underlying4 _) trodAll_mk0) (fun sp hsp => (by have hh := (trodAll_cons_mk (s0 _ _ _ _ _) (trodAll_cons_mk (kept_arg laidOut (by kernel_rfl) (of_decide_eq_true (by kernel_rfl)) h1 hg (fun x hx => hlt x (by simp [hx])) (fun x hx => hsp x (by simp [hx]))) (trodAll_cons_mk (s2 _ _ _ _ _) trodAll_mk0))); simp only [List.append_nil] at hh; exact hh)) (fun _ _ => rfl) (by simp)
    hg (ok_one (by kernel_rfl) rfl (okWide_bool_mk Try.underlying4 _))⟩

/-- THE STATEMENT. -/
theorem polyEnds_holds : Rows.PolyEndsSaid :=
  OpenClaim.holds_of_wide 4 Try.f4 rfl rfl rfl rfl rfl rfl rfl ⟨rfl, rfl, rfl, rfl, rfl⟩ rfl rfl rfl rfl rfl (by kernel_rfl) Try.func4 (by kernel_rfl)
    (of_decide_eq_true (by kernel_rfl)) (by unfold Func.isWrapper; first | (rw [if_pos (by decide +kernel)]; kernel_rfl) | (rw [if_neg (by decide +kernel)]; exact ⟨rfl, rfl⟩))
    (fun os started H enc _ => polyEnds_lifted os started H enc)
#print axioms polyEnds_holds
end Go.Proofs.Ytbdihdncnpajgaa
