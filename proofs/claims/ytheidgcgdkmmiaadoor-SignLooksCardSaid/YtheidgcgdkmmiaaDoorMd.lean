/-
 THE PAGE's side: Kd. Own work.
-/
import Derived.Test.YtheidgcgdkmmiaaDoorMc
namespace Go.Proofs.YtheidgcgdkmmiaaDoor
open Go.Sh
open Go.ChangeShapes Go.WideShapes Go.ChangeAt Go.RowKit
set_option maxRecDepth 100000
/-! Decode, all its cases -/
def decY (P : Pt) : Value := .tuple #[ptn P.x.val P.y.val 1 (P.x * P.y).val, .bool true]
theorem decode_yes (P : Pt) : Pure Tryd.prog 36 [byt (enc P)] (decY P) := by
 obtain ⟨e1, e2⟩ := enc_parts P
 obtain ⟨yy, o, dy, u, i, xx, k⟩ := rdN_is (enc P) (by rw [e1]; exact val_lt _)
 obtain ⟨k1, k2⟩ := qbb k
 have hxx : em xx = P.x * P.x := by
  rw [k1, e1, em_val]
  exact on_xx.symm
 by_cases hx : P.x = 0
 ·have h0 : xx = 0 := by
   have : em xx = 0 := by
    rw [hxx, hx]
    rfl
   have := em_is_zero.1 this
   rwa [Nat.mod_eq_of_lt k2] at this
  have hr : qaL e8 e4 xx = some 0 := root_zero (by rw [h0]; rfl)
  have h := decode_Ze (enc_lt P) k hr (by rw [e2, hx]; decide)
  have a1 : P.x.val = 0 := by rw [hx]; rfl
  have a2 : (P.x * P.y).val = 0 := by
   have : P.x * P.y = 0 := by
    rw [hx]
    grobner
   rw [this]; rfl
  unfold decY
  rw [a1, a2, ← e1]
  exact h
 ·obtain ⟨r, hr⟩ := root_of_sq hxx hx
  obtain ⟨r1, r2, r3⟩ := root_em hr
  have hr0 : r ≠ 0 := fun h0 => by
   rw [h0] at r1
   have : P.x * P.x = 0 := by
    rw [← hxx, ← r1]
    rfl
   rcases fz this with h1 | h1 <;> exact hx h1
  rcases sq_same (r1.trans hxx) with h | h
  ·have hv : r = P.x.val := of_em r2 h
   have ht : r * qaD (enc P) % qaa = (P.x * P.y).val := of_em (qar _) (by rw [qaW, e1, em_val, h])
   have h3 := decode_E (enc_lt P) k hr hr0 r2 ht (by rw [e2, ← hv, r3]; decide)
   unfold decY
   rw [← hv, ← e1]
   exact h3
  ·have hv : r = (-P.x).val := of_em r2 h
   rw [neg_val hx] at hv
   have hpl := val_lt P.x
   have hodd : P.x.val % 2 = 1 := by
    unfold qaa at hv hpl
    omega
   have hx' : (0 + (qaa - r % qaa)) % qaa = P.x.val := of_em (qar _) (by
    rw [em_sub, h, em_zero]
    generalize P.x = x
    grobner)
   have ht : P.x.val * qaD (enc P) % qaa = (P.x * P.y).val := of_em (qar _) (by rw [qaW, e1, em_val, em_val])
   have h3 := decode_O (enc_lt P) k hr hr0 r2 hx' ht (by rw [e2, hodd])
   unfold decY
   rw [← e1]
   exact h3
theorem decode_no {n : Nat} (hn : n < B4) (h : ∀ P, enc P ≠ n) : Pure Tryd.prog 36 [byt n] decNo := by
 by_cases hy : qaD n < qaa
 ·obtain ⟨yy, o, dy, u, i, xx, k⟩ := rdN_is n hy
  obtain ⟨k1, k2⟩ := qbb k
  cases hr : qaL e8 e4 xx with
  | none => exact decode_N hn k hr
  | some r =>
    obtain ⟨r1, r2, r3⟩ := root_em hr
    have hsplit : n = qaD n + qay * (n / qay) := by
     unfold qaD qay
     omega
    have hq : n / qay = 0 ∨ n / qay = 1 := by
     unfold qay
     unfold B4 at hn
     omega
    have hyv : (em (qaD n)).val = qaD n := Nat.mod_eq_of_lt hy
    by_cases hz : n / qay = 1
    ·by_cases h0 : r = 0
     ·subst h0
      exact decode_Zo hn k hr hz
     ·exfalso
      have hx0 : em r ≠ 0 := fun hc => h0 (by
       have := em_is_zero.1 hc
       rwa [Nat.mod_eq_of_lt r2] at this)
      have hs : (-em r) * (-em r) = (em (qaD n) * em (qaD n) - 1) * inv (dE * (em (qaD n) * em (qaD n)) + 1) := by
       rw [← k1, ← r1]
       generalize em r = e
       grobner
      refine h ⟨-em r, em (qaD n), xx_on hs (den_all _)⟩ ?_
      unfold enc
      simp only
      rw [hyv, neg_val hx0]
      have e : (em r).val = r := Nat.mod_eq_of_lt r2
      rw [e]
      have : (qaa - r) % 2 = 1 := by
       unfold qaa at *
       omega
      rw [this, ← hz]
      exact hsplit.symm
    ·exfalso
     have hs : em r * em r = (em (qaD n) * em (qaD n) - 1) * inv (dE * (em (qaD n) * em (qaD n)) + 1) := by rw [← k1, ← r1]
     refine h ⟨em r, em (qaD n), xx_on hs (den_all _)⟩ ?_
     unfold enc
     simp only
     have e : (em r).val = r := Nat.mod_eq_of_lt r2
     rw [hyv, e, r3]
     have h5 := hq.resolve_right hz
     rw [h5] at hsplit
     exact hsplit.symm
 ·exact decode_A n hn hy
/-! names: numbers' bytes, then words -/
theorem nuM_q (m : Nat) (L l : List Nat) (a b c d : Nat) : qag (nuM m L l) (rwQ (8 * m + a) (8 * m + b) (8 * m + c) (8 * m + d)) = some (ptn (l.getD a 0) (l.getD b 0) (l.getD c 0) (l.getD d 0)) := ptn_of (nuM_wel m L l a) (nuM_wel m L l b) (nuM_wel m L l c) (nuM_wel m L l d) ⟨_, _, _, rfl⟩
theorem nuM_qc (m : Nat) (L l : List Nat) (a b c d : Nat) : conc (nuM m L l) (rwQ (8 * m + a) (8 * m + b) (8 * m + c) (8 * m + d)) = some (ptn (l.getD a 0) (l.getD b 0) (l.getD c 0) (l.getD d 0)) := nuM_q m L l a b c d
/-! Encode -/
def nuv (l : List Nat) (b : Nat) : Nat → Int := fun k => if k < 28 then nuw l k else nub [b] (k - 28)
theorem nuv_b (l : List Nat) (b : Nat) : ∀ i, i < 32 → nuv l b (28 + i) = (((byL b).getD i 0 : Nat) : Int) := by
 intro i hi
 have h := qbj [b] 0 i hi
 rw [Nat.mul_zero, Nat.zero_add, List.getD_cons_zero] at h
 unfold nuv
 rw [if_neg (by omega), Nat.add_sub_cancel_left]
 exact h
theorem nuv_wel (l : List Nat) (b j : Nat) (hj : j < 7) : qap (nuv l b) (wel j) = some ((numL (l.getD j 0)).map u64) := by
 have h : qai (nuw l) (wel j) = some (welV (l.getD j 0)) := nuw_wel l j
 have e : ∀ i, i < 4 → nuv l b (4 * j + i) = nuw l (4 * j + i) := by
  intro i hi
  unfold nuv
  rw [if_pos (by omega)]
 show some [Value.int .u64 (nuv l b (4 * j + 0)), .int .u64 (nuv l b (4 * j + 1)), .int .u64 (nuv l b (4 * j + 2)), .int .u64 (nuv l b (4 * j + 3))] = _
 rw [e 0 (by decide), e 1 (by decide), e 2 (by decide), e 3 (by decide)]
 exact h
theorem nuv_w (l : List Nat) (b j : Nat) (hj : j < 7) : qag (nuv l b) (rw4 j) = some (num (l.getD j 0)) := by
 show (qap (nuv l b) (wel j)).map (fun vs => Value.agg vs.toArray) = _
 rw [nuv_wel l b j hj]
 rfl
theorem nuv_wc (l : List Nat) (b j : Nat) (hj : j < 7) : conc (nuv l b) (rw4 j) = some (num (l.getD j 0)) := nuv_w l b j hj
theorem nuv_q (l : List Nat) (b : Nat) : qag (nuv l b) (rwQ 0 1 2 3) = some (ptn (l.getD 0 0) (l.getD 1 0) (l.getD 2 0) (l.getD 3 0)) := ptn_of (nuv_wel l b 0 (by decide)) (nuv_wel l b 1 (by decide)) (nuv_wel l b 2 (by decide)) (nuv_wel l b 3 (by decide)) ⟨_, _, _, rfl⟩
def bL28 : List AV := (List.range 32).map fun i => bt (28 + i)
def bO28 : List AV := (List.range 31).map (fun i => bt (28 + i)) ++ [.i .u8 (.e .or .u8 (.s 59) (.c (.ofNat 128)))]
theorem bL28_v (l : List Nat) (b : Nat) : conc (nuv l b) (.ag bL28) = some (byt b) := by
 have e := mid_conc (ν := nuv l b) (j := 28) 32 (byL b) (nuv_b l b) rfl [] [] rfl
 rw [List.append_nil, List.append_nil] at e
 show (qap (nuv l b) ((List.range 32).map fun i => bt (28 + i))).map (fun vs => Value.agg vs.toArray) = _
 rw [e]
 rfl
theorem bO28_v (l : List Nat) (y x : Nat) (ly : y < qay) (hx : x % 2 = 1) : conc (nuv l y) (.ag bO28) = some (byt (y + qay * (x % 2))) := by
 have h31 := nuv_b l y 31 (by decide)
 rw [byL_get y 31 (by decide)] at h31
 have l31 : y / 452312848583266388373324160190187140051835877600158453279131187530910662656 % 256 < 128 := by
  unfold qay at ly
  omega
 have e31 : qap (nuv l y) [.i .u8 (.e .or .u8 (.s 59) (.c (.ofNat 128)))] = some [u8 (y / 452312848583266388373324160190187140051835877600158453279131187530910662656 % 256 + x % 2 * 128)] := by
  show some [Value.int .u8 (qaj .or .u8 (nuv l y (28 + 31)) ((128 : Nat) : Int))] = _
  have e1 : (y / 2 ^ (8 * 31) % 256 : Nat) = y / 452312848583266388373324160190187140051835877600158453279131187530910662656 % 256 := rfl
  rw [h31, e1, a_or8 _ _ (by omega) (by decide), show (128 : Nat) = 1 * 128 from rfl, or128 l31, hx]
  rfl
 have em := mid_conc (ν := nuv l y) (j := 28) 31 ((byL y).take 31) (fun m hm => by
  rw [nuv_b l y m (by omega)]
  simp [List.getD_eq_getElem?_getD, hm]) (by simp [qaX]) _ _ e31
 have hb := byL_enc x y ly
 show (qap (nuv l y) ((List.range 31).map (fun m => bt (28 + m)) ++ [.i .u8 (.e .or .u8 (.s 59) (.c (.ofNat 128)))])).map (fun vs => Value.agg vs.toArray) = _
 rw [em]
 show some (Value.agg _) = some (Value.agg ((byL (y + qay * (x % 2))).map u8).toArray)
 rw [hb]
 simp
def enT : List Row := [⟨67, [rw4 2], rw4 4⟩, ⟨64, [rw4 0, rw4 4], rw4 5⟩, ⟨64, [rw4 1, rw4 4], rw4 6⟩, ⟨19, [rw4 6], .ag bL28⟩]
def odE (b : Bool) : BinOp × AI × AI × Bool := (.eql, .e .and .u64 (.s 20) (.c (.ofNat 1)), .c (.ofNat 1), b)
theorem enO_says : says ⟨[], [odE true], []⟩ tree enT 200 4 51 [rwQ 0 1 2 3] (qaA [] gmax) (.ag bO28) = true := by kernel_rfl
theorem enE_says : says ⟨[], [odE false], []⟩ tree enT 200 4 51 [rwQ 0 1 2 3] (qaA [] gmax) (.ag bL28) = true := by kernel_rfl
theorem odE_hold {a b c d i x y : Nat} (t : Bool) (h : decide (x % 2 = 1) = t) : Facts.Hold ⟨[], [odE t], []⟩ (nuv [a, b, c, d, i, x, y] y) :=
 ⟨fun q hq => (by cases hq), fun q hq => (by
  simp only [List.mem_cons, List.not_mem_nil, or_false] at hq
  subst hq
  show (qaj .and .u64 (nuv [a, b, c, d, i, x, y] y 20) ((1 : Nat) : Int) == ((1 : Nat) : Int)) = t
  have e : nuv [a, b, c, d, i, x, y] y 20 = ((x % 18446744073709551616 : Nat) : Int) := rfl
  rw [e, a_mask _ 1 1 rfl (by decide), Nat.pow_one, ← h]
  have e2 : x % 18446744073709551616 % 2 = x % 2 := by omega
  rw [e2]
  by_cases hx : x % 2 = 1
  ·simp only [hx, decide_true]; rfl
  ·have : x % 2 = 0 := by omega
   simp only [this]; decide), fun q hq => by cases hq⟩
theorem enT_ok (a b c d i x y : Nat) (la : a < B4) (lb : b < B4) (lc : c < B4) (hi : c ^ qbg % qaa = i) (hx : a * i % qaa = x) (hy : b * i % qaa = y) : ∀ r ∈ enT, r.Ok (nuv [a, b, c, d, i, x, y] y) Tryd.prog := by
 have li : i < B4 := hi ▸ qah _
 intro r hr
 simp only [enT, List.mem_cons, List.not_mem_nil, or_false] at hr
 rcases hr with rfl | rfl | rfl | rfl
 ·exact rowInvW lc (nuv_w _ _ 2 (by decide)) (by rw [hi]; exact nuv_wc _ _ 4 (by decide))
 ·exact qaH la li (nuv_w _ _ 0 (by decide)) (nuv_w _ _ 4 (by decide)) (by rw [hx]; exact nuv_wc _ _ 5 (by decide))
 ·exact qaH lb li (nuv_w _ _ 1 (by decide)) (nuv_w _ _ 4 (by decide)) (by rw [hy]; exact nuv_wc _ _ 6 (by decide))
 ·exact ⟨[num y], byt y, by simp [qai, nuv_w [a, b, c, d, i, x, y] y 6 (by decide)], bL28_v _ _, Bytes_ok y⟩
theorem encode_core (a b c d i x y : Nat) (la : a < B4) (lb : b < B4) (lc : c < B4) (hi : c ^ qbg % qaa = i) (hx : a * i % qaa = x) (hy : b * i % qaa = y) : Pure Tryd.prog 51 [ptn a b c d] (byt (y + qay * (x % 2))) := by
 have ly : y < qay := Nat.lt_trans (hy ▸ qar _) (by decide)
 by_cases ho : x % 2 = 1
 ·exact qan (ν := nuv [a, b, c, d, i, x, y] y) (args := [rwQ 0 1 2 3]) (odE_hold true (decide_eq_true ho)) qak qaf (enT_ok a b c d i x y la lb lc hi hx hy) enO_says (by simp [qai, nuv_q]) (bO28_v _ y x ly ho)
 ·refine qan (ν := nuv [a, b, c, d, i, x, y] y) (args := [rwQ 0 1 2 3]) (odE_hold false (decide_eq_false ho)) qak qaf (enT_ok a b c d i x y la lb lc hi hx hy) enE_says (by simp [qai, nuv_q]) ?_
  have h0 : x % 2 = 0 := by omega
  rw [h0, Nat.mul_zero, Nat.add_zero]
  exact bL28_v _ _
theorem encode_ok {a b c d : Nat} (la : a < B4) (lb : b < B4) (lc : c < B4) {P : Pt} (h : Rep (em4 a b c d) P) : Pure Tryd.prog 51 [ptn a b c d] (byt (enc P)) := by
 have k := encode_core a b c d _ _ _ la lb lc rfl rfl rfl
 obtain ⟨h1, h2⟩ := rep_xy h
 have ex : a * (c ^ qbg % qaa) % qaa = P.x.val := by
  refine of_em (qar _) ?_
  rw [qaW, expI_is, em_inv]
  exact h1
 have ey : b * (c ^ qbg % qaa) % qaa = P.y.val := by
  refine of_em (qar _) ?_
  rw [qaW, expI_is, em_inv]
  exact h2
 rw [ex, ey] at k
 exact k
theorem rowEnc {ν : Nat → Int} {p r : AV} {a b c d e : Nat} (la : a < B4) (lb : b < B4) (lc : c < B4) {P : Pt} (h : Rep (em4 a b c d) P) (he : enc P = e) (h1 : qag ν p = some (ptn a b c d)) (h2 : conc ν r = some (byt e)) : Row.Ok ν Tryd.prog ⟨51, [p], r⟩ := ⟨[ptn a b c d], _, by simp [qai, h1], h2, he ▸ encode_ok la lb lc h⟩
theorem rowDecY {ν : Nat → Int} {p r : AV} {n : Nat} {P : Pt} (hp : enc P = n) (h1 : qag ν p = some (byt n)) (h2 : qag ν r = some (ptn P.x.val P.y.val 1 (P.x * P.y).val)) : Row.Ok ν Tryd.prog ⟨36, [p], .tp [r, .b true]⟩ := ⟨[byt n], decY P, by simp [qai, h1], tp2 true h2, hp ▸ decode_yes P⟩
theorem rowDecN {ν : Nat → Int} {p : AV} {n : Nat} (hn : n < B4) (h : ∀ P, enc P ≠ n) (h1 : qag ν p = some (byt n)) : Row.Ok ν Tryd.prog ⟨36, [p], dcNo⟩ := ⟨[byt n], decNo, by simp [qai, h1], dcNo_val ν, decode_no hn h⟩
/-! base -/
def i5 : Nat := 11579208923731619542357098500868790785326998466564056403945758400791312963990
theorem i5_is : 5 ^ qbg % qaa = i5 := by
 rw [← pm_eq 256 5 qbg (by decide)]
 decide +kernel
theorem enc_B : enc pB0 = bYn := by decide +kernel
def pbT : List Row := [⟨67, [kN 5], kN i5⟩, ⟨64, [kN 4, kN i5], kN bYn⟩, ⟨19, [kN bYn], kB bYn⟩, ⟨36, [kB bYn], .tp [rwQ 0 1 2 3, .b true]⟩]
theorem pb_says : says qae tree pbT 200 4 54 [] (qaA [] gmax) (rwQ 0 1 2 3) = true := by kernel_rfl
theorem pb_core (x y z t : Nat) (h : Pure Tryd.prog 36 [byt bYn] (.tuple #[ptn x y z t, .bool true])) : Pure Tryd.prog 54 [] (ptn x y z t) := by
 refine qan (ν := nuw [x, y, z, t]) (args := []) (qab _) qak qaf (fun r hr => ?_) pb_says rfl (nuwQc _ 0 1 2 3)
 simp only [pbT, List.mem_cons, List.not_mem_nil, or_false] at hr
 rcases hr with rfl | rfl | rfl | rfl
 ·exact rowInvW (x := 5) (by decide) (qbk _ _) (by rw [i5_is]; exact kN_valc _ _)
 ·exact qaH (x := 4) (y := i5) (by decide) (by decide) (qbk _ _) (qbk _ _) (by rw [show 4 * i5 % qaa = bYn by decide +kernel]; exact kN_valc _ _)
 ·exact ⟨[num bYn], byt bYn, by simp [qai, qbk], kB_valc _ _, Bytes_ok _⟩
 ·exact ⟨[byt bYn], _, by simp [qai, qbz], tp2 true (nuwQ _ 0 1 2 3), h⟩
theorem decB (P : Pt) (n : Nat) (h : enc P = n) : Pure Tryd.prog 36 [byt n] (.tuple #[ptn P.x.val P.y.val 1 (P.x * P.y).val, .bool true]) := h ▸ decode_yes P
theorem pbase_ok (P : Pt) (h : enc P = bYn) : Pure Tryd.prog 54 [] (ptn P.x.val P.y.val 1 (P.x * P.y).val) := pb_core _ _ _ _ (decB P bYn h)
/-! Sum, Times, Base -/
def decR (j k : Nat) : Row := ⟨36, [rw8 j], .tp [rwQ k (k + 1) (k + 2) (k + 3), .b true]⟩
def decF (j : Nat) : Row := ⟨36, [rw8 j], dcNo⟩
def smY : List Row := [decR 0 24, decR 1 28, ⟨69, [], kN dNat⟩, ⟨70, [rwQ 24 25 26 27, rwQ 28 29 30 31, kN dNat], rwQ 32 33 34 35⟩, ⟨51, [rwQ 32 33 34 35], rw8 2⟩]
theorem smY_says : says qae tree smY 200 4 38 [rw8 0, rw8 1] (qaA [] gmax) (.tp [rw8 2, .b true]) = true := by kernel_rfl
theorem sum_core (n m : Nat) (P Q R : Pt) (e X Y Z T : Nat) (hP : enc P = n) (hQ : enc Q = m) (he : enc R = e) (lX : X < qaa) (lY : Y < qaa) (lZ : Z < qaa) (hR : Rep (em4 X Y Z T) R) (h : Pure Tryd.prog 70 [ptn P.x.val P.y.val 1 (P.x * P.y).val, ptn Q.x.val Q.y.val 1 (Q.x * Q.y).val, num dNat] (ptn X Y Z T)) : Pure Tryd.prog 38 [byt n, byt m] (.tuple #[byt e, .bool true]) := by
 have q1 := nuM_q 3 [n, m, e] [P.x.val, P.y.val, 1, (P.x * P.y).val, Q.x.val, Q.y.val, 1, (Q.x * Q.y).val, X, Y, Z, T] 0 1 2 3
 have q2 := nuM_q 3 [n, m, e] [P.x.val, P.y.val, 1, (P.x * P.y).val, Q.x.val, Q.y.val, 1, (Q.x * Q.y).val, X, Y, Z, T] 4 5 6 7
 have q3 := nuM_q 3 [n, m, e] [P.x.val, P.y.val, 1, (P.x * P.y).val, Q.x.val, Q.y.val, 1, (Q.x * Q.y).val, X, Y, Z, T] 8 9 10 11
 have q3' := nuM_qc 3 [n, m, e] [P.x.val, P.y.val, 1, (P.x * P.y).val, Q.x.val, Q.y.val, 1, (Q.x * Q.y).val, X, Y, Z, T] 8 9 10 11
 refine qan (ν := nuM 3 [n, m, e] [P.x.val, P.y.val, 1, (P.x * P.y).val, Q.x.val, Q.y.val, 1, (Q.x * Q.y).val, X, Y, Z, T]) (args := [rw8 0, rw8 1]) (qab _) qak qaf (fun r hr => ?_) smY_says (by simp [qai, nuM_b]) (tp2 true (nuM_b 3 _ _ 2 (by decide)))
 simp only [smY, decR, List.mem_cons, List.not_mem_nil, or_false] at hr
 rcases hr with rfl | rfl | rfl | rfl | rfl
 ·exact rowDecY hP (nuM_b 3 _ _ 0 (by decide)) q1
 ·exact rowDecY hQ (nuM_b 3 _ _ 1 (by decide)) q2
 ·exact rowD
 ·exact rowPlus h q1 q2 q3'
 ·exact rowEnc (pBl lX) (pBl lY) (pBl lZ) hR he q3 (nuM_bc 3 _ _ 2 (by decide))
theorem Sum_yes (n m e : Nat) (P Q : Pt) (hP : enc P = n) (hQ : enc Q = m) (he : enc (P.add Q) = e) : Pure Tryd.prog 38 [byt n, byt m] (.tuple #[byt e, .bool true]) := by
 obtain ⟨X, Y, Z, T, lX, lY, lZ, lT, e1, r1⟩ := plusR_ok P.x.val P.y.val 1 (P.x * P.y).val Q.x.val Q.y.val 1 (Q.x * Q.y).val (vB _) (vB _) (by decide) (vB _) (vB _) (vB _) (by decide) (vB _)
 have hrep : Rep (em4 X Y Z T) (P.add Q) := by
  rw [e1]
  exact fadd_rep (rep_read P) (rep_read Q)
 exact sum_core n m P Q _ e X Y Z T hP hQ he lX lY lZ hrep r1
def tmYT : List Row := [decR 1 25, ⟨53, [rw8 0], rw4 24⟩, ⟨52, [rw4 24, rwQ 25 26 27 28], rwQ 29 30 31 32⟩, ⟨51, [rwQ 29 30 31 32], rw8 2⟩]
theorem tmY_says : says qae tree tmYT 200 4 37 [rw8 0, rw8 1] (qaA [] gmax) (.tp [rw8 2, .b true]) = true := by kernel_rfl
theorem tmN_says : says qae tree [decF 1] 200 4 37 [rw8 0, rw8 1] (qaA [] gmax) (.tp [kB 0, .b false]) = true := by kernel_rfl
theorem rowMult {ν : Nat → Int} {p q r : AV} {n a b c d x y z t : Nat} (h : Pure Tryd.prog 52 [num n, ptn a b c d] (ptn x y z t)) (h1 : qag ν p = some (num n)) (h2 : qag ν q = some (ptn a b c d)) (h3 : conc ν r = some (ptn x y z t)) : Row.Ok ν Tryd.prog ⟨52, [p, q], r⟩ := ⟨[num n, ptn a b c d], _, by simp [qai, h1, h2], h3, h⟩
theorem ptimes_core (n m : Nat) (P R : Pt) (e x y t X Y Z T : Nat) (hP : enc P = m) (hx : P.x.val = x) (hy : P.y.val = y) (ht : (P.x * P.y).val = t) (he : enc R = e) (lX : X < B4) (lY : Y < B4) (lZ : Z < B4) (hR : Rep (em4 X Y Z T) R) (h : Pure Tryd.prog 52 [num n, ptn x y 1 t] (ptn X Y Z T)) : Pure Tryd.prog 37 [byt n, byt m] (.tuple #[byt e, .bool true]) := by
 have q1 := nuM_q 3 [n, m, e] [n, x, y, 1, t, X, Y, Z, T] 1 2 3 4
 have q3 := nuM_q 3 [n, m, e] [n, x, y, 1, t, X, Y, Z, T] 5 6 7 8
 have q3' := nuM_qc 3 [n, m, e] [n, x, y, 1, t, X, Y, Z, T] 5 6 7 8
 refine qan (ν := nuM 3 [n, m, e] [n, x, y, 1, t, X, Y, Z, T]) (args := [rw8 0, rw8 1]) (qab _) qak qaf (fun r hr => ?_) tmY_says (by simp [qai, nuM_b]) (tp2 true (nuM_b 3 _ _ 2 (by decide)))
 simp only [tmYT, decR, List.mem_cons, List.not_mem_nil, or_false] at hr
 rcases hr with rfl | rfl | rfl | rfl
 ·exact rowDecY hP (nuM_b 3 _ _ 1 (by decide)) (by rw [hx, hy, ht]; exact q1)
 ·exact rowOfP (nuM_b 3 _ _ 0 (by decide)) (nuM_wc 3 _ _ 0)
 ·exact rowMult h (nuM_w 3 _ _ 0) q1 q3'
 ·exact rowEnc lX lY lZ hR he q3 (nuM_bc 3 _ _ 2 (by decide))
theorem ptimes_s (n m e : Nat) (P R : Pt) (s : P4) (hs : qaM (em4 P.x.val P.y.val 1 (P.x * P.y).val) n 256 = s) (hP : enc P = m) (he : enc R = e) (hR : Rep s R) : Pure Tryd.prog 37 [byt n, byt m] (.tuple #[byt e, .bool true]) := by
 have hR' : Rep (em4 s.x.val s.y.val s.z.val s.t.val) R := by rw [em4_of]; exact hR
 exact ptimes_core n m P R e _ _ _ _ _ _ _ hP rfl rfl rfl he (vB _) (vB _) (vB _) hR' (multiple_ok n _ _ _ _ (vB _) (vB _) (by decide) (vB _) s hs)
theorem PTimes_yes (n m e : Nat) (hn : n < B4) (P : Pt) (hP : enc P = m) (he : enc (smul n P) = e) : Pure Tryd.prog 37 [byt n, byt m] (.tuple #[byt e, .bool true]) :=
 ptimes_s n m e P _ _ rfl hP he (ftimes_all (rep_read P) (by rw [← B4_is]; exact hn))
theorem PTimes_no (n m : Nat) (hm : m < B4) (h : ∀ P, enc P ≠ m) : Pure Tryd.prog 37 [byt n, byt m] (.tuple #[byt 0, .bool false]) := by
 refine qan (ν := nuM 3 [n, m, 0] []) (args := [rw8 0, rw8 1]) (qab _) qak qaf (fun r hr => ?_) tmN_says (by simp [qai, nuM_b]) (tp2 false (qbz _ 0))
 simp only [decF, List.mem_cons, List.not_mem_nil, or_false] at hr
 subst hr
 exact rowDecN hm h (nuM_b 3 _ _ 1 (by decide))
def pBT : List Row := [⟨53, [rw8 0], rw4 24⟩, ⟨54, [], rwQ 25 26 27 28⟩, ⟨52, [rw4 24, rwQ 25 26 27 28], rwQ 29 30 31 32⟩, ⟨51, [rwQ 29 30 31 32], rw8 2⟩]
theorem pB_says : says qae tree pBT 200 4 27 [rw8 0] (qaA [] gmax) (rw8 2) = true := by kernel_rfl
theorem pbase_core (n : Nat) (R : Pt) (e x y z t X Y Z T : Nat) (hb : Pure Tryd.prog 54 [] (ptn x y z t)) (he : enc R = e) (lX : X < B4) (lY : Y < B4) (lZ : Z < B4) (hR : Rep (em4 X Y Z T) R) (h : Pure Tryd.prog 52 [num n, ptn x y z t] (ptn X Y Z T)) : Pure Tryd.prog 27 [byt n] (byt e) := by
 have q1 := nuM_q 3 [n, 0, e] [n, x, y, z, t, X, Y, Z, T] 1 2 3 4
 have q1' := nuM_qc 3 [n, 0, e] [n, x, y, z, t, X, Y, Z, T] 1 2 3 4
 have q3 := nuM_q 3 [n, 0, e] [n, x, y, z, t, X, Y, Z, T] 5 6 7 8
 have q3' := nuM_qc 3 [n, 0, e] [n, x, y, z, t, X, Y, Z, T] 5 6 7 8
 refine qan (ν := nuM 3 [n, 0, e] [n, x, y, z, t, X, Y, Z, T]) (args := [rw8 0]) (qab _) qak qaf (fun r hr => ?_) pB_says (by simp [qai, nuM_b]) (nuM_bc 3 _ _ 2 (by decide))
 simp only [pBT, List.mem_cons, List.not_mem_nil, or_false] at hr
 rcases hr with rfl | rfl | rfl | rfl
 ·exact rowOfP (nuM_b 3 _ _ 0 (by decide)) (nuM_wc 3 _ _ 0)
 ·exact ⟨[], _, rfl, q1', hb⟩
 ·exact rowMult h (nuM_w 3 _ _ 0) q1 q3'
 ·exact rowEnc lX lY lZ hR he q3 (nuM_bc 3 _ _ 2 (by decide))
theorem pbase_s (n e : Nat) (P R : Pt) (s : P4) (hB : enc P = bYn) (hs : qaM (em4 P.x.val P.y.val 1 (P.x * P.y).val) n 256 = s) (he : enc R = e) (hR : Rep s R) : Pure Tryd.prog 27 [byt n] (byt e) := by
 have hR' : Rep (em4 s.x.val s.y.val s.z.val s.t.val) R := by rw [em4_of]; exact hR
 exact pbase_core n R e _ _ _ _ _ _ _ _ (pbase_ok P hB) he (vB _) (vB _) (vB _) hR' (multiple_ok n _ _ _ _ (vB _) (vB _) (by decide) (vB _) s hs)
theorem pbase_P (n e : Nat) (hn : n < B4) (P : Pt) (hB : enc P = bYn) (he : enc (smul n P) = e) : Pure Tryd.prog 27 [byt n] (byt e) :=
 pbase_s n e P _ _ hB rfl he (ftimes_all (rep_read P) (by rw [← B4_is]; exact hn))
theorem PBase_ok (n e : Nat) (hn : n < B4) (he : enc (smul n pB0) = e) : Pure Tryd.prog 27 [byt n] (byt e) := pbase_P n e hn pB0 enc_B he
/-! curve's Add and Times of what is no point -/
def rdF (j : Nat) : Row := ⟨39, [rw8 j], .tp [z128v, .b false]⟩
theorem adN_says : saysG qae tree [] glC [rdF 0] 100 3 34 [rw8 0, rw8 1] (.tp [kB 0, ePoint]) = true := by kernel_rfl
theorem adYN_says : saysG qae tree [] glC [⟨39, [rw8 0], .tp [rwP 2 3 4 5, .b true]⟩, rdF 1] 100 3 34 [rw8 0, rw8 1] (.tp [kB 0, ePoint]) = true := by kernel_rfl
theorem tiN_says : saysG qae tree [] glC [rdF 1] 100 3 33 [rw8 0, rw8 1] (.tp [kB 0, ePoint]) = true := by kernel_rfl
theorem Add_no (n m : Nat) (hn : n < B4) (hm : m < B4) (h : (∀ P, enc P ≠ n) ∨ (∀ P, enc P ≠ m)) : qa4 Tryd.prog glC 34 [byt n, byt m] (.tuple #[byt 0, .int .i64 4]) := by
 by_cases h1 : ∃ P, enc P = n
 ·obtain ⟨P, hP⟩ := h1
  have h2 : ∀ Q, enc Q ≠ m := h.resolve_left fun hc => hc P hP
  refine qaY (ν := nub [n, m, P.x.val, P.y.val, 1, (P.x * P.y).val]) (args := [rw8 0, rw8 1]) (qab _) qak qaf glC_ok (fun r hr => by cases hr) (fun r hr => ?_) adYN_says (by simp [qai, qax]) (tpE 4 (qbz _ 0))
  simp only [rdF, List.mem_cons, List.not_mem_nil, or_false] at hr
  rcases hr with rfl | rfl
  ·exact rowReadY P (by rw [hP]; exact qax _ 0) (nubP _ 2 3 4 5)
  ·exact rowReadN hm h2 (qax _ 1)
 ·refine qaY (ν := nub [n, m]) (args := [rw8 0, rw8 1]) (qab _) qak qaf glC_ok (fun r hr => by cases hr) (fun r hr => ?_) adN_says (by simp [qai, qax]) (tpE 4 (qbz _ 0))
  simp only [rdF, List.mem_cons, List.not_mem_nil, or_false] at hr
  subst hr
  exact rowReadN hn (fun P hP => h1 ⟨P, hP⟩) (qax _ 0)
theorem Times_no (n m : Nat) (hm : m < B4) (h : ∀ P, enc P ≠ m) : qa4 Tryd.prog glC 33 [byt n, byt m] (.tuple #[byt 0, .int .i64 4]) := by
 refine qaY (ν := nub [n, m]) (args := [rw8 0, rw8 1]) (qab _) qak qaf glC_ok (fun r hr => by cases hr) (fun r hr => ?_) tiN_says (by simp [qai, qax]) (tpE 4 (qbz _ 0))
 simp only [rdF, List.mem_cons, List.not_mem_nil, or_false] at hr
 subst hr
 exact rowReadN hm h (qax _ 1)
end Go.Proofs.YtheidgcgdkmmiaaDoor
