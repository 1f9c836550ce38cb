/-
 SIGNATURES: what SignLooks' rows answer. Own work.
-/
import Derived.Test.YtheidgcgdkmmiaaDoorRm
namespace Go.Proofs.YtheidgcgdkmmiaaDoor
open Go.Sh
open Go.ChangeShapes Go.WideShapes Go.ChangeAt Go.RowKit
set_option maxRecDepth 100000
/-! a signature, as it comes -/
def byt2 (x y : Nat) : Value := .agg ((byL x).map u8 ++ (byL y).map u8).toArray
theorem cells64b : Tryd.prog.cellsOf 25 = 64 := by kernel_rfl
theorem open_sig {H : Type} {enc : TypeId × Value → H} {w : World} {r : Reach} {b0 base : Nat} {sp : Nat → Bool} {held : Bool} {v : Value} {d : DataW H} {ps : List MemPlace} (hval : Value.okWide Tryd.prog w r b0 25 v) (hd : DataW.Trod enc Tryd.prog w base sp held 25 v d ps) :
  ∃ x y, x < B4 ∧ y < B4 ∧ v = byt2 x y ∧ ps = [] ∧ Plain Tryd.prog 25 v d := by
 obtain ⟨zs, h1, h2, h3, h4, h5⟩ := open_array Tryd.underlying25 Tryd.underlying5 cells1 cells64b hval hd
 obtain ⟨x, hx, ex⟩ := bytes_num (zs.take 32) (by rw [List.length_take, h1]; rfl) fun z hz => h3 z (List.mem_of_mem_take hz)
 obtain ⟨y, hy, ey⟩ := bytes_num (zs.drop 32) (by rw [List.length_drop, h1]) fun z hz => h3 z (List.mem_of_mem_drop hz)
 have lx : (zs.take 32).map (Value.int .u8) = (byL x).map u8 := congrArg Array.toList (Value.agg.inj ex)
 have ly : (zs.drop 32).map (Value.int .u8) = (byL y).map u8 := congrArg Array.toList (Value.agg.inj ey)
 refine ⟨x, y, hx, hy, ?_, h4, h5⟩
 rw [h2]
 unfold byt2
 rw [← lx, ← ly, ← List.map_append, List.take_append_drop]
/-! names -/
theorem nu9_wel {L l : List Nat} {n : Int} {len : Nat → Nat} {z : Nat → Wd} (j : Nat) (hj : j < 100) : qap (nu9 L l n len z) (wel (1000 + j)) = some ((numL (l.getD j 0)).map u64) := by
 rw [← nuM_wel 125 L l j]
 have h : ∀ i, i < 4 → nu9 L l n len z (4 * (1000 + j) + i) = nuM 125 L l (4 * (1000 + j) + i) := fun i hi => nu9_lo (by omega)
 have h0 := h 0 (by decide); have h1 := h 1 (by decide); have h2 := h 2 (by decide); have h3 := h 3 (by decide)
 show qap _ (wel (1000 + j)) = qap _ (wel (1000 + j))
 simp only [wel, qap, conc1, wd, AI.val]
 simp only [Nat.add_zero] at h0
 rw [h0, h1, h2, h3]
theorem sL9 {L l : List Nat} {n : Int} {len : Nat → Nat} {z : Nat → Wd} (j : Nat) (hj : j < 125) : (sL (32 * j)).map (AI.val (nu9 L l n len z)) = (byL (L.getD j 0)).map fun n => ((n : Nat) : Int) := by
 refine List.ext_getElem? fun i => ?_
 by_cases hi : i < 32
 ·simp only [sL, List.map_map, List.getElem?_map, List.getElem?_range hi, Option.map_some, Function.comp]
  show some (nu9 L l n len z (32 * j + i)) = _
  rw [nu9_at hj hi, List.getD_eq_getElem?_getD, List.getElem?_eq_getElem (by rw [qaX]; exact hi)]
  rfl
 ·rw [List.getElem?_eq_none (by simp [sL]; omega), List.getElem?_eq_none (by simp [qaX]; omega)]
def lkS9 (p r s k1 k2 k : Nat) : Sg := ⟨0, 0, 0, 0, p, 0, 0, 0, r, k1, k2, k, s⟩
def lkX (q v w : Nat) (P : Pt) : Ex := ⟨[q, v, w], [P.x.val, P.y.val, 1, (P.x * P.y).val], fun _ _ => 0⟩
structure Lk (g : Sg) (n : Nat) (zz : Nat → Nat) : Prop where
 h9 : g.k1 = dLo (zK g.pl g.p zz) (64 + n)
 h10 : g.k2 = dHi (zK g.pl g.p zz) (64 + n)
 hk : wS (dgt (zK g.pl g.p zz) (64 + n)) 64 % ordL = g.k
 bp : g.p < B4
 br : g.pl < B4
 bs : g.s < B4
section
variable {g : Sg} {e : Ex} {n : Nat} {zz : Nat → Nat}
theorem Lk.kB (H : Lk g n zz) : g.k < B4 := by rw [← H.hk]; exact modB _
theorem lkV_val : qag (nuX9 g e n zz) lkV = some (byt2 g.pl g.s) := by
 show qag _ (.ag (rowC .u8 lkA (63 + 1))) = _
 rw [conc2_row]
 unfold aggI byt2
 refine congrArg (fun l : List Value => some (Value.agg l.toArray)) (List.ext_getElem? fun j => ?_)
 rw [List.getElem?_map]
 by_cases h1 : j < 32
 ·rw [List.getElem?_range (by omega), List.getElem?_append_left (by rw [List.length_map, qaX]; exact h1), List.getElem?_map]
  show some (Value.int .u8 ((lkA j).val (nuX9 g e n zz))) = _
  unfold lkA
  rw [if_pos (by simpa using h1)]
  show some (Value.int .u8 (nuX9 g e n zz (32 * 8 + j))) = _
  rw [show nuX9 g e n zz (32 * 8 + j) = (((byL g.pl).getD j 0 : Nat) : Int) from nu9_at (L := sgX g e) (j := 8) (by decide) h1, List.getD_eq_getElem?_getD, List.getElem?_eq_getElem (by rw [qaX]; exact h1)]
  rfl
 by_cases h2 : j < 64
 ·rw [List.getElem?_range (by omega), List.getElem?_append_right (by rw [List.length_map, qaX]; omega), List.getElem?_map, List.length_map, qaX]
  show some (Value.int .u8 ((lkA j).val (nuX9 g e n zz))) = _
  unfold lkA
  rw [if_neg (by simpa using h1)]
  show some (Value.int .u8 (nuX9 g e n zz (32 * 12 + (j - 32)))) = _
  rw [show nuX9 g e n zz (32 * 12 + (j - 32)) = (((byL g.s).getD (j - 32) 0 : Nat) : Int) from nu9_at (L := sgX g e) (j := 12) (by decide) (by omega), List.getD_eq_getElem?_getD, List.getElem?_eq_getElem (by rw [qaX]; omega)]
  rfl
 ·rw [List.getElem?_eq_none (by simpa using h2), List.getElem?_eq_none (by simp [qaX]; omega)]
  rfl
/-! rows -/
theorem lkT_ok (H : Lk g n zz) {t : Bool} (ht : decide (g.s < ordL) = t) : ∀ r ∈ lkT t, r.Ok (nuX9 g e n zz) Tryd.prog := by
 intro r hr
 simp only [lkT, List.mem_cons, List.not_mem_nil, or_false] at hr
 rcases hr with rfl | rfl | rfl | rfl
 ·exact rowLayS (x := g.k) (nu9_w 1 (by decide)) (nu9_bc 11 (by decide))
 ·exact rowModL (T := wS (dgt (zK g.pl g.p zz) (64 + n)) 64) (wS_B8 (dgt_lt _ _)) H.hk (wag (j := 9) (by decide) H.h9 H.h10) (nu9_wc 1 (by decide))
 ·exact rowBytesP (x := g.k) (nu9_w 1 (by decide)) (nu9_bc 11 (by decide))
 ·exact rowPBelow t H.bs ht (qbC 12 (by decide))
theorem lkG_ok (H : Lk g n zz) {t : Bool} (ht : decide (g.s < ordL) = t) : ∀ r ∈ lkG t, r.OkG (nuX9 g e n zz) Tryd.prog gl9 := by
 intro r hr
 simp only [lkG, List.mem_cons, List.not_mem_nil, or_false] at hr
 rcases hr with rfl | rfl | rfl
 ·exact OkG_up upO9 (rowRed (T := wS (dgt (zK g.pl g.p zz) (64 + n)) 64) (wS_B8 (dgt_lt _ _)) H.hk (wag (j := 9) (by decide) H.h9 H.h10) (nu9_wc 1 (by decide)))
 ·exact OkG_up upO9 (rowBelow t H.bs ht (qbC 12 (by decide)))
 ·exact rowWk9_ok
theorem only {α : Type} {p : α → Prop} {a : α} (h : p a) : ∀ r ∈ [a], p r := fun r hr => by
 simp only [List.mem_cons, List.not_mem_nil, or_false] at hr
 exact hr ▸ h
theorem both {α : Type} {p : α → Prop} {l m : List α} (h1 : ∀ r ∈ l, p r) (h2 : ∀ r ∈ m, p r) : ∀ r ∈ l ++ m, p r := fun r hr => (List.mem_append.1 hr).elim (h1 r) (h2 r)
theorem lkDY_ok {q v w : Nat} {P : Pt} (h : enc P = g.pl) : ∀ r ∈ lkDY, r.Ok (nuX9 g (lkX q v w P) n zz) Tryd.prog := only (rowDecY h (qbC 8 (by decide)) (ptn_of (nu9_wel 2 (by decide)) (nu9_wel 3 (by decide)) (nu9_wel 4 (by decide)) (nu9_wel 5 (by decide)) ⟨_, _, _, rfl⟩))
theorem lkDN_ok (H : Lk g n zz) (h : ∀ P, enc P ≠ g.pl) : ∀ r ∈ lkDN, r.Ok (nuX9 g e n zz) Tryd.prog := only (rowDecN H.br h (qbC 8 (by decide)))
theorem rowPTY {ν : Nat → Int} {p q r : AV} {n m e : Nat} (hn : n < B4) {P : Pt} (hp : enc P = m) (he : enc (smul n P) = e) (h1 : qag ν p = some (byt n)) (h2 : qag ν q = some (byt m)) (h3 : qag ν r = some (byt e)) : Row.Ok ν Tryd.prog ⟨37, [p, q], .tp [r, .b true]⟩ := ⟨[byt n, byt m], _, by simp [qai, h1, h2], tp2 true h3, PTimes_yes n m e hn P hp he⟩
theorem rowPTN {ν : Nat → Int} {p q : AV} {n m : Nat} (hm : m < B4) (h : ∀ P, enc P ≠ m) (h1 : qag ν p = some (byt n)) (h2 : qag ν q = some (byt m)) : Row.Ok ν Tryd.prog ⟨37, [p, q], .tp [kB 0, .b false]⟩ := ⟨[byt n, byt m], _, by simp [qai, h1, h2], tp2 false (qbz _ 0), PTimes_no n m hm h⟩
theorem rowPSY {ν : Nat → Int} {p q r : AV} {n m e : Nat} {P Q : Pt} (hp : enc P = n) (hq : enc Q = m) (he : enc (P.add Q) = e) (h1 : qag ν p = some (byt n)) (h2 : qag ν q = some (byt m)) (h3 : qag ν r = some (byt e)) : Row.Ok ν Tryd.prog ⟨38, [p, q], .tp [r, .b true]⟩ := ⟨[byt n, byt m], _, by simp [qai, h1, h2], tp2 true h3, Sum_yes n m e P Q hp hq he⟩
theorem rowTN {ν : Nat → Int} {p q : AV} {n m : Nat} (hm : m < B4) (h : ∀ P, enc P ≠ m) (h1 : qag ν p = some (byt n)) (h2 : qag ν q = some (byt m)) : Row.OkG ν Tryd.prog glC ⟨33, [p, q], .tp [kB 0, ePoint]⟩ := ⟨[byt n, byt m], _, by simp [qai, h1, h2], tpE 4 (qbz _ 0), Times_no n m hm h⟩
theorem rowAN {ν : Nat → Int} {p q : AV} {n m : Nat} (hn : n < B4) (hm : m < B4) (h : ∀ P, enc P ≠ n) (h1 : qag ν p = some (byt n)) (h2 : qag ν q = some (byt m)) : Row.OkG ν Tryd.prog glC ⟨34, [p, q], .tp [kB 0, ePoint]⟩ := ⟨[byt n, byt m], _, by simp [qai, h1, h2], tpE 4 (qbz _ 0), Add_no n m hn hm (.inl h)⟩
theorem lkPY_ok {q v w : Nat} {P A : Pt} (H : Lk g n zz) (h : enc A = g.p) (hq : enc (smul g.k A) = q) : ∀ r ∈ lkPY, r.Ok (nuX9 g (lkX q v w P) n zz) Tryd.prog := only (rowPTY H.kB h hq (qbC 11 (by decide)) (qbC 4 (by decide)) (qbC 13 (by decide)))
theorem lkPN_ok (H : Lk g n zz) (h : ∀ P, enc P ≠ g.p) : ∀ r ∈ lkPN, r.Ok (nuX9 g e n zz) Tryd.prog := only (rowPTN (n := g.k) H.bp h (qbC 11 (by decide)) (qbC 4 (by decide)))
theorem lkS_ok {q v w : Nat} {P Q P' : Pt} (hp : enc P = g.pl) (hq : enc Q = q) (hv : enc (P.add Q) = v) : ∀ r ∈ lkS, r.Ok (nuX9 g (lkX q v w P') n zz) Tryd.prog := only (rowPSY hp hq hv (qbC 8 (by decide)) (qbC 13 (by decide)) (qbC 14 (by decide)))
theorem lkPB_ok (H : Lk g n zz) {j : Nat} (hj : j < 125) (h : enc (smul g.s pB0) = (sgX g e).getD j 0) : ∀ r ∈ lkPB j, r.Ok (nuX9 g e n zz) Tryd.prog := only (rowPBase H.bs h (qbC 12 (by decide)) (nu9_bc j hj))
theorem lkCY_ok {q v w : Nat} {P A : Pt} (H : Lk g n zz) (h : enc A = g.p) (hq : enc (smul g.k A) = q) : ∀ r ∈ lkCY, r.OkG (nuX9 g (lkX q v w P) n zz) Tryd.prog gl9 := only (OkG_up upC9 (rowTimesPt H.kB h hq (qbC 11 (by decide)) (qbC 4 (by decide)) (qbC 13 (by decide))))
theorem lkCN_ok (H : Lk g n zz) (h : ∀ P, enc P ≠ g.p) : ∀ r ∈ lkCN, r.OkG (nuX9 g e n zz) Tryd.prog gl9 := only (OkG_up upC9 (rowTN (n := g.k) H.bp h (qbC 11 (by decide)) (qbC 4 (by decide))))
theorem lkAY_ok {q v w : Nat} {P Q P' : Pt} (hp : enc P = g.pl) (hq : enc Q = q) (hv : enc (P.add Q) = v) : ∀ r ∈ lkAY, r.OkG (nuX9 g (lkX q v w P') n zz) Tryd.prog gl9 := only (OkG_up upC9 (rowAddPt hp hq hv (qbC 8 (by decide)) (qbC 13 (by decide)) (qbC 14 (by decide))))
theorem lkAN_ok {q v w : Nat} {P : Pt} (H : Lk g n zz) (bq : q < B4) (h : ∀ P, enc P ≠ g.pl) : ∀ r ∈ lkAN, r.OkG (nuX9 g (lkX q v w P) n zz) Tryd.prog gl9 := only (OkG_up upC9 (rowAN (m := q) H.br bq h (qbC 8 (by decide)) (qbC 13 (by decide))))
theorem lkCB_ok (H : Lk g n zz) {j : Nat} (hj : j < 125) (h : enc (smul g.s pB0) = (sgX g e).getD j 0) : ∀ r ∈ lkCB j, r.OkG (nuX9 g e n zz) Tryd.prog gl9 := only (OkG_up upB9 (rowBase H.bs h (qbC 12 (by decide)) (nu9_bc j hj)))
theorem lkT1_ok (H : Lk g n zz) (hs : decide (g.s < ordL) = true) (hR : ∀ P, enc P ≠ g.pl) : ∀ r ∈ lkT1, r.Ok (nuX9 g e n zz) Tryd.prog := both (lkT_ok H hs) (lkDN_ok H hR)
theorem lkT2_ok {q v w : Nat} {R : Pt} (H : Lk g n zz) (hs : decide (g.s < ordL) = true) (hR : enc R = g.pl) (hA : ∀ P, enc P ≠ g.p) : ∀ r ∈ lkT2, r.Ok (nuX9 g (lkX q v w R) n zz) Tryd.prog := both (lkT_ok H hs) (both (lkDY_ok hR) (lkPN_ok H hA))
theorem lkT3_ok {q v w j : Nat} {R A : Pt} (H : Lk g n zz) (hs : decide (g.s < ordL) = true) (hR : enc R = g.pl) (hA : enc A = g.p) (hq : enc (smul g.k A) = q) (hv : enc (R.add (smul g.k A)) = v) (hj : j < 125) (hw : enc (smul g.s pB0) = (sgX g (lkX q v w R)).getD j 0) : ∀ r ∈ lkT3 j, r.Ok (nuX9 g (lkX q v w R) n zz) Tryd.prog :=
 both (lkT_ok H hs) (both (lkDY_ok hR) (both (lkPY_ok H hA hq) (both (lkS_ok hR hq hv) (lkPB_ok H hj hw))))
theorem lkG1_ok (H : Lk g n zz) (hs : decide (g.s < ordL) = true) (hA : ∀ P, enc P ≠ g.p) : ∀ r ∈ lkG1, r.OkG (nuX9 g e n zz) Tryd.prog gl9 := both (lkG_ok H hs) (lkCN_ok H hA)
theorem lkG2_ok {q v w : Nat} {P A : Pt} (H : Lk g n zz) (hs : decide (g.s < ordL) = true) (hR : ∀ P, enc P ≠ g.pl) (hA : enc A = g.p) (hq : enc (smul g.k A) = q) : ∀ r ∈ lkG2, r.OkG (nuX9 g (lkX q v w P) n zz) Tryd.prog gl9 := both (lkG_ok H hs) (both (lkCY_ok H hA hq) (lkAN_ok H (hq ▸ enc_lt _) hR))
theorem lkG3_ok {q v w j : Nat} {R A : Pt} (H : Lk g n zz) (hs : decide (g.s < ordL) = true) (hR : enc R = g.pl) (hA : enc A = g.p) (hq : enc (smul g.k A) = q) (hv : enc (R.add (smul g.k A)) = v) (hj : j < 125) (hw : enc (smul g.s pB0) = (sgX g (lkX q v w R)).getD j 0) : ∀ r ∈ lkG3 j, r.OkG (nuX9 g (lkX q v w R) n zz) Tryd.prog gl9 :=
 both (lkG_ok H hs) (both (lkCY_ok H hA hq) (both (lkAY_ok hR hq hv) (lkCB_ok H hj hw)))
/-! sums, texts -/
theorem lk_text {t : Nat} (ht : t = 8 ∨ t = 12) (hn : n < 1000000000) (b : Nat) : IsText (nuX9 g e n zz) [wO b t] (slE b (tg t) 0) (64 + n) (zK g.pl g.p zz) := by
 have e1 : sgN n t = 64 + n := by unfold sgN; rw [if_neg (by omega), if_neg (by omega)]
 have e2 : sgZ g e zz t = zK g.pl g.p zz := by unfold sgZ; rw [if_neg (by omega), if_neg (by omega), if_pos (by omega)]
 have h0 : 0 < t := by omega
 have hA : nuX9 g e n zz (pinA (tg t)) = ((64 + n : Nat) : Int) := by rw [← e1]; exact nu9_A h0
 have hL : nuX9 g e n zz (pinL (tg t)) = ((64 + n : Nat) : Int) := by rw [← e1]; exact nu9_L h0
 refine isText_win (t := t) (own := true) List.mem_cons_self h0 (tg_Ke (by omega)) rfl hA (by rw [hL]; omega) fun j hj => ?_
 rw [← e2]
 exact nu9_B h0 (by omega)
theorem lk_textE (b : Nat) : IsText (nuX9 g e 0 zz) [(b, ⟨rowC .u8 plA 64, eU, true⟩)] (.sl b 0 (nA 64) (.own 1)) 64 (zK g.pl g.p zz) := by
 refine isText_row (off := 0) (n := 64) List.mem_cons_self (by decide) (by decide) (by decide) fun j hj => ?_
 rw [Nat.zero_add]
 exact pl_val9 hj
theorem lk_dg (H : Lk g n zz) : ∀ j, j < 64 → (nmA 288 j).val (nuX9 g e n zz) = qbd (zK g.pl g.p zz) (64 + n) j := fun _ hj => nu9_dg (L := sgX g e) (j := 9) (by decide) H.h9 H.h10 hj
theorem lkM_ok (H : Lk g n zz) (hz : ∀ j, zz j < 256) (h0 : 0 < n) (hn : n < 1000000000) : ∀ r ∈ lkM, r.Ok (nuX9 g e n zz) Tryd.prog gl9 := by
 intro r hr
 simp only [lkM, List.mem_cons, List.not_mem_nil, or_false] at hr
 rcases hr with rfl | rfl | rfl | rfl | rfl
 ·have e : sgN n 4 = n := rfl
  exact RowM.up (gl := gl256) (fun p hp => by cases hp) (rowTw_T (tx_text List.mem_cons_self (.inl rfl) h0 hn) h0 (by omega) (tgT (by decide) (by decide)) (tg_Ke (by decide)) (nu9_L (t := 4) (by decide)) fun j hj => nu9_B (t := 4) (by decide) (by omega))
 ·exact rowSum_ok (lk_text (.inr rfl) hn _) (by omega) (lk_dg H)
 ·exact rowPS_ok (lk_text (.inl rfl) hn _) (zK_b hz _) (by omega) (lk_dg H)
 ·exact rowPS_ok (lk_text (.inl rfl) hn _) (zK_b hz _) (by omega) (lk_dg H)
 ·exact RowM.up (gl := gl256) (fun p hp => by cases hp) (rowEq_T (tx_text List.mem_cons_self (.inr rfl) h0 hn) (tx_text (List.mem_cons_of_mem _ List.mem_cons_self) (.inl rfl) h0 hn) h0 (by omega))
theorem lkE_ok (H : Lk g 0 zz) (hz : ∀ j, zz j < 256) : ∀ r ∈ lkE, r.Ok (nuX9 g e 0 zz) Tryd.prog gl9 := by
 intro r hr
 simp only [lkE, List.mem_cons, List.not_mem_nil, or_false] at hr
 rcases hr with rfl | rfl | rfl
 ·exact rowSum_ok (lk_textE _) (by decide) (lk_dg H)
 ·exact rowPS_ok (lk_textE _) (zK_b hz _) (by decide) (lk_dg H)
 ·exact rowPS_ok (lk_textE _) (zK_b hz _) (by decide) (lk_dg H)
theorem lkN_hold {q v w : Nat} {P : Pt} (bv : v < B4) (bw : w < B4) (h : w ≠ v) : ∀ p ∈ lkN, qaE p.1 (p.2.1.val (nuX9 g (lkX q v w P) n zz)) (p.2.2.1.val (nuX9 g (lkX q v w P) n zz)) = p.2.2.2 := by
 intro p hp
 simp only [lkN, List.mem_cons, List.not_mem_nil, or_false] at hp
 rcases hp with rfl | rfl
 ·exact neB_holds (x := w) (y := v) bw bv (sL9 (L := sgX g (lkX q v w P)) 15 (by decide)) (sL9 (L := sgX g (lkX q v w P)) 14 (by decide)) h
 ·exact neB_holds (x := v) (y := w) bv bw (sL9 (L := sgX g (lkX q v w P)) 14 (by decide)) (sL9 (L := sgX g (lkX q v w P)) 15 (by decide)) fun c => h c.symm
theorem lkC_hold (h0 : 0 < n) (hn : n ≤ 500) : ∀ p ∈ lkC, qaE p.1 (p.2.1.val (nuX9 g e n zz)) (p.2.2.1.val (nuX9 g e n zz)) = p.2.2.2 := by
 intro p hp
 simp only [lkC, List.mem_cons, List.not_mem_nil, or_false] at hp
 rcases hp with rfl | rfl | rfl | rfl | rfl | rfl | rfl | rfl | rfl | rfl | rfl
 ·exact mxF_ok (.inl rfl) hn
 ·exact mxF_ok (.inr rfl) (by omega)
 ·exact gtF_ok (.inl rfl) h0
 ·exact gtF_ok (.inr rfl) h0
 ·exact ltF_ok (by decide) (by omega)
 ·exact ltF_ok (by decide) (by omega)
 ·exact ltF_ok (by decide) (by omega)
 ·exact ltF_ok (by decide) (by omega)
 ·exact eqF_ok (by decide)
 ·exact eqF_ok (by decide)
 ·exact eqF_ok (by decide)
end
theorem look_of {W : World} (hL : Laid gl9 W) {v : Value} {u : Hd} {n : Nat} {zz : Nat → Nat} {pl : Option Pl} (hc : Came W v u n (fun j => (zz j : Int)) pl) (hz : ∀ j, zz j < 256) (hn : n ≤ 500) {g : Sg} {e : Ex} (H : Lk g n zz) {T G : List Row} {N : List (BinOp × AI × AI × Bool)} (hT : ∀ r ∈ T, r.Ok (nuX9 g e n zz) Tryd.prog) (hG : ∀ r ∈ G, r.OkG (nuX9 g e n zz) Tryd.prog gl9)
  (hN : ∀ p ∈ N, qaE p.1 (p.2.1.val (nuX9 g e n zz)) (p.2.2.1.val (nuX9 g e n zz)) = p.2.2.2) (go : lkGo N T G) : Calls Tryd.prog 4 #[byt g.p, v, byt2 g.pl g.s] W fun e W' => e = .returned (.bool true) ∧ Below W.heap.size W W' := by
 have args : ∀ {ρ : Emb} {y : AV}, VR (nuX9 g e n zz) ρ y v → LR (nuX9 g e n zz) ρ [rw8 4, y, lkV] #[byt g.p, v, byt2 g.pl g.s] := fun hx => lr_of (vs := [_, _, _]) ⟨(qaK (qbC 4 (by decide))).1, hx, (qaK lkV_val).1, trivial⟩
 have hE : (lkEs N).Hold (nuX9 g e n zz) := ⟨fun p hp => (by cases hp), hN, fun p hp => by cases hp⟩
 cases u
 ·have h0 : n = 0 := hc.2.1
  subst h0
  exact yes_ofN (ρ := embF fun _ => none) (law_row9 (by decide) hE hT hG (lkE_ok H hz) go.2.1 (fun p hp => by cases hp) (by kernel_rfl)) hL (fun p hp => by cases hp) (args (by rw [hc.1]; exact .nsl))
 ·have h0 : n = 0 := hc.2.1
  subst h0
  obtain ⟨a, cp, rfl⟩ := hc.1
  exact yes_ofN (ρ := embF fun _ => none) (law_row9 (by decide) hE hT hG (lkE_ok H hz) go.2.2 (fun p hp => by cases hp) (by kernel_rfl)) hL (fun p hp => by cases hp) (args (.sle _ _ _ (fun h => by cases h)))
 ·have h0 : 0 < n := hc.fits
  obtain ⟨va, nd⟩ := hc.here (ν := nuX9 g e n zz) (gp := at1' 64 pl) (blk := 64) (T := tg 2) (by decide) (if_pos rfl) (tgT (by decide) (by decide)) (tg_Ke (by decide)) (nu9_L (t := 2) (by decide)) (fun j hj => nu9_B (t := 2) (by decide) (by omega))
  have hF : (lkFs N).Hold (nuX9 g e n zz) := by
   refine ⟨fun p hp => (by cases hp), both hN (lkC_hold h0 hn), fun p hp => ?_⟩
   simp only [lkFs, lkK, List.mem_cons, List.not_mem_nil, or_false] at hp
   rcases hp with rfl | rfl
   ·exact catK_ok (.inr rfl) (.inr rfl) (by omega)
   ·exact catK_ok (.inl rfl) (.inl rfl) (by omega)
  refine yes_ofN (law_row9 (by decide) hF hT hG (lkM_ok H hz h0 (by omega)) go.1 pn_need (by kernel_rfl)) hL (fun p hp => ?_) (args va)
  simp only [List.mem_cons, List.not_mem_nil, or_false] at hp
  subst hp
  obtain ⟨_, _, pl', q3, q4⟩ := nd _ List.mem_cons_self
  exact ⟨pl', (qaB (by decide)).trans q3, q4⟩
end Go.Proofs.YtheidgcgdkmmiaaDoor
