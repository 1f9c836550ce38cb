/-
 THE PAGE's side: Lb, Ld, Nt, Nu. Own work.
-/
import Derived.Test.YtheidgcgdkmmiaaDoorMd
namespace Go.Proofs.YtheidgcgdkmmiaaDoor
open Go.Sh
open Go.ChangeShapes Go.WideShapes Go.ChangeAt Go.RowKit
set_option maxRecDepth 100000
/-! L -/
theorem L_says : says qae tree [] 60 3 20 [] (qaA [] gmax) (kN ordL) = true := by kernel_rfl
theorem L_ok : Pure Tryd.prog 20 [] (num ordL) := qan (ν := nuw []) (args := []) (qab _) qak qaf (fun r hr => by cases hr) L_says rfl (kN_valc _ _)
/-! its pieces -/
def mdw : IC := t58.body
def mdA : IC := mdw.sub [false]
def mdB : IC := mdw.sub [true, false]
def mdC : IC := mdw.sub [true, true, false, false]
def mdBody : IC := mdw.sub [true, true, false, true, false, false]
def mdE : IC := mdw.sub [true, true, true]
theorem md_shape : t58 = ⟨.seq mdA (.seq mdB (.seq (.seq mdC (.block 0 (.loop mdBody))) mdE)), [.c 2 (some 4)], 39⟩ := by kernel_rfl
def mblk (cs : List AV) : ABlk := ⟨cs, 39, true⟩
def tblk : ABlk := ⟨w8C, 72, true⟩
def mdH (cs : List AV) : List (Nat × ABlk) := [(64, tblk), (65, mblk zeroC), (66, mblk cs)]
def mdN (k : Int) (cs : List AV) : Now := ⟨(4, .i .i64 (.c k)) :: mdbE, mdH cs, 67⟩
def orE (k : Nat) : AI := .e .or .u64 (.s 12) (.e .and .u64 (.e .shr .u64 (.s (k / 64)) (.c (.ofNat (k % 64)))) (.c (.ofNat 1)))
def vC (k : Nat) : List AV := [.i .u64 (orE k), wd 13, wd 14, wd 15]
def mdT (k : Nat) (t : Bool) : List Row := [⟨20, [], kN ordL⟩, ⟨86, [ns 8, ns 8], .tp [ns 12, c0]⟩, ⟨62, [.ag (vC k), kN ordL], .b t⟩] ++ if t then [] else [⟨87, [.ag (vC k), kN ordL], .tp [ns 16, c0]⟩]
noncomputable def mdGo (k : Nat) : Bool := goes qae tree (mdT k true) 60 3 mdBody (mdN (.ofNat k) (cellsOf 8)) .normal (mdN ((k : Int) - 1) (vC k)) && goes qae tree (mdT k false) 60 3 mdBody (mdN (.ofNat k) (cellsOf 8)) .normal (mdN ((k : Int) - 1) (cellsOf 16))
theorem md_goes0 : (List.range 64).all (fun k => mdGo k) = true := by kernel_rfl
theorem md_goes1 : (List.range 64).all (fun k => mdGo (64 + k)) = true := by kernel_rfl
theorem md_goes2 : (List.range 64).all (fun k => mdGo (128 + k)) = true := by kernel_rfl
theorem md_goes3 : (List.range 64).all (fun k => mdGo (192 + k)) = true := by kernel_rfl
theorem md_goes4 : (List.range 64).all (fun k => mdGo (256 + k)) = true := by kernel_rfl
theorem md_goes5 : (List.range 64).all (fun k => mdGo (320 + k)) = true := by kernel_rfl
theorem md_goes6 : (List.range 64).all (fun k => mdGo (384 + k)) = true := by kernel_rfl
theorem md_goes7 : (List.range 64).all (fun k => mdGo (448 + k)) = true := by kernel_rfl
theorem md_goes (k : Nat) (h : k < 512) : mdGo k = true := by
 have key : ∀ m, (List.range 64).all (fun k => mdGo (64 * m + k)) = true → k / 64 = m → mdGo k = true := fun m hm hk => by
  have := List.all_eq_true.1 hm (k % 64) (List.mem_range.2 (Nat.mod_lt _ (by decide)))
  rwa [show 64 * m + k % 64 = k by omega] at this
 have hk : k / 64 < 8 := by omega
 rcases (by omega : k / 64 = 0 ∨ k / 64 = 1 ∨ k / 64 = 2 ∨ k / 64 = 3 ∨ k / 64 = 4 ∨ k / 64 = 5 ∨ k / 64 = 6 ∨ k / 64 = 7) with e | e | e | e | e | e | e | e
 ·refine key 0 ?_ e
  simp only [Nat.mul_zero, Nat.zero_add]
  exact md_goes0
 ·exact key 1 md_goes1 e
 ·exact key 2 md_goes2 e
 ·exact key 3 md_goes3 e
 ·exact key 4 md_goes4 e
 ·exact key 5 md_goes5 e
 ·exact key 6 md_goes6 e
 ·exact key 7 md_goes7 e
theorem md_ends : goes qae tree [] 60 2 mdBody (mdN (-1) (cellsOf 8)) (.exit 0) (mdN (-1) (cellsOf 8)) = true := by kernel_rfl
/-! names: the eight words, what is left, twice that, that less L -/
theorem orE_val (w r s k : Nat) (hk : k < 512) : (orE k).val (nuD w r s) = ((Sh.w0 (2 * r + w / 2 ^ k % 2) : Nat) : Int) := by
 have hm : k % 64 < 64 := Nat.mod_lt _ (by decide)
 have e1 := bit_at w (k / 64) (k % 64) hm
 rw [show 64 * (k / 64) + k % 64 = k by omega] at e1
 show qaj .or .u64 (nuD w r s 12) (qaj .and .u64 (qaj .shr .u64 (nuD w r s (k / 64)) ((k % 64 : Nat) : Int)) ((1 : Nat) : Int)) = _
 rw [w8_at w r s (k / 64) (by omega), a_shr .u64 _ (k % 64) (Nat.le_of_lt hm), a_mask _ 1 1 rfl (by decide), Nat.pow_one, e1]
 have e0 : nuD w r s 12 = ((2 * r % 18446744073709551616 : Nat) : Int) := rfl
 rw [e0, a_or]
 have hb : w / 2 ^ k % 2 < 2 := Nat.mod_lt _ (by decide)
 generalize w / 2 ^ k % 2 = b at *
 have h1 : 2 * r % 18446744073709551616 % 18446744073709551616 = 2 ^ 1 * (r % 9223372036854775808) := by omega
 have h2 : b % 18446744073709551616 = b := by omega
 rw [h1, h2, ← Nat.two_pow_add_eq_or_of_lt (i := 1) (b := b) hb]
 unfold Sh.w0
 congr 1
 omega
theorem vC_conc (w r s k : Nat) (hk : k < 512) : qap (nuD w r s) (vC k) = some ((numL (2 * r + w / 2 ^ k % 2)).map u64) := by
 have h0 := orE_val w r s k hk
 have h1 : nuD w r s 13 = ((w1 (2 * r) : Nat) : Int) := rfl
 have h2 : nuD w r s 14 = ((w2 (2 * r) : Nat) : Int) := rfl
 have h3 : nuD w r s 15 = ((w3 (2 * r) : Nat) : Int) := rfl
 have hb : w / 2 ^ k % 2 < 2 := Nat.mod_lt _ (by decide)
 generalize w / 2 ^ k % 2 = b at *
 show some [Value.int .u64 ((orE k).val (nuD w r s)), .int .u64 (nuD w r s 13), .int .u64 (nuD w r s 14), .int .u64 (nuD w r s 15)] = some [u64 (Sh.w0 (2 * r + b)), u64 (w1 (2 * r + b)), u64 (w2 (2 * r + b)), u64 (w3 (2 * r + b))]
 have g1 : w1 (2 * r) = w1 (2 * r + b) := by unfold w1; omega
 have g2 : w2 (2 * r) = w2 (2 * r + b) := by unfold w2; omega
 have g3 : w3 (2 * r) = w3 (2 * r + b) := by unfold w3; omega
 rw [h0, h1, h2, h3, g1, g2, g3]
 rfl
theorem vC_conc2 (w r s k : Nat) (hk : k < 512) : qag (nuD w r s) (.ag (vC k)) = some (num (2 * r + w / 2 ^ k % 2)) := by
 show (qap (nuD w r s) (vC k)).map (fun vs => Value.agg vs.toArray) = _
 rw [vC_conc w r s k hk]
 rfl
/-! the rounds -/
theorem nuD_12 (w r s : Nat) : qag (nuD w r s) (ns 12) = some (num (2 * r)) := by kernel_rfl
theorem nuD_c0 (w r s : Nat) : qag (nuD w r s) c0 = some (u64 0) := rfl
theorem tpW {ν : Nat → Int} {a b : AV} {v u : Value} (h : qag ν a = some v) (h' : qag ν b = some u) : conc ν (.tp [a, b]) = some (.tuple #[v, u]) := by
 show (qai ν [a, b]).map (fun vs => Value.tuple vs.toArray) = _
 simp only [qai, h, h']
 rfl
theorem addR_pure (r : Nat) (h : r < ordL) : Pure Tryd.prog 86 [num r, num r] (.tuple #[num (2 * r), u64 0]) := by
 have hB : 2 * ordL < B4 := by decide
 have h1 := radd_ok r r (by omega) (by omega)
 have h2 : (r + r) / B4 = 0 := Nat.div_eq_of_lt (by omega)
 rw [h2, show r + r = 2 * r by omega] at h1
 exact h1
theorem mdT_ok (w r k v : Nat) (t : Bool) (hk : k < 512) (hr : r < ordL) (hv : 2 * r + w / 2 ^ k % 2 = v) (ht : decide (v < ordL) = t) : ∀ q ∈ mdT k t, q.Ok (nuD w r (v - ordL)) Tryd.prog := by
 have hB : 2 * ordL < B4 := by decide
 have hL : ordL < B4 := by decide
 have hb : w / 2 ^ k % 2 < 2 := Nat.mod_lt _ (by decide)
 have hvB : v < B4 := by omega
 have hc := vC_conc2 w r (v - ordL) k hk
 rw [hv] at hc
 have h1 : Row.Ok (nuD w r (v - ordL)) Tryd.prog ⟨20, [], kN ordL⟩ := ⟨[], _, rfl, kN_valc _ _, L_ok⟩
 have h2 : Row.Ok (nuD w r (v - ordL)) Tryd.prog ⟨86, [ns 8, ns 8], .tp [ns 12, c0]⟩ := ⟨[num r, num r], _, by simp [qai, nuD_8], tpW (nuD_12 _ _ _) (nuD_c0 _ _ _), addR_pure r hr⟩
 cases t with
 | true =>
   have hlt : v < ordL := of_decide_eq_true ht
   intro q hq
   simp only [mdT, if_true, List.append_nil, List.mem_cons, List.not_mem_nil, or_false] at hq
   rcases hq with rfl | rfl | rfl
   ·exact h1
   ·exact h2
   ·exact rowLess true (less_yes hL hlt) hc (qbk _ _)
 | false =>
   have hge : ¬ v < ordL := of_decide_eq_false ht
   intro q hq
   simp only [mdT, Bool.false_eq_true, if_false, List.cons_append, List.nil_append, List.mem_cons, List.not_mem_nil, or_false] at hq
   rcases hq with rfl | rfl | rfl | rfl
   ·exact h1
   ·exact h2
   ·exact rowLess false (less_no hvB hge) hc (qbk _ _)
   ·exact ⟨[num v, num ordL], _, by simp [qai, hc, qbk], tpW (nuD_16 _ _ _) (nuD_c0 _ _ _), rsub_ge v ordL hvB (Nat.le_of_not_lt hge)⟩
theorem mdget (cs : List AV) : (qam (mdH cs) 67).get 64 = some tblk ∧ (qam (mdH cs) 67).get 65 = some (mblk zeroC) ∧ (qam (mdH cs) 67).get 66 = some (mblk cs) := ⟨by kernel_rfl, by kernel_rfl, by kernel_rfl⟩
theorem mblk_map (cs : List AV) : (mblk cs).elem < qac := by show 39 < qac; decide
theorem tblk_map : tblk.elem < qac := by show 72 < qac; decide
theorem md_named {w0 : World} {ν : Nat → Int} {w r s : Nat} {k : Int} {cs : List AV} {act : Act} {W : World} (h : Holds 39 w0 ν (mdN k cs) act W) (ct : qap ν w8C = some (w8V w)) (hc : qap ν cs = some ((numL r).map u64)) : Holds 39 w0 (nuD w r s) (mdN k (cellsOf 8)) act W := by
 obtain ⟨g0, g1, g2⟩ := mdget cs
 refine h.renum (fun p hp => ⟨p.2, hp, ?_⟩) fun p hp => ?_
 ·simp only [mdbE, List.mem_cons, List.not_mem_nil, or_false] at hp
  rcases hp with rfl | rfl | rfl | rfl
  ·exact qa5.conc (u := .int .i64 k) rfl rfl
  ·exact qa5.p _ _
  ·exact qa5.p _ _
  ·exact qa5.p _ _
 ·simp only [mdH, List.mem_cons, List.not_mem_nil, or_false] at hp
  rcases hp with rfl | rfl | rfl
  ·exact ⟨by decide, tblk, w8V w, g0, rfl, rfl, tblk_map, ct, nuD_w _ _ _⟩
  ·exact ⟨by decide, mblk zeroC, [u64 0, u64 0, u64 0, u64 0], g1, rfl, rfl, mblk_map _, rfl, rfl⟩
  ·exact ⟨by decide, mblk cs, (numL r).map u64, g2, rfl, rfl, mblk_map _, hc, nuD_c8 _ _ _⟩
def mdJ (w0 : World) (w k : Nat) (act : Act) (W : World) : Prop := k ≤ 512 ∧ ∃ r, r = red w k ∧ ∀ s, Holds 39 w0 (nuD w r s) (mdN ((k : Int) - 1) (cellsOf 8)) act W
theorem md_loop (w0 : World) (w : Nat) : Tri Tryd.prog 39 (.loop mdBody) (mdJ w0 w 512) (fun ex act W => ex = .exit 0 ∧ mdJ w0 w 0 act W) := by
 refine Tri.loop (P := Tryd.prog) (N := 39) (x := mdBody) (J := fun k => mdJ w0 w k) 512 ?_ ?_
 ·intro k c hc act W ⟨hk, r, hr, hp⟩
  have hp' : ∀ s, Holds 39 w0 (nuD w r s) (mdN (.ofNat k) (cellsOf 8)) act W := by
   intro s
   have := hp s
   have e : (((k + 1 : Nat) : Int) - 1) = .ofNat k := by rw [Int.ofNat_eq_natCast]; omega
   rw [e] at this
   exact this
  have hg := md_goes k (by omega)
  simp only [mdGo, Bool.and_eq_true] at hg
  have hst := red_step w k
  obtain ⟨v, hv⟩ : ∃ v, 2 * r + w / 2 ^ k % 2 = v := ⟨_, rfl⟩
  have hv' : vOf w k = v := by
   unfold vOf
   rw [← hr]
   exact hv
  rw [hv'] at hst
  have hrl : r < ordL := hr ▸ red_lt _ _
  by_cases hb : v < ordL
  ·rw [if_pos hb] at hst
   refine ((Tri.run (qab _) qak qaf (mdT_ok w r k v true (by omega) hrl hv (decide_eq_true hb)) hg.1).weak (fun _ _ h => h) (fun ex act W h => ?_)) c hc act W (hp' _)
   refine .inl ⟨h.1, by omega, v, hst.symm, fun s => md_named h.2 (nuD_w _ _ _) ?_⟩
   have := vC_conc w r (v - ordL) k (by omega)
   rwa [hv] at this
  ·rw [if_neg hb] at hst
   refine ((Tri.run (qab _) qak qaf (mdT_ok w r k v false (by omega) hrl hv (decide_eq_false hb)) hg.2).weak (fun _ _ h => h) (fun ex act W h => ?_)) c hc act W (hp' _)
   exact .inl ⟨h.1, by omega, v - ordL, hst.symm, fun s => md_named h.2 (nuD_w _ _ _) (nuD_c16 _ _ _)⟩
 ·intro c hc act W ⟨hk, r, hr, hp⟩
  refine ((Tri.run (i := mdN (-1) (cellsOf 8)) (qab _) qak qaf (fun r hr => by cases hr) md_ends).weak (fun _ _ h => h) (fun ex act W h => ?_)) c hc act W (hp 0)
  exact ⟨by rw [h.1]; simp, h.1, hk, r, hr, fun s => md_named h.2 (nuD_w _ _ _) (nuD_c8 _ _ _)⟩
def mdnowA : Now := ⟨[(1, .p 64 0), (2, .p 65 0)], [(64, tblk), (65, mblk zeroC)], 66⟩
def mdnowB : Now := ⟨mdbE, mdH zeroC, 67⟩
def mdnowE : Now := ⟨[(2, .p 65 0)], [(65, mblk (cellsOf 8))], 67⟩
theorem mdgoA : goes qae tree [] 60 2 mdA mdnow0 .normal mdnowA = true := by kernel_rfl
theorem mdgoB : goes qae tree [] 60 2 mdB mdnowA .normal mdnowB = true := by kernel_rfl
theorem mdgoC : goes qae tree [] 60 2 mdC mdnowB .normal (mdN 511 zeroC) = true := by kernel_rfl
theorem mdgoE : goes qae tree [] 60 2 mdE (mdN (-1) (cellsOf 8)) .ret mdnowE = true := by kernel_rfl
theorem md_res : resA (trL mdnowE.e) (qam mdnowE.H mdnowE.n) [.c 2 (some 4)] = some (ns 8) := by kernel_rfl
theorem md_tab : tree.get 58 = some t58 := by kernel_rfl
theorem modL_ok (w : Nat) (hw : w < B4 * B4) : Pure Tryd.prog 58 [num8 w] (num (w % ordL)) := by
 obtain ⟨r, hr⟩ : ∃ r, r = w % ordL := ⟨_, rfl⟩
 rw [← hr]
 have hr0 : red w 0 = r := by rw [hr]; unfold red; rw [Nat.pow_zero, Nat.div_one]
 refine pure_tri (ν := nuD w 0 0) (ν' := nuD w r 0) (args := [.ag w8C]) (r := ns 8) (o := mdnowE) tree qaf md_tab md_shape (md_ins w 0 0) (by decide) mdnow0.e (fun p hp => ?_) (fun w0 => ?_) md_res (nuD_8 w r 0)
 ·simp only [mdnow0, List.mem_cons, List.not_mem_nil, or_false] at hp
  subst hp
  rfl
 ·refine Tri.seq (Tri.run (i := mdnow0) (qab _) qak qaf noRows mdgoA) ?_ (fun ex a w hne h => (hne h.1).elim)
  refine Tri.weak (Pre := Holds 39 w0 (nuD w 0 0) mdnowA) ?_ (fun _ _ h => h.2) (fun _ _ _ h => h)
  refine Tri.seq (Tri.run (qab _) qak qaf noRows mdgoB) ?_ (fun ex a w hne h => (hne h.1).elim)
  refine Tri.weak (Pre := Holds 39 w0 (nuD w 0 0) mdnowB) ?_ (fun _ _ h => h.2) (fun _ _ _ h => h)
  refine Tri.seq (Mid := fun ex act W => ex = .normal ∧ mdJ w0 w 0 act W) ?_ ?_ (fun ex a w hne h => (hne h.1).elim)
  ·refine Tri.seq (Tri.run (qab _) qak qaf noRows mdgoC) ?_ (fun ex a w hne h => (hne h.1).elim)
   refine Tri.weak (Pre := mdJ w0 w 512) ?_ (fun _ _ h => ⟨Nat.le_refl _, 0, (red_top (a := 256) rfl rfl hw).symm, fun s => md_named h.2 (nuD_w _ _ _) rfl⟩) (fun _ _ _ h => h)
   refine Tri.block (md_loop w0 w) (fun a w h => by cases h.1) (fun act w h => ⟨rfl, h.2⟩) (fun j a w hj h => ?_) (fun a w h => by cases h.1)
   have := h.1
   simp only [Ex.exit.injEq] at this
   exact (hj this).elim
  ·intro c hc act W ⟨_, hk, r', hr', hp⟩
   have e : r' = r := hr'.trans hr0
   subst e
   exact ((Tri.run (qab _) qak qaf noRows mdgoE).weak (fun _ _ h => h) (fun ex act W h => ⟨.inr h.1, h.2⟩)) c hc act W (hp 0)
theorem pblY_says (t : Bool) : says qae tree [⟨53, [rw8 0], rw4 8⟩, ⟨20, [], kN ordL⟩, ⟨62, [rw4 8, kN ordL], .b t⟩] 100 3 35 [rw8 0] (qaA [] gmax) (.b t) = true := by cases t <;> kernel_rfl
theorem pbl_core (x : Nat) (t : Bool) (h : Pure Tryd.prog 62 [num x, num ordL] (.bool t)) : Pure Tryd.prog 35 [byt x] (.bool t) := by
 refine qan (ν := nuM 1 [x] [x]) (args := [rw8 0]) (qab _) qak qaf (fun r hr => ?_) (pblY_says t) (by simp [qai, nuM_b]) rfl
 simp only [List.mem_cons, List.not_mem_nil, or_false] at hr
 rcases hr with rfl | rfl | rfl
 ·exact rowOfP (nuM_b 1 [x] [x] 0 (by decide)) (nuM_wc 1 [x] [x] 0)
 ·exact ⟨[], _, rfl, kN_valc _ _, L_ok⟩
 ·exact rowLess t h (nuM_w 1 [x] [x] 0) (qbk _ _)
theorem PBelow_ok (x : Nat) (hx : x < B4) : Pure Tryd.prog 35 [byt x] (.bool (decide (x < ordL))) := by
 by_cases h : x < ordL
 ·rw [decide_eq_true h]
  exact pbl_core x true (less_yes (by decide) h)
 ·rw [decide_eq_false h]
  exact pbl_core x false (less_no hx h)
/-! A word, as thirty-two bytes. -/
theorem rowBytesP {ν : Nat → Int} {p r : AV} {x : Nat} (h1 : qag ν p = some (num x)) (h2 : conc ν r = some (byt x)) : Row.Ok ν Tryd.prog ⟨19, [p], r⟩ := ⟨[num x], byt x, by simp [qai, h1], h2, Bytes_ok x⟩
theorem rowModL {ν : Nat → Int} {p r : AV} {T n : Nat} (hT : T < B4 * B4) (hn : T % ordL = n) (h1 : qag ν p = some (num8 T)) (h2 : conc ν r = some (num n)) : Row.Ok ν Tryd.prog ⟨58, [p], r⟩ :=
 ⟨[num8 T], num n, by simp [qai, h1], h2, by rw [← hn]; exact modL_ok T hT⟩
theorem rowPBelow {ν : Nat → Int} {p : AV} {x : Nat} (b : Bool) (hx : x < B4) (hb : decide (x < ordL) = b) (h1 : qag ν p = some (byt x)) : Row.Ok ν Tryd.prog ⟨35, [p], .b b⟩ :=
 ⟨[byt x], .bool b, by simp [qai, h1], rfl, by rw [← hb]; exact PBelow_ok x hx⟩
end Go.Proofs.YtheidgcgdkmmiaaDoor
