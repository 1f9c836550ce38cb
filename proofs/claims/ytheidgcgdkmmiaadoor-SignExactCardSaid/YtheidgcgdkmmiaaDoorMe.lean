/-
 THE PAGE's side: Lb, Ld, Nt, Nu. Own work.
-/
import Derived.Test.YtheidgcgdkmmiaaDoorMd
namespace Go.Proofs.YtheidgcgdkmmiaaDoor
open Go.Sh
open Go.ChangeShapes Go.WideShapes Go.ChangeAt Go.RowKit
set_option maxRecDepth 100000
/-! L -/
theorem L_says : says noFacts tree [] 60 3 20 [] (heap0 [] gmax) (kN ordL) = true := by kernel_rfl
theorem L_ok : Pure Tryd.prog 20 [] (num ordL) := pure_of (ν := nuw []) (args := []) (noFacts_hold _) mixed tab_ok (fun r hr => by cases hr) L_says rfl (kN_valc _ _)
/-! its pieces -/
def mdw : IC := t58.body
def mdA : IC := mdw.sub [false]
def mdB : IC := mdw.sub [true, false]
def mdC : IC := mdw.sub [true, true, false, false]
def mdBody : IC := mdw.sub [true, true, false, true, false, false]
def mdE : IC := mdw.sub [true, true, true]
theorem md_shape : t58 = ⟨.seq mdA (.seq mdB (.seq (.seq mdC (.block 0 (.loop mdBody))) mdE)), [.c 2 (some 4)], 39⟩ := by kernel_rfl
def mblk (cs : List AV) : ABlk := ⟨cs, 39, true⟩
def tblk : ABlk := ⟨w8C, 72, true⟩
def mdH (cs : List AV) : List (Nat × ABlk) := [(64, tblk), (65, mblk zeroC), (66, mblk cs)]
def mdN (k : Int) (cs : List AV) : Now := ⟨(4, .i .i64 (.c k)) :: mdbE, mdH cs, 67⟩
def orE (k : Nat) : AI := .e .or .u64 (.s 12) (.e .and .u64 (.e .shr .u64 (.s (k / 64)) (.c (.ofNat (k % 64)))) (.c (.ofNat 1)))
def vC (k : Nat) : List AV := [.i .u64 (orE k), wd 13, wd 14, wd 15]
def mdT (k : Nat) (t : Bool) : List Row := [⟨20, [], kN ordL⟩, ⟨86, [ns 8, ns 8], .tp [ns 12, c0]⟩, ⟨62, [.ag (vC k), kN ordL], .b t⟩] ++ if t then [] else [⟨87, [.ag (vC k), kN ordL], .tp [ns 16, c0]⟩]
noncomputable def mdGo (k : Nat) : Bool := goes noFacts tree (mdT k true) 60 3 mdBody (mdN (.ofNat k) (cellsOf 8)) .normal (mdN ((k : Int) - 1) (vC k)) && goes noFacts tree (mdT k false) 60 3 mdBody (mdN (.ofNat k) (cellsOf 8)) .normal (mdN ((k : Int) - 1) (cellsOf 16))
theorem md_goes0 : (List.range 64).all (fun k => mdGo k) = true := by kernel_rfl
theorem md_goes1 : (List.range 64).all (fun k => mdGo (64 + k)) = true := by kernel_rfl
theorem md_goes2 : (List.range 64).all (fun k => mdGo (128 + k)) = true := by kernel_rfl
theorem md_goes3 : (List.range 64).all (fun k => mdGo (192 + k)) = true := by kernel_rfl
theorem md_goes4 : (List.range 64).all (fun k => mdGo (256 + k)) = true := by kernel_rfl
theorem md_goes5 : (List.range 64).all (fun k => mdGo (320 + k)) = true := by kernel_rfl
theorem md_goes6 : (List.range 64).all (fun k => mdGo (384 + k)) = true := by kernel_rfl
theorem md_goes7 : (List.range 64).all (fun k => mdGo (448 + k)) = true := by kernel_rfl
theorem md_goes (k : Nat) (h : k < 512) : mdGo k = true := by
 have key : ∀ m, (List.range 64).all (fun k => mdGo (64 * m + k)) = true → k / 64 = m → mdGo k = true := fun m hm hk => by
  have := List.all_eq_true.1 hm (k % 64) (List.mem_range.2 (Nat.mod_lt _ (by decide)))
  rwa [show 64 * m + k % 64 = k by omega] at this
 have hk : k / 64 < 8 := by omega
 rcases (by omega : k / 64 = 0 ∨ k / 64 = 1 ∨ k / 64 = 2 ∨ k / 64 = 3 ∨ k / 64 = 4 ∨ k / 64 = 5 ∨ k / 64 = 6 ∨ k / 64 = 7) with e | e | e | e | e | e | e | e
 ·refine key 0 ?_ e
  simp only [Nat.mul_zero, Nat.zero_add]
  exact md_goes0
 ·exact key 1 md_goes1 e
 ·exact key 2 md_goes2 e
 ·exact key 3 md_goes3 e
 ·exact key 4 md_goes4 e
 ·exact key 5 md_goes5 e
 ·exact key 6 md_goes6 e
 ·exact key 7 md_goes7 e
theorem md_ends : goes noFacts tree [] 60 2 mdBody (mdN (-1) (cellsOf 8)) (.exit 0) (mdN (-1) (cellsOf 8)) = true := by kernel_rfl
/-! names: the eight words, what is left, twice that, that less L -/
theorem orE_val (w r s k : Nat) (hk : k < 512) : (orE k).val (nuD w r s) = ((Sh.w0 (2 * r + w / 2 ^ k % 2) : Nat) : Int) := by
 have hm : k % 64 < 64 := Nat.mod_lt _ (by decide)
 have e1 := bit_at w (k / 64) (k % 64) hm
 rw [show 64 * (k / 64) + k % 64 = k by omega] at e1
 show arith .or .u64 (nuD w r s 12) (arith .and .u64 (arith .shr .u64 (nuD w r s (k / 64)) ((k % 64 : Nat) : Int)) ((1 : Nat) : Int)) = _
 rw [w8_at w r s (k / 64) (by omega), a_shr .u64 _ (k % 64) (Nat.le_of_lt hm), a_mask _ 1 1 rfl (by decide), Nat.pow_one, e1]
 have e0 : nuD w r s 12 = ((2 * r % 18446744073709551616 : Nat) : Int) := rfl
 rw [e0, a_or]
 have hb : w / 2 ^ k % 2 < 2 := Nat.mod_lt _ (by decide)
 generalize w / 2 ^ k % 2 = b at *
 have h1 : 2 * r % 18446744073709551616 % 18446744073709551616 = 2 ^ 1 * (r % 9223372036854775808) := by omega
 have h2 : b % 18446744073709551616 = b := by omega
 rw [h1, h2, ← Nat.two_pow_add_eq_or_of_lt (i := 1) (b := b) hb]
 unfold Sh.w0
 congr 1
 omega
theorem vC_conc (w r s k : Nat) (hk : k < 512) : concL (nuD w r s) (vC k) = some ((numL (2 * r + w / 2 ^ k % 2)).map u64) := by
 have h0 := orE_val w r s k hk
 have h1 : nuD w r s 13 = ((w1 (2 * r) : Nat) : Int) := rfl
 have h2 : nuD w r s 14 = ((w2 (2 * r) : Nat) : Int) := rfl
 have h3 : nuD w r s 15 = ((w3 (2 * r) : Nat) : Int) := rfl
 have hb : w / 2 ^ k % 2 < 2 := Nat.mod_lt _ (by decide)
 generalize w / 2 ^ k % 2 = b at *
 show some [Value.int .u64 ((orE k).val (nuD w r s)), .int .u64 (nuD w r s 13), .int .u64 (nuD w r s 14), .int .u64 (nuD w r s 15)] = some [u64 (Sh.w0 (2 * r + b)), u64 (w1 (2 * r + b)), u64 (w2 (2 * r + b)), u64 (w3 (2 * r + b))]
 have g1 : w1 (2 * r) = w1 (2 * r + b) := by unfold w1; omega
 have g2 : w2 (2 * r) = w2 (2 * r + b) := by unfold w2; omega
 have g3 : w3 (2 * r) = w3 (2 * r + b) := by unfold w3; omega
 rw [h0, h1, h2, h3, g1, g2, g3]
 rfl
theorem vC_conc2 (w r s k : Nat) (hk : k < 512) : conc2 (nuD w r s) (.ag (vC k)) = some (num (2 * r + w / 2 ^ k % 2)) := by
 show (concL (nuD w r s) (vC k)).map (fun vs => Value.agg vs.toArray) = _
 rw [vC_conc w r s k hk]
 rfl
/-! the rounds -/
theorem nuD_12 (w r s : Nat) : conc2 (nuD w r s) (ns 12) = some (num (2 * r)) := by kernel_rfl
theorem nuD_c0 (w r s : Nat) : conc2 (nuD w r s) c0 = some (u64 0) := rfl
theorem tpW {ν : Nat → Int} {a b : AV} {v u : Value} (h : conc2 ν a = some v) (h' : conc2 ν b = some u) : conc ν (.tp [a, b]) = some (.tuple #[v, u]) := by
 show (concT ν [a, b]).map (fun vs => Value.tuple vs.toArray) = _
 simp only [concT, h, h']
 rfl
theorem addR_pure (r : Nat) (h : r < ordL) : Pure Tryd.prog 86 [num r, num r] (.tuple #[num (2 * r), u64 0]) := by
 have hB : 2 * ordL < B4 := by decide
 have h1 := radd_ok r r (by omega) (by omega)
 have h2 : (r + r) / B4 = 0 := Nat.div_eq_of_lt (by omega)
 rw [h2, show r + r = 2 * r by omega] at h1
 exact h1
theorem mdT_ok (w r k v : Nat) (t : Bool) (hk : k < 512) (hr : r < ordL) (hv : 2 * r + w / 2 ^ k % 2 = v) (ht : decide (v < ordL) = t) : ∀ q ∈ mdT k t, q.Ok (nuD w r (v - ordL)) Tryd.prog := by
 have hB : 2 * ordL < B4 := by decide
 have hL : ordL < B4 := by decide
 have hb : w / 2 ^ k % 2 < 2 := Nat.mod_lt _ (by decide)
 have hvB : v < B4 := by omega
 have hc := vC_conc2 w r (v - ordL) k hk
 rw [hv] at hc
 have h1 : Row.Ok (nuD w r (v - ordL)) Tryd.prog ⟨20, [], kN ordL⟩ := ⟨[], _, rfl, kN_valc _ _, L_ok⟩
 have h2 : Row.Ok (nuD w r (v - ordL)) Tryd.prog ⟨86, [ns 8, ns 8], .tp [ns 12, c0]⟩ := ⟨[num r, num r], _, by simp [concT, nuD_8], tpW (nuD_12 _ _ _) (nuD_c0 _ _ _), addR_pure r hr⟩
 cases t with
 | true =>
   have hlt : v < ordL := of_decide_eq_true ht
   intro q hq
   simp only [mdT, if_true, List.append_nil, List.mem_cons, List.not_mem_nil, or_false] at hq
   rcases hq with rfl | rfl | rfl
   ·exact h1
   ·exact h2
   ·exact rowLess true (less_yes hL hlt) hc (kN_val _ _)
 | false =>
   have hge : ¬ v < ordL := of_decide_eq_false ht
   intro q hq
   simp only [mdT, Bool.false_eq_true, if_false, List.cons_append, List.nil_append, List.mem_cons, List.not_mem_nil, or_false] at hq
   rcases hq with rfl | rfl | rfl | rfl
   ·exact h1
   ·exact h2
   ·exact rowLess false (less_no hvB hge) hc (kN_val _ _)
   ·exact ⟨[num v, num ordL], _, by simp [concT, hc, kN_val], tpW (nuD_16 _ _ _) (nuD_c0 _ _ _), rsub_ge v ordL hvB (Nat.le_of_not_lt hge)⟩
theorem mdget (cs : List AV) : (heapL (mdH cs) 67).get 64 = some tblk ∧ (heapL (mdH cs) 67).get 65 = some (mblk zeroC) ∧ (heapL (mdH cs) 67).get 66 = some (mblk cs) := ⟨by kernel_rfl, by kernel_rfl, by kernel_rfl⟩
theorem mblk_map (cs : List AV) : (mblk cs).elem < mapTag := by show 39 < mapTag; decide
theorem tblk_map : tblk.elem < mapTag := by show 72 < mapTag; decide
theorem md_named {w0 : World} {ν : Nat → Int} {w r s : Nat} {k : Int} {cs : List AV} {act : Act} {W : World} (h : Holds 39 w0 ν (mdN k cs) act W) (ct : concL ν w8C = some (w8V w)) (hc : concL ν cs = some ((numL r).map u64)) : Holds 39 w0 (nuD w r s) (mdN k (cellsOf 8)) act W := by
 obtain ⟨g0, g1, g2⟩ := mdget cs
 refine h.renum (fun p hp => ⟨p.2, hp, ?_⟩) fun p hp => ?_
 ·simp only [mdbE, List.mem_cons, List.not_mem_nil, or_false] at hp
  rcases hp with rfl | rfl | rfl | rfl
  ·exact Alike.conc (u := .int .i64 k) rfl rfl
  ·exact Alike.p _ _
  ·exact Alike.p _ _
  ·exact Alike.p _ _
 ·simp only [mdH, List.mem_cons, List.not_mem_nil, or_false] at hp
  rcases hp with rfl | rfl | rfl
  ·exact ⟨by decide, tblk, w8V w, g0, rfl, rfl, tblk_map, ct, nuD_w _ _ _⟩
  ·exact ⟨by decide, mblk zeroC, [u64 0, u64 0, u64 0, u64 0], g1, rfl, rfl, mblk_map _, rfl, rfl⟩
  ·exact ⟨by decide, mblk cs, (numL r).map u64, g2, rfl, rfl, mblk_map _, hc, nuD_c8 _ _ _⟩
def mdJ (w0 : World) (w k : Nat) (act : Act) (W : World) : Prop := k ≤ 512 ∧ ∃ r, r = red w k ∧ ∀ s, Holds 39 w0 (nuD w r s) (mdN ((k : Int) - 1) (cellsOf 8)) act W
theorem md_loop (w0 : World) (w : Nat) : Tri Tryd.prog 39 (.loop mdBody) (mdJ w0 w 512) (fun ex act W => ex = .exit 0 ∧ mdJ w0 w 0 act W) := by
 refine Tri.loop (P := Tryd.prog) (N := 39) (x := mdBody) (J := fun k => mdJ w0 w k) 512 ?_ ?_
 ·intro k c hc act W ⟨hk, r, hr, hp⟩
  have hp' : ∀ s, Holds 39 w0 (nuD w r s) (mdN (.ofNat k) (cellsOf 8)) act W := by
   intro s
   have := hp s
   have e : (((k + 1 : Nat) : Int) - 1) = .ofNat k := by rw [Int.ofNat_eq_natCast]; omega
   rw [e] at this
   exact this
  have hg := md_goes k (by omega)
  simp only [mdGo, Bool.and_eq_true] at hg
  have hst := red_step w k
  obtain ⟨v, hv⟩ : ∃ v, 2 * r + w / 2 ^ k % 2 = v := ⟨_, rfl⟩
  have hv' : vOf w k = v := by
   unfold vOf
   rw [← hr]
   exact hv
  rw [hv'] at hst
  have hrl : r < ordL := hr ▸ red_lt _ _
  by_cases hb : v < ordL
  ·rw [if_pos hb] at hst
   refine ((Tri.run (noFacts_hold _) mixed tab_ok (mdT_ok w r k v true (by omega) hrl hv (decide_eq_true hb)) hg.1).weak (fun _ _ h => h) (fun ex act W h => ?_)) c hc act W (hp' _)
   refine .inl ⟨h.1, by omega, v, hst.symm, fun s => md_named h.2 (nuD_w _ _ _) ?_⟩
   have := vC_conc w r (v - ordL) k (by omega)
   rwa [hv] at this
  ·rw [if_neg hb] at hst
   refine ((Tri.run (noFacts_hold _) mixed tab_ok (mdT_ok w r k v false (by omega) hrl hv (decide_eq_false hb)) hg.2).weak (fun _ _ h => h) (fun ex act W h => ?_)) c hc act W (hp' _)
   exact .inl ⟨h.1, by omega, v - ordL, hst.symm, fun s => md_named h.2 (nuD_w _ _ _) (nuD_c16 _ _ _)⟩
 ·intro c hc act W ⟨hk, r, hr, hp⟩
  refine ((Tri.run (i := mdN (-1) (cellsOf 8)) (noFacts_hold _) mixed tab_ok (fun r hr => by cases hr) md_ends).weak (fun _ _ h => h) (fun ex act W h => ?_)) c hc act W (hp 0)
  exact ⟨by rw [h.1]; simp, h.1, hk, r, hr, fun s => md_named h.2 (nuD_w _ _ _) (nuD_c8 _ _ _)⟩
def mdnowA : Now := ⟨[(1, .p 64 0), (2, .p 65 0)], [(64, tblk), (65, mblk zeroC)], 66⟩
def mdnowB : Now := ⟨mdbE, mdH zeroC, 67⟩
def mdnowE : Now := ⟨[(2, .p 65 0)], [(65, mblk (cellsOf 8))], 67⟩
theorem mdgoA : goes noFacts tree [] 60 2 mdA mdnow0 .normal mdnowA = true := by kernel_rfl
theorem mdgoB : goes noFacts tree [] 60 2 mdB mdnowA .normal mdnowB = true := by kernel_rfl
theorem mdgoC : goes noFacts tree [] 60 2 mdC mdnowB .normal (mdN 511 zeroC) = true := by kernel_rfl
theorem mdgoE : goes noFacts tree [] 60 2 mdE (mdN (-1) (cellsOf 8)) .ret mdnowE = true := by kernel_rfl
theorem md_res : resA (trL mdnowE.e) (heapL mdnowE.H mdnowE.n) [.c 2 (some 4)] = some (ns 8) := by kernel_rfl
theorem md_tab : tree.get 58 = some t58 := by kernel_rfl
theorem modL_ok (w : Nat) (hw : w < B4 * B4) : Pure Tryd.prog 58 [num8 w] (num (w % ordL)) := by
 obtain ⟨r, hr⟩ : ∃ r, r = w % ordL := ⟨_, rfl⟩
 rw [← hr]
 have hr0 : red w 0 = r := by rw [hr]; unfold red; rw [Nat.pow_zero, Nat.div_one]
 refine pure_tri (ν := nuD w 0 0) (ν' := nuD w r 0) (args := [.ag w8C]) (r := ns 8) (o := mdnowE) tree tab_ok md_tab md_shape (md_ins w 0 0) (by decide) mdnow0.e (fun p hp => ?_) (fun w0 => ?_) md_res (nuD_8 w r 0)
 ·simp only [mdnow0, List.mem_cons, List.not_mem_nil, or_false] at hp
  subst hp
  rfl
 ·refine Tri.seq (Tri.run (i := mdnow0) (noFacts_hold _) mixed tab_ok noRows mdgoA) ?_ (fun ex a w hne h => (hne h.1).elim)
  refine Tri.weak (Pre := Holds 39 w0 (nuD w 0 0) mdnowA) ?_ (fun _ _ h => h.2) (fun _ _ _ h => h)
  refine Tri.seq (Tri.run (noFacts_hold _) mixed tab_ok noRows mdgoB) ?_ (fun ex a w hne h => (hne h.1).elim)
  refine Tri.weak (Pre := Holds 39 w0 (nuD w 0 0) mdnowB) ?_ (fun _ _ h => h.2) (fun _ _ _ h => h)
  refine Tri.seq (Mid := fun ex act W => ex = .normal ∧ mdJ w0 w 0 act W) ?_ ?_ (fun ex a w hne h => (hne h.1).elim)
  ·refine Tri.seq (Tri.run (noFacts_hold _) mixed tab_ok noRows mdgoC) ?_ (fun ex a w hne h => (hne h.1).elim)
   refine Tri.weak (Pre := mdJ w0 w 512) ?_ (fun _ _ h => ⟨Nat.le_refl _, 0, (red_top (a := 256) rfl rfl hw).symm, fun s => md_named h.2 (nuD_w _ _ _) rfl⟩) (fun _ _ _ h => h)
   refine Tri.block (md_loop w0 w) (fun a w h => by cases h.1) (fun act w h => ⟨rfl, h.2⟩) (fun j a w hj h => ?_) (fun a w h => by cases h.1)
   have := h.1
   simp only [Ex.exit.injEq] at this
   exact (hj this).elim
  ·intro c hc act W ⟨_, hk, r', hr', hp⟩
   have e : r' = r := hr'.trans hr0
   subst e
   exact ((Tri.run (noFacts_hold _) mixed tab_ok noRows mdgoE).weak (fun _ _ h => h) (fun ex act W h => ⟨.inr h.1, h.2⟩)) c hc act W (hp 0)
/-! A word, as thirty-two bytes. -/
theorem lin4 (a0 a1 a2 a3 b0 b1 b2 b3 s0 s1 s2 s3 k0 k1 k2 k3 c : Nat) (h0 : s0 + 18446744073709551616 * k0 = a0 + b0 + c) (h1 : s1 + 18446744073709551616 * k1 = a1 + b1 + k0) (h2 : s2 + 18446744073709551616 * k2 = a2 + b2 + k1) (h3 : s3 + 18446744073709551616 * k3 = a3 + b3 + k2) :
  (a0 + a1 * 18446744073709551616 + a2 * 340282366920938463463374607431768211456 + a3 * 6277101735386680763835789423207666416102355444464034512896) + (b0 + b1 * 18446744073709551616 + b2 * 340282366920938463463374607431768211456 + b3 * 6277101735386680763835789423207666416102355444464034512896) + c =
  s0 + s1 * 18446744073709551616 + s2 * 340282366920938463463374607431768211456 + s3 * 6277101735386680763835789423207666416102355444464034512896 + k3 * B4 := by
 unfold B4
 omega
def nuZ (L ws : List Nat) : Nat → Int := fun k => if k < 128 then nub L k else ((ws.getD (k - 128) 0 : Nat) : Int)
def pmB (k : Nat) : AV := .ag [wd k, wd (k + 1), wd (k + 2), wd (k + 3)]
def pmW (k : Nat) : AV := .ag [wd k, wd (k + 1), wd (k + 2), wd (k + 3), wd (k + 4), wd (k + 5), wd (k + 6), wd (k + 7)]
def pmS : AV := .ag [wd 148, wd 150, wd 152, wd 154, wd 156, wd 158, wd 160, wd 162]
def pmT : List Row := [⟨53, [rw8 0], pmB 128⟩, ⟨53, [rw8 1], pmB 132⟩, ⟨53, [rw8 2], pmB 136⟩, ⟨59, [pmB 128, pmB 132], pmW 140⟩,
 ⟨60, [wd 140, wd 136, c0], .tp [wd 148, wd 149]⟩, ⟨60, [wd 141, wd 137, wd 149], .tp [wd 150, wd 151]⟩, ⟨60, [wd 142, wd 138, wd 151], .tp [wd 152, wd 153]⟩, ⟨60, [wd 143, wd 139, wd 153], .tp [wd 154, wd 155]⟩,
 ⟨60, [wd 144, c0, wd 155], .tp [wd 156, wd 157]⟩, ⟨60, [wd 145, c0, wd 157], .tp [wd 158, wd 159]⟩, ⟨60, [wd 146, c0, wd 159], .tp [wd 160, wd 161]⟩, ⟨60, [wd 147, c0, wd 161], .tp [wd 162, wd 163]⟩,
 ⟨58, [pmS], pmB 164⟩, ⟨19, [pmB 164], rw8 3⟩]
theorem pm_says : says noFacts tree pmT 400 3 31 [rw8 0, rw8 1, rw8 2] (heap0 [] gmax) (rw8 3) = true := by kernel_rfl
def add8 (a b c s k : Nat) : Prop := s = (a + b + c) % 18446744073709551616 ∧ k = (a + b + c) / 18446744073709551616
theorem add8_all {a b c s k : Nat} (h : add8 a b c s k) : s + 18446744073709551616 * k = a + b + c := by rw [h.1, h.2]; omega
theorem add8_k {a b c s k : Nat} (h : add8 a b c s k) (ha : a < 18446744073709551616) (hb : b < 18446744073709551616) (hc : c ≤ 1) : k ≤ 1 := by rw [h.2]; omega
theorem add8_s {a b c s k : Nat} (h : add8 a b c s k) : s < 18446744073709551616 := by rw [h.1]; omega
theorem rowOfB {ν : Nat → Int} {p r : AV} {x : Nat} (h1 : conc2 ν p = some (byt x)) (h2 : conc ν r = some (num x)) : Row.Ok ν Tryd.prog ⟨53, [p], r⟩ := ⟨[byt x], num x, by simp [concT, h1], h2, Of_ok x⟩
theorem rowBytesP {ν : Nat → Int} {p r : AV} {x : Nat} (h1 : conc2 ν p = some (num x)) (h2 : conc ν r = some (byt x)) : Row.Ok ν Tryd.prog ⟨19, [p], r⟩ := ⟨[num x], byt x, by simp [concT, h1], h2, Bytes_ok x⟩
theorem rowModL {ν : Nat → Int} {p r : AV} {T n : Nat} (hT : T < B4 * B4) (hn : T % ordL = n) (h1 : conc2 ν p = some (num8 T)) (h2 : conc ν r = some (num n)) : Row.Ok ν Tryd.prog ⟨58, [p], r⟩ :=
 ⟨[num8 T], num n, by simp [concT, h1], h2, by rw [← hn]; exact modL_ok T hT⟩
theorem pm_core (x y z T T' S S' n t0 t1 t2 t3 t4 t5 t6 t7 s0 s1 s2 s3 s4 s5 s6 s7 k0 k1 k2 k3 k4 k5 k6 k7 : Nat) (hx : x < B4) (hy : y < B4) (hT : x * y = T) (hT' : T / B4 = T') (e0 : Sh.w0 T = t0) (e1 : w1 T = t1) (e2 : w2 T = t2) (e3 : w3 T = t3) (e4 : Sh.w0 T' = t4) (e5 : w1 T' = t5) (e6 : w2 T' = t6) (e7 : w3 T' = t7)
  (a0 : add8 t0 (Sh.w0 z) 0 s0 k0) (a1 : add8 t1 (w1 z) k0 s1 k1) (a2 : add8 t2 (w2 z) k1 s2 k2) (a3 : add8 t3 (w3 z) k2 s3 k3) (a4 : add8 t4 0 k3 s4 k4) (a5 : add8 t5 0 k4 s5 k5) (a6 : add8 t6 0 k5 s6 k6) (a7 : add8 t7 0 k6 s7 k7)
  (q0 : k0 ≤ 1) (q1 : k1 ≤ 1) (q2 : k2 ≤ 1) (q3 : k3 ≤ 1) (q4 : k4 ≤ 1) (q5 : k5 ≤ 1) (q6 : k6 ≤ 1) (hS : S < B4 * B4) (hS' : S / B4 = S') (f0 : Sh.w0 S = s0) (f1 : w1 S = s1) (f2 : w2 S = s2) (f3 : w3 S = s3) (f4 : Sh.w0 S' = s4) (f5 : w1 S' = s5) (f6 : w2 S' = s6) (f7 : w3 S' = s7) (hn : S % ordL = n) :
  Pure Tryd.prog 31 [byt x, byt y, byt z] (byt n) := by
 have eT : num8 T = .agg #[u64 t0, u64 t1, u64 t2, u64 t3, u64 t4, u64 t5, u64 t6, u64 t7] := by unfold num8; rw [hT', e0, e1, e2, e3, e4, e5, e6, e7]
 have eS : num8 S = .agg #[u64 s0, u64 s1, u64 s2, u64 s3, u64 s4, u64 s5, u64 s6, u64 s7] := by unfold num8; rw [hS', f0, f1, f2, f3, f4, f5, f6, f7]
 refine pure_of (ν := nuZ [x, y, z, n] [Sh.w0 x, w1 x, w2 x, w3 x, Sh.w0 y, w1 y, w2 y, w3 y, Sh.w0 z, w1 z, w2 z, w3 z, t0, t1, t2, t3, t4, t5, t6, t7, s0, k0, s1, k1, s2, k2, s3, k3, s4, k4, s5, k5, s6, k6, s7, k7, Sh.w0 n, w1 n, w2 n, w3 n]) (args := [rw8 0, rw8 1, rw8 2]) (noFacts_hold _) mixed tab_ok (fun r hr => ?_) pm_says (by kernel_rfl) (by kernel_rfl)
 simp only [pmT, List.mem_cons, List.not_mem_nil, or_false] at hr
 rcases hr with rfl | rfl | rfl | rfl | rfl | rfl | rfl | rfl | rfl | rfl | rfl | rfl | rfl | rfl
 ·exact rowOfB (x := x) (by kernel_rfl) (by kernel_rfl)
 ·exact rowOfB (x := y) (by kernel_rfl) (by kernel_rfl)
 ·exact rowOfB (x := z) (by kernel_rfl) (by kernel_rfl)
 ·exact ⟨[num x, num y], num8 T, by kernel_rfl, by rw [eT]; kernel_rfl, by rw [← hT]; exact times_ok x y hx hy⟩
 ·exact rowA (x := t0) (y := Sh.w0 z) (c := 0) (z := s0) (k := k0) (by kernel_rfl) (by kernel_rfl) (by kernel_rfl) (by kernel_rfl) (by kernel_rfl) (by decide) a0.1 a0.2
 ·exact rowA (x := t1) (y := w1 z) (c := k0) (z := s1) (k := k1) (by kernel_rfl) (by kernel_rfl) (by kernel_rfl) (by kernel_rfl) (by kernel_rfl) q0 a1.1 a1.2
 ·exact rowA (x := t2) (y := w2 z) (c := k1) (z := s2) (k := k2) (by kernel_rfl) (by kernel_rfl) (by kernel_rfl) (by kernel_rfl) (by kernel_rfl) q1 a2.1 a2.2
 ·exact rowA (x := t3) (y := w3 z) (c := k2) (z := s3) (k := k3) (by kernel_rfl) (by kernel_rfl) (by kernel_rfl) (by kernel_rfl) (by kernel_rfl) q2 a3.1 a3.2
 ·exact rowA (x := t4) (y := 0) (c := k3) (z := s4) (k := k4) (by kernel_rfl) (by kernel_rfl) (by kernel_rfl) (by kernel_rfl) (by kernel_rfl) q3 a4.1 a4.2
 ·exact rowA (x := t5) (y := 0) (c := k4) (z := s5) (k := k5) (by kernel_rfl) (by kernel_rfl) (by kernel_rfl) (by kernel_rfl) (by kernel_rfl) q4 a5.1 a5.2
 ·exact rowA (x := t6) (y := 0) (c := k5) (z := s6) (k := k6) (by kernel_rfl) (by kernel_rfl) (by kernel_rfl) (by kernel_rfl) (by kernel_rfl) q5 a6.1 a6.2
 ·exact rowA (x := t7) (y := 0) (c := k6) (z := s7) (k := k7) (by kernel_rfl) (by kernel_rfl) (by kernel_rfl) (by kernel_rfl) (by kernel_rfl) q6 a7.1 a7.2
 ·exact rowModL (T := S) hS hn (by rw [eS]; kernel_rfl) (by kernel_rfl)
 ·exact rowBytesP (x := n) (by kernel_rfl) (by kernel_rfl)
theorem PMulAdd_ok {x y z n : Nat} (hx : x < B4) (hy : y < B4) (hz : z < B4) (hn : (x * y + z) % ordL = n) : Pure Tryd.prog 31 [byt x, byt y, byt z] (byt n) := by
 obtain ⟨T, hT⟩ : ∃ T, x * y = T := ⟨_, rfl⟩
 obtain ⟨T', hT'⟩ : ∃ T', T / B4 = T' := ⟨_, rfl⟩
 obtain ⟨S, hS⟩ : ∃ S, T + z = S := ⟨_, rfl⟩
 have hb : S < B4 * B4 := by rw [← hS, ← hT]; exact mu_bound hx hy hz
 have hTb : T' < B4 := by rw [← hT']; exact Nat.div_lt_of_lt_mul (by omega)
 obtain ⟨l0, l1, l2, l3⟩ := w_lt T
 obtain ⟨l4, l5, l6, l7⟩ := w_lt T'
 obtain ⟨m0, m1, m2, m3⟩ := w_lt z
 have sT := split4 T
 have sT' := split4 T'
 have sz := split4 z
 rw [hT'] at sT
 rw [Nat.div_eq_of_lt hTb, Nat.zero_mul, Nat.add_zero] at sT'
 rw [Nat.div_eq_of_lt hz, Nat.zero_mul, Nat.add_zero] at sz
 have z0 : (0 : Nat) < 18446744073709551616 := by decide
 obtain ⟨s0, k0, a0⟩ : ∃ s k, add8 (Sh.w0 T) (Sh.w0 z) 0 s k := ⟨_, _, rfl, rfl⟩
 have q0 := add8_k a0 l0 m0 (by decide)
 obtain ⟨s1, k1, a1⟩ : ∃ s k, add8 (w1 T) (w1 z) k0 s k := ⟨_, _, rfl, rfl⟩
 have q1 := add8_k a1 l1 m1 q0
 obtain ⟨s2, k2, a2⟩ : ∃ s k, add8 (w2 T) (w2 z) k1 s k := ⟨_, _, rfl, rfl⟩
 have q2 := add8_k a2 l2 m2 q1
 obtain ⟨s3, k3, a3⟩ : ∃ s k, add8 (w3 T) (w3 z) k2 s k := ⟨_, _, rfl, rfl⟩
 have q3 := add8_k a3 l3 m3 q2
 obtain ⟨s4, k4, a4⟩ : ∃ s k, add8 (Sh.w0 T') 0 k3 s k := ⟨_, _, rfl, rfl⟩
 have q4 := add8_k a4 l4 z0 q3
 obtain ⟨s5, k5, a5⟩ : ∃ s k, add8 (w1 T') 0 k4 s k := ⟨_, _, rfl, rfl⟩
 have q5 := add8_k a5 l5 z0 q4
 obtain ⟨s6, k6, a6⟩ : ∃ s k, add8 (w2 T') 0 k5 s k := ⟨_, _, rfl, rfl⟩
 have q6 := add8_k a6 l6 z0 q5
 obtain ⟨s7, k7, a7⟩ : ∃ s k, add8 (w3 T') 0 k6 s k := ⟨_, _, rfl, rfl⟩
 have lo := lin4 _ _ _ _ _ _ _ _ _ _ _ _ _ _ _ _ _ (add8_all a0) (add8_all a1) (add8_all a2) (add8_all a3)
 have hi := lin4 _ _ _ _ _ _ _ _ _ _ _ _ _ _ _ _ _ (add8_all a4) (add8_all a5) (add8_all a6) (add8_all a7)
 rw [← sz] at lo
 rw [← sT'] at hi
 have key : S = s0 + s1 * 18446744073709551616 + s2 * 340282366920938463463374607431768211456 + s3 * 6277101735386680763835789423207666416102355444464034512896 + (T' + k3) * B4 := by
  rw [← hS, sT, Nat.add_mul]
  omega
 obtain ⟨f0, f1, f2, f3, fe⟩ := dig4 (add8_s a0) (add8_s a1) (add8_s a2) (add8_s a3) key
 have key2 : T' + k3 = s4 + s5 * 18446744073709551616 + s6 * 340282366920938463463374607431768211456 + s7 * 6277101735386680763835789423207666416102355444464034512896 + k7 * B4 := by
  rw [← hi]
  simp
 obtain ⟨f4, f5, f6, f7, _⟩ := dig4 (add8_s a4) (add8_s a5) (add8_s a6) (add8_s a7) key2
 exact pm_core x y z T T' S (T' + k3) n _ _ _ _ _ _ _ _ _ _ _ _ _ _ _ _ _ _ _ _ _ _ _ k7 hx hy hT hT' rfl rfl rfl rfl rfl rfl rfl rfl a0 a1 a2 a3 a4 a5 a6 a7 q0 q1 q2 q3 q4 q5 q6 hb fe f0 f1 f2 f3 f4 f5 f6 f7 (by rw [← hS, ← hT]; exact hn)
theorem rowPMu {ν : Nat → Int} {p q r s : AV} {x y z n : Nat} (hx : x < B4) (hy : y < B4) (hz : z < B4) (hn : (x * y + z) % ordL = n) (h1 : conc2 ν p = some (byt x)) (h2 : conc2 ν q = some (byt y)) (h3 : conc2 ν r = some (byt z)) (h4 : conc ν s = some (byt n)) : Row.Ok ν Tryd.prog ⟨31, [p, q, r], s⟩ :=
 ⟨[byt x, byt y, byt z], byt n, by simp [concT, h1, h2, h3], h4, PMulAdd_ok hx hy hz hn⟩
end Go.Proofs.YtheidgcgdkmmiaaDoor
