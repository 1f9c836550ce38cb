/-
 THE PAGE's side: Uc, Ud, Ue, Vc, Vd, Ve. Own work.
-/
import Derived.Test.YtheidgcgdkmmiaaDoorMf
namespace Go.Proofs.YtheidgcgdkmmiaaDoor
open Go.Sh
open Go.ChangeShapes Go.WideShapes Go.ChangeAt Go.RowKit
set_option maxRecDepth 100000
/-! its pieces -/
def pls : List (Nat × AV) := [(2, .p 65 0), (3, .p 67 0), (4, .p 68 0)]
/-! the words -/
def or8I (k : IntKind) (x b : Int) : Int := qaj .or k (qaj .shl k x ((8 : Nat) : Int)) (k.wrap b)
theorem ad4 (p : Pr) (hp : p.k = .u32 ∨ p.k = .u64) (a b c d : Int) : adI p (adI p (adI p a b) c) d = adI p (adI p (adI p d b) c) a := by
 show p.k.wrap (p.k.wrap (p.k.wrap (a + b) + c) + d) = p.k.wrap (p.k.wrap (p.k.wrap (d + b) + c) + a)
 rcases hp with h | h <;> rw [h] <;> simp only [IntKind.wrap, IntKind.bits, IntKind.signed] <;> simp <;> omega
/-! what is kept -/
theorem keepX {P : Program} {N : Nat} {w0 : World} {ν : Nat → Int} {gl : Gl} {L fx : List (Nat × Pl)} {kp : List (Nat × Obj)} {o : Now} {a : Act} {w : World} {b : Nat} {x : ABlk} (h : HoldsX N w0 ν gl L fx kp o a w) (hb : (qam (o.H ++ gl) o.n).get b = some x) (ho : x.own = false) :
  ∃ pl ob, w.heap[pl.cb]? = some ob ∧ (qac < x.elem → PinB ν w x pl) ∧ HoldsX N w0 ν gl L ((b, pl) :: fx) ((pl.cb, ob) :: kp) o a w := by
 have _ := P
 obtain ⟨ρ, h0, h1, h2, h3, h4, h5, h6⟩ := h.has
 obtain ⟨pl, k1, k2⟩ := h2.blk b x hb
 obtain ⟨ob, hob⟩ : ∃ ob, w.heap[pl.cb]? = some ob := ⟨_, Array.getElem?_eq_getElem k2.lt⟩
 refine ⟨pl, ob, hob, k2.pin, h.low, h.big, ⟨ρ, fun p hp => ?_, h1, h2, h3, h4, fun p hp => ?_, h6⟩, fun p hp => ?_, h.laid, h.below, h.tmps, h.defers⟩
 ·rcases List.mem_cons.1 hp with rfl | hp
  ·exact k1
  ·exact h0 p hp
 ·rcases List.mem_cons.1 hp with rfl | hp
  ·rintro ⟨b', x', pl', q1, q2, q3, q4⟩
   refine h2.apart b' b x' x pl' pl (fun e => ?_) q1 hb q2 q3 k1 q4
   subst e
   rw [hb] at q1
   cases q1
   rw [ho] at q2
   cases q2
  ·exact h5 p hp
 ·rcases List.mem_cons.1 hp with rfl | hp
  ·exact hob
  ·exact h.kept p hp
theorem slotTo_win {ν ν' : Nat → Int} {fx : List (Nat × Pl)} {n : Nat} {vw : Nat → Option Pl} {b : Nat} {k' l l' : AI} {wd' : Nat} {pl pl' : Pl} {i' m : Nat} {cap : Cap} (hf : (b, pl) ∈ fx) (hv : vw b = some pl') (hcb : pl'.cb = pl.cb) (hk' : k'.val ν' = (i' : Int)) (hp : pl'.co = pl.co + i') (hl : l.val ν = (m : Int)) (hl' : l'.val ν' = (m : Int)) (hw : i' + wd' ≤ m) (hm : m < 4611686018427387904) :
  qaT ν ν' fx n vw (.sl b 0 l cap) (.slw b 1 k' wd' l' .any) := by
 intro ρ ρ' v hfx hA h
 cases h
 rename_i q n' cc h4 h1 h2 h3
 have e1 := hfx _ hf
 have e1 : ρ b = some pl := e1
 rw [h1] at e1
 cases e1
 have e3 : n' = m := by rw [hl] at h2; omega
 subst e3
 rw [← hcb]
 exact .slw b 1 k' wd' l' .any pl' (pl.co + 0) i' n' cc (hA.1 _ _ hv) hk' (by omega) hw hl' trivial h4 hm
section
variable {w0 : World} {cb o N tt : Nat} {C : Array Value} {ty : TypeId} {fz : Nat × Nat} {z : Wd}
/-! the gets -/
end
/-! its pieces -/
def puQ : IC := t28.body
def puAQ : IC := puQ.sub [false]
def puBQ : IC := puQ.sub [true, false]
def puCQ : IC := puQ.sub [true, true, false]
def puDQ : IC := puQ.sub [true, true, true, false]
def puEQ : IC := puQ.sub [true, true, true, true, false, false]
def puRQ : IC := puQ.sub [true, true, true, true, false, true, false, false]
def puR1Q : IC := puRQ.sub [false]
def puRiQ : IC := puRQ.sub [true, true]
def pubQ : IC := puRQ.sub [true, false, false]
def pubAQ : IC := pubQ.sub [false]
def pubBQ : IC := pubQ.sub [true, false, false]
def pubWQ : IC := pubQ.sub [true, false, true, false, false]
def pubCQ : IC := pubQ.sub [true, true, false]
def pubDQ : IC := pubQ.sub [true, true, true, false, false]
def pubVQ : IC := pubQ.sub [true, true, true, false, true, false, false]
def pubEQ : IC := pubQ.sub [true, true, true, true]
def puFQ : IC := puQ.sub [true, true, true, true, true]
theorem pu_shapeQ : t28 = ⟨.seq puAQ (.seq puBQ (.seq puCQ (.seq puDQ (.seq (.seq puEQ (.block 0 (.loop (.seq puR1Q (.seq (.block 1 (.seq pubAQ (.seq (.seq pubBQ (.block 2 (.loop pubWQ))) (.seq pubCQ (.seq (.seq pubDQ (.block 6 (.loop pubVQ))) pubEQ))))) puRiQ))))) puFQ)))), [.c 2 (some 64)], 208⟩ := by kernel_rfl
def kAQ (j : Nat) : AI := nA (k256LQ.getD j 0)
def kBQ : Nat × ABlk := (67, ⟨rowC .u64 kAQ 80, eWQ, true⟩)
def hB7Q (f : Nat → AI) : Nat × ABlk := (68, ⟨rowC .u64 f 8, eVQ, true⟩)
def rowPQ (x : AV) (need : Gl) : RowM := ⟨56, [x, iN 128, iN 16], need, [.new T1]⟩
def pu0Q (x : AV) (H : List (Nat × ABlk)) : Now := ⟨[(0, x)], H, 65⟩
def puAoQ (x : AV) (H : List (Nat × ABlk)) : Now := ⟨[(0, x), (2, .p 65 0)], H ++ [reBQ], 66⟩
def puBoQ (x : AV) (H : List (Nat × ABlk)) : Now := ⟨[(0, x), (2, .p 65 0), (3, .p 67 0)], H ++ [reBQ, kBQ], 68⟩
def puCoQ (x : AV) (H : List (Nat × ABlk)) : Now := ⟨[(0, x), (2, .p 65 0), (3, .p 67 0), (4, .p 68 0)], H ++ [reBQ, kBQ, hB7Q h0AQ], 69⟩
def puDoQ : Now := ⟨(5, .sl 69 0 (.s (pinL T1)) .any) :: pls, [reBQ, kBQ, hB7Q h0AQ, (69, ⟨[], T1, false⟩)], 70⟩
def puEoQ : Now := ⟨(6, iN 0) :: (5, .sl 69 0 (.s (pinL T1)) .any) :: pls, [reBQ, kBQ, hB7Q h0AQ, (69, ⟨[], T1, false⟩)], 70⟩
noncomputable def puStartQ (x : AV) (H : List (Nat × ABlk)) : Bool := qaF qae tree [] [] [] [] [] 60 4 puAQ (pu0Q x H) .normal (puAoQ x H) && qaF qae tree [] [] [] [] [] 60 4 puBQ (puAoQ x H) .normal (puBoQ x H) && qaF qae tree [] [] [] [] [] 60 4 puCQ (puBoQ x H) .normal (puCoQ x H) && qaF qae tree [] [] [] [rowPQ x H] [] 60 4 puDQ (puCoQ x H) .normal puDoQ
theorem pu_start0Q : puStartQ .nsl [] = true := by kernel_rfl
theorem pu_start1Q : puStartQ (.sle false) [] = true := by kernel_rfl
theorem pu_start2Q : puStartQ slP0 [txP] = true := by kernel_rfl
theorem pu_goEQ : qaF qae tree [] [] [] [] [] 60 4 puEQ puDoQ .normal puEoQ = true := by kernel_rfl
/-! a round -/
def txQQ (wd : Nat) : Nat × ABlk := (69, ⟨rowC .u8 (nmA 64) wd, 0, false⟩)
def slQQ (wd : Nat) : AV := .slw 69 1 (.s 200) wd (.s 201) .any
def puNQ (wd : Nat) (f : Nat → AI) (l : List (Nat × AV)) (H : List (Nat × ABlk)) (n : Nat) : Now := ⟨l ++ (5, slQQ wd) :: pls, H ++ [reBQ, kBQ, hB7Q f, txQQ wd], n⟩
def fQQ (b : Bool) : Facts := ⟨[], [(.lss, .s 200, .s 201, b)], []⟩
theorem pu_goR1Q : qaF (fQQ true) tree [] [] [] [] [] 60 4 puR1Q (puNQ 128 (nmA 0) [(6, sI 200)] [] 70) .normal (puNQ 128 (nmA 0) [(6, sI 200)] [] 70) = true := by kernel_rfl
theorem pu_goReQ : qaF (fQQ false) tree [] [] [] [] [] 60 4 puR1Q (puNQ 0 (nmA 0) [(6, sI 200)] [] 70) (.exit 0) (puNQ 0 (nmA 0) [] [] 70) = true := by kernel_rfl
def wQQ (g : Nat → AI) : Nat × ABlk := (70, ⟨rowC .u64 g 80, eWQ, true⟩)
def vQQ (f : Nat → AI) : Nat × ABlk := (71, ⟨rowC .u64 f 8, eVQ, true⟩)
def puWQ (l : List (Nat × AV)) (g : Nat → AI) : Now := puNQ 128 (nmA 0) (l ++ [(6, sI 200), (7, .p 70 0)]) [wQQ g] 71
def puVQ (l : List (Nat × AV)) (f : Nat → AI) : Now := puNQ 128 (nmA 0) (l ++ [(6, sI 200), (7, .p 70 0), (12, .p 71 0)]) [wQQ (nmA 400), vQQ f] 72
theorem pu_gobAQ : qaF qae tree [] [] [] [] [] 60 4 pubAQ (puNQ 128 (nmA 0) [(6, sI 200)] [] 70) .normal (puWQ [] zeroA) = true := by kernel_rfl
theorem pu_gobBQ : qaF qae tree [] [] [] [] [] 60 4 pubBQ (puWQ [] zeroA) .normal (puWQ [(8, iN 0)] zeroA) = true := by kernel_rfl
def or8PQ (k : IntKind) (x : AI) (i : Nat) : AI := .e .or k (.e .shl k x (nA 8)) (.w k (.s (64 + i)))
def wpAQ (t : Nat) : AI := if Nat.blt t 16 then or8PQ .u64 (or8PQ .u64 (or8PQ .u64 (or8PQ .u64 (or8PQ .u64 (or8PQ .u64 (or8PQ .u64 (or8PQ .u64 (.s (400 + t)) (8 * t)) (8 * t + 1)) (8 * t + 2)) (8 * t + 3)) (8 * t + 4)) (8 * t + 5)) (8 * t + 6)) (8 * t + 7)
 else adA p512 (adA p512 (adA p512 (.s (400 + (t - 16))) (.s (400 + (t - 7)))) (sgA p512 p512.s0 (.s (400 + (t - 15))))) (sgA p512 p512.s1 (.s (400 + (t - 2))))
noncomputable def puWgoQ (t : Nat) : Bool := qaF qae tree [] [] [] [] [] 60 4 pubWQ (puWQ [(8, iN t)] (nmA 400)) .normal (puWQ [(8, iN (t + 1))] (setA (nmA 400) t (wpAQ t)))
theorem pu_goWQ : (List.range 80).all puWgoQ = true := by kernel_rfl
theorem pu_goWeQ : qaF qae tree [] [] [] [] [] 60 4 pubWQ (puWQ [(8, iN 80)] (nmA 400)) (.exit 2) (puWQ [] (nmA 400)) = true := by kernel_rfl
theorem pu_gobCQ : qaF qae tree [] [] [] [] [] 60 4 pubCQ (puWQ [] (nmA 400)) .normal (puVQ [] (nmA 0)) = true := by kernel_rfl
theorem pu_gobDQ : qaF qae tree [] [] [] [] [] 60 4 pubDQ (puVQ [] (nmA 0)) .normal (puVQ [(13, iN 0)] (nmA 0)) = true := by kernel_rfl
noncomputable def puVgoQ (t : Nat) : Bool := qaF qae tree [] [] [] [] [] 60 4 pubVQ (puVQ [(13, iN t)] (nmA 500)) .normal (puVQ [(13, iN (t + 1))] (rdAS p512 (kAQ t) (400 + t) 500))
theorem pu_goVQ : (List.range 80).all puVgoQ = true := by kernel_rfl
theorem pu_goVeQ : qaF qae tree [] [] [] [] [] 60 4 pubVQ (puVQ [(13, iN 80)] (nmA 500)) (.exit 6) (puVQ [] (nmA 500)) = true := by kernel_rfl
def puXQ : Now := puNQ 128 (fun j => adA p512 (nmA 0 j) (nmA 500 j)) [(6, sI 200)] [] 72
theorem pu_gobEQ : qaF qae tree [] [] [] [] [] 60 4 pubEQ (puVQ [] (nmA 500)) .normal puXQ = true := by kernel_rfl
def puXiQ : Now := puNQ 128 (fun j => adA p512 (nmA 0 j) (nmA 500 j)) [(6, .i .i64 (.e .add .i64 (.s 200) (nA 128)))] [] 72
theorem pu_goRiQ : qaF qae tree [] [] [] [] [] 60 4 puRiQ puXQ .normal puXiQ = true := by kernel_rfl
def outPQ (j : Nat) : AI := .w .u8 (.e .shr .u64 (.s (j / 8)) (nA (56 - 8 * (j % 8))))
def puZQ : Now := ⟨[(2, .p 65 0)], [(65, ⟨rowC .u8 outPQ 64, eOQ, true⟩)], 71⟩
theorem pu_goFQ : qaF qae tree [] [] [] [] [] 100 4 puFQ (puNQ 0 (nmA 0) [] [] 70) .ret puZQ = true := by kernel_rfl
/-! the words -/
def chain8 (m : Wd) (t : Nat) (x : Int) : Int := or8I .u64 (or8I .u64 (or8I .u64 (or8I .u64 (or8I .u64 (or8I .u64 (or8I .u64 (or8I .u64 x (m (8 * t))) (m (8 * t + 1))) (m (8 * t + 2))) (m (8 * t + 3))) (m (8 * t + 4))) (m (8 * t + 5))) (m (8 * t + 6))) (m (8 * t + 7))
def wpwQ (m W : Wd) (t : Nat) : Int := if t < 16 then chain8 m t (W t)
 else adI p512 (adI p512 (adI p512 (W (t - 16)) (W (t - 7))) (sgI p512 p512.s0 (W (t - 15)))) (sgI p512 p512.s1 (W (t - 2)))
def wpsQ (m : Wd) : Nat → Wd
 | 0 => fun _ => 0
 | t + 1 => fun j => if j = t then wpwQ m (wpsQ m t) t else wpsQ m t j
theorem word_eqQ {m : Wd} (_ : Bytes m 128) {t : Nat} (_ : t < 16) : chain8 m t 0 = (word4AQ t).val m := by
 have e : qaj .shl .u64 0 ((8 : Nat) : Int) = 0 := by decide
 have h : or8I .u64 0 (m (8 * t)) = qaj .or .u64 0 (IntKind.u64.wrap (m (8 * t))) := by
  unfold or8I
  rw [e]
 unfold chain8
 rw [h]
 rfl
theorem wps_loQ {m : Wd} (hm : Bytes m 128) : ∀ t, t ≤ 16 → ∀ j, wpsQ m t j = if j < t then w0IQ m j else 0
 | 0, _, j => by rw [if_neg (by omega)]; rfl
 | t + 1, ht, j => by
   have ih := wps_loQ hm t (by omega)
   show (if j = t then wpwQ m (wpsQ m t) t else wpsQ m t j) = _
   by_cases h : j = t
   ·subst h
    rw [if_pos rfl, if_pos (by omega)]
    unfold wpwQ
    rw [if_pos (by omega), ih j, if_neg (by omega), word_eqQ hm (by omega)]
    show _ = (w0AQ j).val m
    unfold w0AQ
    rw [if_pos (by simp; omega)]
   ·rw [if_neg h, ih j]
    by_cases h2 : j < t
    ·rw [if_pos h2, if_pos (by omega)]
    ·rw [if_neg h2, if_neg (by omega)]
theorem wps_hiQ {m : Wd} (hm : Bytes m 128) : ∀ i, wpsQ m (16 + i) = wst p512 (w0IQ m) i
 | 0 => by
   funext j
   rw [wps_loQ hm 16 (by omega)]
   show _ = w0IQ m j
   by_cases h : j < 16
   ·rw [if_pos h]
   ·rw [if_neg h]
    show 0 = (w0AQ j).val m
    unfold w0AQ
    rw [if_neg (by simp; omega)]
    rfl
 | i + 1 => by
   have ih := wps_hiQ hm i
   funext j
   show (if j = 16 + i then wpwQ m (wpsQ m (16 + i)) (16 + i) else wpsQ m (16 + i) j) = if j = 16 + i then wI p512 (wst p512 (w0IQ m) i) (16 + i) else wst p512 (w0IQ m) i j
   rw [ih]
   by_cases h : j = 16 + i
   ·rw [if_pos h, if_pos h]
    unfold wpwQ
    rw [if_neg (by omega)]
    exact ad4 p512 (.inr rfl) _ _ _ _
   ·rw [if_neg h, if_neg h]
theorem wps_allQ {m : Wd} (hm : Bytes m 128) : wpsQ m 80 = wst p512 (w0IQ m) 64 := wps_hiQ hm 64
/-! what is kept -/
def nuVQ (h win : Wd) (a n : Int) (W v : Wd) : Nat → Int := two (two (two (two h 64 win) 200 fun j => if j = 0 then a else n) 400 W) 500 v
section
variable {h win W v : Wd} {a n : Int}
theorem nuV_hQ {j : Nat} (hj : j < 8) : nuVQ h win a n W v j = h j := by
 unfold nuVQ
 rw [qbq (by omega), qbq (by omega), qbq (by omega), qbq (by omega)]
theorem nuV_wQ {j : Nat} (hj : j < 128) : nuVQ h win a n W v (64 + j) = win j := by
 unfold nuVQ
 rw [qbq (by omega), qbq (by omega), qbq (by omega), two_hi]
theorem nuV_WQ {j : Nat} (hj : j < 80) : nuVQ h win a n W v (400 + j) = W j := by
 unfold nuVQ
 rw [qbq (by omega), two_hi]
theorem nuV_vQ (j : Nat) : nuVQ h win a n W v (500 + j) = v j := two_hi j
theorem qbf {j : Nat} (hj : j < 8) : (nmA 0 j).val (nuVQ h win a n W v) = h j := by
 simp only [nmA, Nat.zero_add, AI.val]
 exact nuV_hQ hj
theorem wpA_valQ {t : Nat} (ht : t < 80) : (wpAQ t).val (nuVQ h win a n W v) = wpwQ win W t := by
 unfold wpAQ wpwQ
 by_cases h : t < 16
 ·rw [if_pos (by simpa using h), if_pos h]
  show or8I .u64 (or8I .u64 (or8I .u64 (or8I .u64 (or8I .u64 (or8I .u64 (or8I .u64 (or8I .u64 (nuVQ _ win a n W v (400 + t)) (nuVQ _ win a n W v (64 + 8 * t))) (nuVQ _ win a n W v (64 + (8 * t + 1)))) (nuVQ _ win a n W v (64 + (8 * t + 2)))) (nuVQ _ win a n W v (64 + (8 * t + 3)))) (nuVQ _ win a n W v (64 + (8 * t + 4)))) (nuVQ _ win a n W v (64 + (8 * t + 5)))) (nuVQ _ win a n W v (64 + (8 * t + 6)))) (nuVQ _ win a n W v (64 + (8 * t + 7))) = _
  rw [nuV_WQ ht, nuV_wQ (by omega), nuV_wQ (by omega), nuV_wQ (by omega), nuV_wQ (by omega), nuV_wQ (by omega), nuV_wQ (by omega), nuV_wQ (by omega), nuV_wQ (by omega)]
  rfl
 ·rw [if_neg (by simpa using h), if_neg h]
  show adI p512 (adI p512 (adI p512 (nuVQ _ win a n W v (400 + (t - 16))) (nuVQ _ win a n W v (400 + (t - 7)))) (sgI p512 p512.s0 (nuVQ _ win a n W v (400 + (t - 15))))) (sgI p512 p512.s1 (nuVQ _ win a n W v (400 + (t - 2)))) = _
  rw [nuV_WQ (by omega), nuV_WQ (by omega), nuV_WQ (by omega), nuV_WQ (by omega)]
theorem rdP_valQ (kc : Nat) {t : Nat} (ht : t < 80) (j : Nat) : (rdAS p512 (nA kc) (400 + t) 500 j).val (nuVQ h win a n W v) = rdI p512 kc (W t) v j := by
 have e := fun i => nuV_vQ (h := h) (win := win) (a := a) (n := n) (W := W) (v := v) i
 have ew : nuVQ h win a n W v (400 + t) = W t := nuV_WQ ht
 have e0 : nuVQ h win a n W v 500 = v 0 := e 0
 have k1 : (t1A p512 (nA kc) (400 + t) 500).val (nuVQ h win a n W v) = t1I p512 kc (W t) v := by
  show adI p512 (adI p512 (adI p512 (adI p512 (nuVQ h win a n W v (500 + 7)) (gtI p512 p512.g1 (nuVQ h win a n W v (500 + 4)))) (qaj .xor p512.k (qaj .and p512.k (nuVQ h win a n W v (500 + 4)) (nuVQ h win a n W v (500 + 5))) (qaj .and p512.k (qaj .xor p512.k p512.top (nuVQ h win a n W v (500 + 4))) (nuVQ h win a n W v (500 + 6))))) kc) (nuVQ h win a n W v (400 + t)) = _
  rw [e, e, e, e, ew]
  rfl
 have k2 : (t2A p512 500).val (nuVQ h win a n W v) = t2I p512 v := by
  show adI p512 (gtI p512 p512.g0 (nuVQ h win a n W v 500)) (qaj .xor p512.k (qaj .xor p512.k (qaj .and p512.k (nuVQ h win a n W v 500) (nuVQ h win a n W v (500 + 1))) (qaj .and p512.k (nuVQ h win a n W v 500) (nuVQ h win a n W v (500 + 2)))) (qaj .and p512.k (nuVQ h win a n W v (500 + 1)) (nuVQ h win a n W v (500 + 2)))) = _
  rw [e0, e, e]
  rfl
 match j with
 | 0 =>
   show adI p512 ((t1A p512 (nA kc) (400 + t) 500).val (nuVQ h win a n W v)) ((t2A p512 500).val (nuVQ h win a n W v)) = _
   rw [k1, k2]
   rfl
 | 1 => exact e0
 | 2 => exact e 1
 | 3 => exact e 2
 | 4 =>
   show adI p512 (nuVQ h win a n W v (500 + 3)) ((t1A p512 (nA kc) (400 + t) 500).val (nuVQ h win a n W v)) = _
   rw [k1, e]
   rfl
 | 5 => exact e 4
 | 6 => exact e 5
 | _ + 7 => exact e 6
end
section
variable {w0 : World} {cb o N tt : Nat} {C : Array Value} {ty : TypeId} {fz : Nat × Nat} {z : Wd}
theorem pu_renQ {ν ν' : Nat → Int} {wd wd' i i' n n' : Nat} {f f' : Nat → AI} {l l' : List (Nat × AV)} {H H' : List (Nat × ABlk)} {a : Act} {w : World} (hz : ∀ j, j < N → C[o + j]? = some (.int .u8 (z j)))
  (h : HoldsX 208 w0 ν [] [] [(69, ⟨cb, o + i, tt⟩)] [(cb, .cells C ty fz)] (puNQ wd f l H n) a w) (hn' : 70 ≤ n')
  (g65 : (qam ((puNQ wd f l H n).H ++ []) n).get 65 = some reBQ.2) (g67 : (qam ((puNQ wd f l H n).H ++ []) n).get 67 = some kBQ.2) (g68 : (qam ((puNQ wd f l H n).H ++ []) n).get 68 = some (hB7Q f).2)
  (ha : ν 200 = (i : Int)) (ha' : ν' 200 = (i' : Int)) (hN : ν 201 = (N : Int)) (hN' : ν' 201 = (N : Int)) (hw : i' + wd' ≤ N)
  (hf : ∀ j, j < 8 → (f j).val ν = (f' j).val ν') (hwin : ∀ j, j < wd' → ν' (64 + j) = z (i' + j))
  (hl : ∀ p ∈ l', ∃ x, (p.1, x) ∈ l ∧ ((∃ u, conc ν x = some u ∧ conc ν' p.2 = some u) ∨ ∃ b, x = .p b 0 ∧ p.2 = .p b 0 ∧ b < n' ∧ b ≠ 69))
  (hH : ∀ p ∈ H', gmax ≤ p.1 ∧ p.1 < n' ∧ p.1 ≠ 69 ∧ ∃ k m e fA fB, (qam ((puNQ wd f l H n).H ++ []) n).get p.1 = some ⟨rowC k fA m, e, true⟩ ∧ p.2 = ⟨rowC k fB m, e, true⟩ ∧ e < qac ∧ ∀ j, j < m → (fA j).val ν = (fB j).val ν') :
  HoldsX 208 w0 ν' [] [] [(69, ⟨cb, o + i', tt⟩)] [(cb, .cells C ty fz)] (puNQ wd' f' l' H' n') a w := by
 have hkept := h.kept (cb, .cells C ty fz) List.mem_cons_self
 have no : ∀ b, b ≠ 69 → (fun b => if b = 69 then some (⟨cb, o + i', tt⟩ : Pl) else none) b = none := fun b hb => if_neg hb
 refine HoldsX.rename qbG h (fun b => if b = 69 then some ⟨cb, o + i', tt⟩ else none) (Nat.le_trans (by decide) hn') (fun _ hp => hp) (fun b pl hv => ?_) (fun p hp => ?_) (fun p hp => ?_) fun p hp => ?_
 ·by_cases hb : b = 69
  ·subst hb; exact ⟨by decide, by omega⟩
  ·rw [if_neg hb] at hv; cases hv
 ·simp only [List.mem_cons, List.not_mem_nil, or_false] at hp
  subst hp
  exact .inl rfl
 ·rcases List.mem_append.1 hp with hp | hp
  ·obtain ⟨x, q1, q2⟩ := hl p hp
   refine ⟨x, List.mem_append.2 (.inl q1), ?_⟩
   rcases q2 with ⟨u, q2, q3⟩ | ⟨b, rfl, q3, q4, q5⟩
   ·exact qaT.conc q2 q3
   ·rw [q3]
    exact qaT.p _ q4 (no b q5)
  ·simp only [pls, List.mem_cons, List.not_mem_nil, or_false] at hp
   rcases hp with rfl | rfl | rfl | rfl
   ·exact ⟨slQQ wd, List.mem_append.2 (.inr (by simp)), qaT.slw (pl := ⟨cb, o + i, tt⟩) (pl' := ⟨cb, o + i', tt⟩) (i := i) (i' := i') (m := N) List.mem_cons_self rfl rfl rfl ha ha' (by show o + i' + i * 1 = o + i + i' * 1; omega) hN hN' hw⟩
   ·exact ⟨.p 65 0, List.mem_append.2 (.inr (by simp [pls])), qaT.p _ (by omega) rfl⟩
   ·exact ⟨.p 67 0, List.mem_append.2 (.inr (by simp [pls])), qaT.p _ (by omega) rfl⟩
   ·exact ⟨.p 68 0, List.mem_append.2 (.inr (by simp [pls])), qaT.p _ (by omega) rfl⟩
 ·rcases List.mem_append.1 hp with hp | hp
  ·obtain ⟨q1, q2, q3, k, m, e, fA, fB, q4, q5, q6, q7⟩ := hH p hp
   refine ⟨q1, q2, .inr ⟨no _ q3, _, q4, by rw [q5], ?_⟩⟩
   rw [q5]
   exact qaS q6 q7
  ·simp only [List.mem_cons, List.not_mem_nil, or_false] at hp
   rcases hp with rfl | rfl | rfl | rfl
   ·exact ⟨by decide, by show 65 < n'; omega, .inr ⟨rfl, _, g65, rfl, qaS (by decide) fun j _ => rfl⟩⟩
   ·exact ⟨by decide, by show 67 < n'; omega, .inr ⟨rfl, _, g67, rfl, qaS (by decide) fun j _ => rfl⟩⟩
   ·exact ⟨show gmax ≤ 68 by decide, by show 68 < n'; omega, .inr ⟨rfl, _, g68, rfl, qaS (by decide) hf⟩⟩
   ·refine ⟨show gmax ≤ 69 by decide, by show 69 < n'; omega, .inl ⟨_, rfl, rfl, ⟨_, List.mem_cons_self⟩, fun ρ' => ?_⟩⟩
    have hc : qaZ w .u8 cb (o + i') wd' (fun j => z (i' + j)) := ⟨C, ty, fz, hkept, fun j hj => by rw [Nat.add_assoc]; exact hz _ (by omega)⟩
    exact hc.br (by decide) fun j hj => hwin j hj
/-! the gets -/
theorem gN65Q (wd : Nat) (f : Nat → AI) (l : List (Nat × AV)) : (qam ((puNQ wd f l [] 70).H ++ []) 70).get 65 = some reBQ.2 := by kernel_rfl
theorem gN67Q (wd : Nat) (f : Nat → AI) (l : List (Nat × AV)) : (qam ((puNQ wd f l [] 70).H ++ []) 70).get 67 = some kBQ.2 := by kernel_rfl
theorem gN68Q (wd : Nat) (f : Nat → AI) (l : List (Nat × AV)) : (qam ((puNQ wd f l [] 70).H ++ []) 70).get 68 = some (hB7Q f).2 := by kernel_rfl
theorem gW65Q (wd : Nat) (f g : Nat → AI) (l : List (Nat × AV)) : (qam ((puNQ wd f l [wQQ g] 71).H ++ []) 71).get 65 = some reBQ.2 := by kernel_rfl
theorem gW67Q (wd : Nat) (f g : Nat → AI) (l : List (Nat × AV)) : (qam ((puNQ wd f l [wQQ g] 71).H ++ []) 71).get 67 = some kBQ.2 := by kernel_rfl
theorem gW68Q (wd : Nat) (f g : Nat → AI) (l : List (Nat × AV)) : (qam ((puNQ wd f l [wQQ g] 71).H ++ []) 71).get 68 = some (hB7Q f).2 := by kernel_rfl
theorem gW70Q (wd : Nat) (f g : Nat → AI) (l : List (Nat × AV)) : (qam ((puNQ wd f l [wQQ g] 71).H ++ []) 71).get 70 = some (wQQ g).2 := by kernel_rfl
theorem gV65Q (wd : Nat) (f g v : Nat → AI) (l : List (Nat × AV)) : (qam ((puNQ wd f l [wQQ g, vQQ v] 72).H ++ []) 72).get 65 = some reBQ.2 := by kernel_rfl
theorem gV67Q (wd : Nat) (f g v : Nat → AI) (l : List (Nat × AV)) : (qam ((puNQ wd f l [wQQ g, vQQ v] 72).H ++ []) 72).get 67 = some kBQ.2 := by kernel_rfl
theorem gV68Q (wd : Nat) (f g v : Nat → AI) (l : List (Nat × AV)) : (qam ((puNQ wd f l [wQQ g, vQQ v] 72).H ++ []) 72).get 68 = some (hB7Q f).2 := by kernel_rfl
theorem gV70Q (wd : Nat) (f g v : Nat → AI) (l : List (Nat × AV)) : (qam ((puNQ wd f l [wQQ g, vQQ v] 72).H ++ []) 72).get 70 = some (wQQ g).2 := by kernel_rfl
theorem gV71Q (wd : Nat) (f g v : Nat → AI) (l : List (Nat × AV)) : (qam ((puNQ wd f l [wQQ g, vQQ v] 72).H ++ []) 72).get 71 = some (vQQ v).2 := by kernel_rfl
theorem gX65Q (wd : Nat) (f : Nat → AI) (l : List (Nat × AV)) : (qam ((puNQ wd f l [] 72).H ++ []) 72).get 65 = some reBQ.2 := by kernel_rfl
theorem gX67Q (wd : Nat) (f : Nat → AI) (l : List (Nat × AV)) : (qam ((puNQ wd f l [] 72).H ++ []) 72).get 67 = some kBQ.2 := by kernel_rfl
theorem gX68Q (wd : Nat) (f : Nat → AI) (l : List (Nat × AV)) : (qam ((puNQ wd f l [] 72).H ++ []) 72).get 68 = some (hB7Q f).2 := by kernel_rfl
end
end Go.Proofs.YtheidgcgdkmmiaaDoor
