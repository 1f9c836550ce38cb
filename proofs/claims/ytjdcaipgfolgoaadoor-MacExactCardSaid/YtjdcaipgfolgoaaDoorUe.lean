/-
  trystref01.Sum256: a round. Own work.
-/
import Derived.Test.YtjdcaipgfolgoaaDoorUd
namespace Go.Proofs.YtjdcaipgfolgoaaDoor
open Go.Sh
open Go.ChangeShapes Go.WideShapes Go.RowKit
set_option maxRecDepth 100000

/-- The names: the words so far, the window, where it begins, how long all is, the block's words, the words at work. -/
def nuV (h win : Wd) (a n : Int) (W v : Wd) : Nat → Int := two (two (two (two h 100 win) 200 fun j => if j = 0 then a else n) 400 W) 500 v
section
variable {h win W v : Wd} {a n : Int}
theorem nuV_h {j : Nat} (hj : j < 8) : nuV h win a n W v j = h j := by
  unfold nuV
  rw [two_lo (by omega), two_lo (by omega), two_lo (by omega), two_lo (by omega)]
theorem nuV_w {j : Nat} (hj : j < 64) : nuV h win a n W v (100 + j) = win j := by
  unfold nuV
  rw [two_lo (by omega), two_lo (by omega), two_lo (by omega), two_hi]
theorem nuV_a : nuV h win a n W v 200 = a := rfl
theorem nuV_n : nuV h win a n W v 201 = n := rfl
theorem nuV_W {j : Nat} (hj : j < 64) : nuV h win a n W v (400 + j) = W j := by
  unfold nuV
  rw [two_lo (by omega), two_hi]
theorem nuV_v (j : Nat) : nuV h win a n W v (500 + j) = v j := two_hi j
theorem nm0_val {j : Nat} (hj : j < 8) : (nmA 0 j).val (nuV h win a n W v) = h j := by
  simp only [nmA, Nat.zero_add, AI.val]
  exact nuV_h hj
theorem wpA_val {t : Nat} (ht : t < 64) : (wpA t).val (nuV h win a n W v) = wpw win W t := by
  unfold wpA wpw
  by_cases h : t < 16
  · rw [if_pos (by simpa using h), if_pos h]
    show or8I .u32 (or8I .u32 (or8I .u32 (or8I .u32 (nuV _ win a n W v (400 + t)) (nuV _ win a n W v (100 + 4 * t))) (nuV _ win a n W v (100 + (4 * t + 1)))) (nuV _ win a n W v (100 + (4 * t + 2)))) (nuV _ win a n W v (100 + (4 * t + 3))) = _
    rw [nuV_W ht, nuV_w (by omega), nuV_w (by omega), nuV_w (by omega), nuV_w (by omega)]
  · rw [if_neg (by simpa using h), if_neg h]
    show adI p256 (adI p256 (adI p256 (nuV _ win a n W v (400 + (t - 16))) (nuV _ win a n W v (400 + (t - 7)))) (sgI p256 p256.s0 (nuV _ win a n W v (400 + (t - 15))))) (sgI p256 p256.s1 (nuV _ win a n W v (400 + (t - 2)))) = _
    rw [nuV_W (by omega), nuV_W (by omega), nuV_W (by omega), nuV_W (by omega)]
theorem rdP_val (kc : Nat) {t : Nat} (ht : t < 64) (j : Nat) : (rdA p256 (nA kc) (400 + t) 500 j).val (nuV h win a n W v) = rdI p256 kc (W t) v j := by
  have e := fun i => nuV_v (h := h) (win := win) (a := a) (n := n) (W := W) (v := v) i
  have ew : nuV h win a n W v (400 + t) = W t := nuV_W ht
  have e0 : nuV h win a n W v 500 = v 0 := e 0
  have k1 : (t1A p256 (nA kc) (400 + t) 500).val (nuV h win a n W v) = t1I p256 kc (W t) v := by
    show adI p256 (adI p256 (adI p256 (adI p256 (nuV h win a n W v (500 + 7)) (gtI p256 p256.g1 (nuV h win a n W v (500 + 4)))) (arith .xor p256.k (arith .and p256.k (nuV h win a n W v (500 + 4)) (nuV h win a n W v (500 + 5))) (arith .and p256.k (arith .xor p256.k p256.top (nuV h win a n W v (500 + 4))) (nuV h win a n W v (500 + 6))))) kc) (nuV h win a n W v (400 + t)) = _
    rw [e, e, e, e, ew]
    rfl
  have k2 : (t2A p256 500).val (nuV h win a n W v) = t2I p256 v := by
    show adI p256 (gtI p256 p256.g0 (nuV h win a n W v 500)) (arith .xor p256.k (arith .xor p256.k (arith .and p256.k (nuV h win a n W v 500) (nuV h win a n W v (500 + 1))) (arith .and p256.k (nuV h win a n W v 500) (nuV h win a n W v (500 + 2)))) (arith .and p256.k (nuV h win a n W v (500 + 1)) (nuV h win a n W v (500 + 2)))) = _
    rw [e0, e, e]
    rfl
  match j with
  | 0 =>
    show adI p256 ((t1A p256 (nA kc) (400 + t) 500).val (nuV h win a n W v)) ((t2A p256 500).val (nuV h win a n W v)) = _
    rw [k1, k2]
    rfl
  | 1 => exact e0
  | 2 => exact e 1
  | 3 => exact e 2
  | 4 =>
    show adI p256 (nuV h win a n W v (500 + 3)) ((t1A p256 (nA kc) (400 + t) 500).val (nuV h win a n W v)) = _
    rw [k1, e]
    rfl
  | 5 => exact e 4
  | 6 => exact e 5
  | _ + 7 => exact e 6
end
section
variable {w0 : World} {cb o N tt : Nat} {C : Array Value} {ty : TypeId} {fz : Nat × Nat} {z : Wd}
/-- Other names, and another window. -/
theorem pu_ren {ν ν' : Nat → Int} {wd wd' i i' n n' : Nat} {f f' : Nat → AI} {l l' : List (Nat × AV)} {H H' : List (Nat × ABlk)} {a : Act} {w : World} (hz : ∀ j, j < N → C[o + j]? = some (.int .u8 (z j)))
    (h : HoldsX 208 w0 ν [] [] [(69, ⟨cb, o + i, tt⟩)] [(cb, .cells C ty fz)] (puN wd f l H n) a w) (hn' : 70 ≤ n')
    (g65 : (heapL ((puN wd f l H n).H ++ []) n).get 65 = some reB.2) (g67 : (heapL ((puN wd f l H n).H ++ []) n).get 67 = some kB.2) (g68 : (heapL ((puN wd f l H n).H ++ []) n).get 68 = some (hB7 f).2)
    (ha : ν 200 = (i : Int)) (ha' : ν' 200 = (i' : Int)) (hN : ν 201 = (N : Int)) (hN' : ν' 201 = (N : Int)) (hw : i' + wd' ≤ N)
    (hf : ∀ j, j < 8 → (f j).val ν = (f' j).val ν') (hwin : ∀ j, j < wd' → ν' (100 + j) = z (i' + j))
    (hl : ∀ p ∈ l', ∃ x, (p.1, x) ∈ l ∧ ((∃ u, conc ν x = some u ∧ conc ν' p.2 = some u) ∨ ∃ b, x = .p b 0 ∧ p.2 = .p b 0 ∧ b < n' ∧ b ≠ 69))
    (hH : ∀ p ∈ H', gmax ≤ p.1 ∧ p.1 < n' ∧ p.1 ≠ 69 ∧ ∃ k m e fA fB, (heapL ((puN wd f l H n).H ++ []) n).get p.1 = some ⟨rowC k fA m, e, true⟩ ∧ p.2 = ⟨rowC k fB m, e, true⟩ ∧ e < mapTag ∧ ∀ j, j < m → (fA j).val ν = (fB j).val ν') :
    HoldsX 208 w0 ν' [] [] [(69, ⟨cb, o + i', tt⟩)] [(cb, .cells C ty fz)] (puN wd' f' l' H' n') a w := by
  have hkept := h.kept (cb, .cells C ty fz) List.mem_cons_self
  have no : ∀ b, b ≠ 69 → (fun b => if b = 69 then some (⟨cb, o + i', tt⟩ : Pl) else none) b = none := fun b hb => if_neg hb
  refine HoldsX.rename gl0_ok h (fun b => if b = 69 then some ⟨cb, o + i', tt⟩ else none) (Nat.le_trans (by decide) hn') (fun _ hp => hp) (fun b pl hv => ?_) (fun p hp => ?_) (fun p hp => ?_) fun p hp => ?_
  · by_cases hb : b = 69
    · subst hb; exact ⟨by decide, by omega⟩
    · rw [if_neg hb] at hv; cases hv
  · simp only [List.mem_cons, List.not_mem_nil, or_false] at hp
    subst hp
    exact .inl rfl
  · rcases List.mem_append.1 hp with hp | hp
    · obtain ⟨x, q1, q2⟩ := hl p hp
      refine ⟨x, List.mem_append.2 (.inl q1), ?_⟩
      rcases q2 with ⟨u, q2, q3⟩ | ⟨b, rfl, q3, q4, q5⟩
      · exact SlotTo.conc q2 q3
      · rw [q3]
        exact SlotTo.p _ q4 (no b q5)
    · simp only [pls, List.mem_cons, List.not_mem_nil, or_false] at hp
      rcases hp with rfl | rfl | rfl | rfl
      · exact ⟨slQ wd, List.mem_append.2 (.inr (by simp)), SlotTo.slw (pl := ⟨cb, o + i, tt⟩) (pl' := ⟨cb, o + i', tt⟩) (i := i) (i' := i') (m := N) List.mem_cons_self rfl rfl rfl ha ha' (by show o + i' + i * 1 = o + i + i' * 1; omega) hN hN' hw⟩
      · exact ⟨.p 65 0, List.mem_append.2 (.inr (by simp [pls])), SlotTo.p _ (by omega) rfl⟩
      · exact ⟨.p 67 0, List.mem_append.2 (.inr (by simp [pls])), SlotTo.p _ (by omega) rfl⟩
      · exact ⟨.p 68 0, List.mem_append.2 (.inr (by simp [pls])), SlotTo.p _ (by omega) rfl⟩
  · rcases List.mem_append.1 hp with hp | hp
    · obtain ⟨q1, q2, q3, k, m, e, fA, fB, q4, q5, q6, q7⟩ := hH p hp
      refine ⟨q1, q2, .inr ⟨no _ q3, _, q4, by rw [q5], ?_⟩⟩
      rw [q5]
      exact blkTo_row q6 q7
    · simp only [List.mem_cons, List.not_mem_nil, or_false] at hp
      rcases hp with rfl | rfl | rfl | rfl
      · exact ⟨by decide, by show 65 < n'; omega, .inr ⟨rfl, _, g65, rfl, blkTo_row (by decide) fun j _ => rfl⟩⟩
      · exact ⟨by decide, by show 67 < n'; omega, .inr ⟨rfl, _, g67, rfl, blkTo_row (by decide) fun j _ => rfl⟩⟩
      · exact ⟨show gmax ≤ 68 by decide, by show 68 < n'; omega, .inr ⟨rfl, _, g68, rfl, blkTo_row (by decide) hf⟩⟩
      · refine ⟨show gmax ≤ 69 by decide, by show 69 < n'; omega, .inl ⟨_, rfl, rfl, ⟨_, List.mem_cons_self⟩, fun ρ' => ?_⟩⟩
        have hc : CellsAt w .u8 cb (o + i') wd' (fun j => z (i' + j)) := ⟨C, ty, fz, hkept, fun j hj => by rw [Nat.add_assoc]; exact hz _ (by omega)⟩
        exact hc.br (by decide) fun j hj => hwin j hj
/-! the gets -/
theorem gN65 (wd : Nat) (f : Nat → AI) (l : List (Nat × AV)) : (heapL ((puN wd f l [] 70).H ++ []) 70).get 65 = some reB.2 := by kernel_rfl
theorem gN67 (wd : Nat) (f : Nat → AI) (l : List (Nat × AV)) : (heapL ((puN wd f l [] 70).H ++ []) 70).get 67 = some kB.2 := by kernel_rfl
theorem gN68 (wd : Nat) (f : Nat → AI) (l : List (Nat × AV)) : (heapL ((puN wd f l [] 70).H ++ []) 70).get 68 = some (hB7 f).2 := by kernel_rfl
theorem gW65 (wd : Nat) (f g : Nat → AI) (l : List (Nat × AV)) : (heapL ((puN wd f l [wQ g] 71).H ++ []) 71).get 65 = some reB.2 := by kernel_rfl
theorem gW67 (wd : Nat) (f g : Nat → AI) (l : List (Nat × AV)) : (heapL ((puN wd f l [wQ g] 71).H ++ []) 71).get 67 = some kB.2 := by kernel_rfl
theorem gW68 (wd : Nat) (f g : Nat → AI) (l : List (Nat × AV)) : (heapL ((puN wd f l [wQ g] 71).H ++ []) 71).get 68 = some (hB7 f).2 := by kernel_rfl
theorem gW70 (wd : Nat) (f g : Nat → AI) (l : List (Nat × AV)) : (heapL ((puN wd f l [wQ g] 71).H ++ []) 71).get 70 = some (wQ g).2 := by kernel_rfl
theorem gV65 (wd : Nat) (f g v : Nat → AI) (l : List (Nat × AV)) : (heapL ((puN wd f l [wQ g, vQ v] 72).H ++ []) 72).get 65 = some reB.2 := by kernel_rfl
theorem gV67 (wd : Nat) (f g v : Nat → AI) (l : List (Nat × AV)) : (heapL ((puN wd f l [wQ g, vQ v] 72).H ++ []) 72).get 67 = some kB.2 := by kernel_rfl
theorem gV68 (wd : Nat) (f g v : Nat → AI) (l : List (Nat × AV)) : (heapL ((puN wd f l [wQ g, vQ v] 72).H ++ []) 72).get 68 = some (hB7 f).2 := by kernel_rfl
theorem gV70 (wd : Nat) (f g v : Nat → AI) (l : List (Nat × AV)) : (heapL ((puN wd f l [wQ g, vQ v] 72).H ++ []) 72).get 70 = some (wQ g).2 := by kernel_rfl
theorem gV71 (wd : Nat) (f g v : Nat → AI) (l : List (Nat × AV)) : (heapL ((puN wd f l [wQ g, vQ v] 72).H ++ []) 72).get 71 = some (vQ v).2 := by kernel_rfl
theorem gX65 (wd : Nat) (f : Nat → AI) (l : List (Nat × AV)) : (heapL ((puN wd f l [] 72).H ++ []) 72).get 65 = some reB.2 := by kernel_rfl
theorem gX67 (wd : Nat) (f : Nat → AI) (l : List (Nat × AV)) : (heapL ((puN wd f l [] 72).H ++ []) 72).get 67 = some kB.2 := by kernel_rfl
theorem gX68 (wd : Nat) (f : Nat → AI) (l : List (Nat × AV)) : (heapL ((puN wd f l [] 72).H ++ []) 72).get 68 = some (hB7 f).2 := by kernel_rfl
end
end Go.Proofs.YtjdcaipgfolgoaaDoor
