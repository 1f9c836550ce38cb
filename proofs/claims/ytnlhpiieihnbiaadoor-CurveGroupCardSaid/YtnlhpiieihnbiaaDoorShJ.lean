/-
  THE SHADOW MACHINE: regions whose order is the text's. Own work.
-/
import Derived.Test.YtnlhpiieihnbiaaDoorShI
namespace Go.Sh

section
variable {ν : Nat → Int} {ρ : Emb} {F : Facts} {P : Program} {w : World} {H H' : AH} {call : CallFn} {ops : Array Oper} {N : Nat}

def cGuard (ops : Array Oper) : Option (Nat × Bool) → Option (Option (Nat × Bool))
  | none => some none
  | some g => match (ops[g.1]?).bind (·.dst) with | some t => some (some (t, g.2)) | none => none

/-- A compiled operation, and what it is made of. -/
structure IOk (P : Program) (N : Nat) (ops : Array Oper) (o : Oper) (x : IOp) : Prop where
  op : cOp P o = some x.op ∨ x.op = .bad
  dst : x.dst = o.dst
  lt : ∀ d, o.dst = some d → d < N
  guard : cGuard ops o.guard = some x.guard

theorem wanted_sim {e : Tr AV} {a : Act} {o : Oper} {x : IOp} {t : Bool} (hg : cGuard ops o.guard = some x.guard) (he : ∀ g, x.guard = some g → ∀ y, e.get g.1 = some y → VR ν ρ y (a.tmps.getD g.1 undef)) (h : wantedA e x.guard = some t) : Region.wanted o (yielded ops a.tmps) = t := by
  cases hog : o.guard with
  | none =>
    rw [hog] at hg
    simp only [cGuard, Option.some.injEq] at hg
    rw [← hg] at h
    simp only [wantedA, Option.some.injEq] at h
    simp [Region.wanted, hog, ← h]
  | some g =>
    rw [hog] at hg
    simp only [cGuard] at hg
    split at hg
    · rename_i s hs
      simp only [Option.some.injEq] at hg
      rw [← hg] at h he
      simp only [wantedA] at h
      split at h
      · rename_i b hb
        simp only [Option.some.injEq] at h
        have hv := he _ rfl _ hb
        generalize hgv : a.tmps.getD s undef = gv at hv
        cases hv
        have hget : a.tmps[s]? = some (.bool b) := by
          rw [Array.getD_eq_getD_getElem?] at hgv
          cases hq : a.tmps[s]? with
          | none => rw [hq] at hgv; simp [undef] at hgv
          | some y => rw [hq] at hgv; simpa using hgv
        simp only [Region.wanted, hog, yielded, hs, Option.bind_some, hget]
        rw [← h]
        cases b <;> cases g.2 <;> rfl
      · rename_i vs hb
        simp only [Option.some.injEq] at h
        have hv := he _ rfl _ hb
        generalize hgv : a.tmps.getD s undef = gv at hv
        cases hv
        rename_i us _ _
        have hget : a.tmps[s]? = some (.tuple us) ∨ a.tmps[s]? = none := by
          rw [Array.getD_eq_getD_getElem?] at hgv
          cases hq : a.tmps[s]? with
          | none => exact .inr rfl
          | some y => rw [hq] at hgv; left; simpa using hgv
        simp only [Region.wanted, hog, yielded, hs, Option.bind_some]
        rw [← h]
        rcases hget with hget | hget <;> rw [hget] <;> rfl
      · cases h
    · cases hg

theorem putE_get {e e' : Tr AV} {d : Option Nat} {v : AV} (h : putE e d v = some e') (j : Nat) : e'.get j = if d = some j then some v else e.get j := by
  cases d with
  | none => simp [putE] at h; subst h; simp
  | some d =>
    simp only [putE] at h
    split at h
    · rename_i hb
      simp only [Option.some.injEq] at h
      subst h
      simp only [Nat.blt_eq] at hb
      rw [Tr.get_put _ _ _ _ _ (by unfold room at hb; show d + 1 < 2 ^ 24; omega)]
      by_cases e1 : j = d
      · subst e1; simp
      · simp [e1, Ne.symm e1]
    · cases h

theorem put_size (a : Act) (d : Option Nat) (v : Value) : (a.put d v).tmps.size = a.tmps.size := by cases d <;> simp [Act.put]
theorem put_defers (a : Act) (d : Option Nat) (v : Value) : (a.put d v).defers = a.defers := by cases d <;> simp [Act.put]

theorem put_getD (a : Act) (d : Option Nat) (v : Value) (hd : ∀ d0, d = some d0 → d0 < a.tmps.size) (j : Nat) : (a.put d v).tmps.getD j undef = if d = some j then v else a.tmps.getD j undef := by
  cases d with
  | none => simp [Act.put]
  | some d =>
    have := hd d rfl
    simp only [Act.put, Array.getD_eq_getD_getElem?, Array.getElem?_setIfInBounds]
    by_cases e1 : d = j
    · subst e1; simp [this]
    · simp [e1]

theorem ER.put {e e' : Tr AV} {a : Act} {d : Option Nat} {r : AV} {v : Value} (he : ER ν ρ e a.tmps) (hv : VR ν ρ r v) (h : putE e d r = some e') (hd : ∀ d0, d = some d0 → d0 < a.tmps.size) : ER ν ρ e' (a.put d v).tmps := by
  intro j x hx
  rw [putE_get h j] at hx
  rw [put_getD a d v hd j]
  split at hx
  · rename_i hj
    rw [if_pos hj]
    cases hx
    exact hv
  · rename_i hj
    rw [if_neg hj]
    exact he j x hx

theorem reg_keeps (hc : ∀ f args H r H', call f args H = some (r, H') → Keeps H H') : ∀ (l : List IOp) (e : Tr AV) (H : AH) (e' : Tr AV) (H' : AH), regA F call l e H = some (e', H') → Keeps H H' := by
  intro l
  induction l with
  | nil =>
    intro e H e' H' h
    simp only [regA, Option.some.injEq, Prod.mk.injEq] at h
    obtain ⟨_, rfl⟩ := h
    exact Keeps.refl _
  | cons o r ih =>
    intro e H e' H' h
    simp only [regA] at h
    split at h
    · split at h
      · rename_i hop
        split at h
        · exact (opA_keeps hc hop).trans (ih _ _ _ _ h)
        · cases h
      · cases h
    · split at h
      · exact ih _ _ _ _ h
      · cases h
    · cases h

theorem reg_sim (hF : F.Hold ν) (hc : CallSim ν P call) {Q : Exit → Act → World → Prop} : ∀ (l : List IOp) (k : Nat) (e : Tr AV) (H : AH) (e' : Tr AV) (H' : AH) (ρ : Emb) (a : Act) (w : World),
    (∀ (i : Nat) x, l[i]? = some x → ∃ o, ops[k + i]? = some o ∧ IOk P N ops o x) → regA F call l e H = some (e', H') → ER ν ρ e a.tmps → HR ν ρ H w → Fresh ρ H H' → a.tmps.size = N →
    (∀ ρ' a' w', ER ν ρ' e' a'.tmps → HR ν ρ' H' w' → Stp ρ H w ρ' H' w' → a'.tmps.size = N → a'.defers = a.defers → Q .normal a' w') → wpOps P ops Q (List.range' k l.length) a w := by
  intro l
  induction l with
  | nil =>
    intro k e H e' H' ρ a w _ h he hh _ hN hQ
    simp only [regA, Option.some.injEq, Prod.mk.injEq] at h
    obtain ⟨rfl, rfl⟩ := h
    exact hQ ρ a w he hh (Stp.refl _ _ _) hN rfl
  | cons x r ih =>
    intro k e H e' H' ρ a w hl h he hh hfr hN hQ
    obtain ⟨o, ho, hok⟩ := hl 0 x rfl
    simp only [Nat.add_zero] at ho
    have hl' : ∀ (i : Nat) y, r[i]? = some y → ∃ o, ops[k + 1 + i]? = some o ∧ IOk P N ops o y := by
      intro i y hy
      obtain ⟨o2, h1, h2⟩ := hl (i + 1) y (by simpa using hy)
      exact ⟨o2, by rw [← h1]; congr 1; omega, h2⟩
    have hd : ∀ d0, o.dst = some d0 → d0 < a.tmps.size := by rw [hN]; exact hok.lt
    simp only [List.length_cons, List.range'_succ, wpOps, ho]
    simp only [regA] at h
    split at h
    · rename_i hw
      rw [wanted_sim (ν := ν) (ρ := ρ) hok.guard (fun g _ y hy => he g.1 y hy) hw]
      split at h
      · rename_i v H1 hop
        split at h
        · rename_i e1 hput
          have k1 := opA_keeps hc.keeps hop
          have k2 := reg_keeps hc.keeps r _ _ _ _ h
          simp only [if_true]
          have hop1 : cOp P o = some x.op := hok.op.resolve_right (fun hb => by rw [hb] at hop; cases hop)
          refine .inl (Oper.wp_mono ?_ (op_sim hF hc hh he hop1 hop (fun b h1 h2 => hfr b h1 (Nat.lt_of_lt_of_le h2 k2.next)) Q))
          rintro a1 w1 ⟨u, rfl, ρ1, hv, hh1, hs1⟩
          rw [hok.dst] at hput
          refine ih (k + 1) e1 H1 e' H' ρ1 _ w1 hl' h ((he.mono hs1.ext).put hv hput hd) hh1 ?_ (by rw [put_size]; exact hN) ?_
          · intro b h1 h2
            cases hb : ρ1 b with
            | none => rfl
            | some q =>
              have := hs1.fresh b (hfr b (Nat.le_trans k1.next h1) h2) (by rw [hb]; simp)
              omega
          · intro ρ' a' w' he' hh' hs' hN' hd'
            exact hQ ρ' a' w' he' hh' (hs1.trans hs' k1.next k2.next) hN' (by rw [hd', put_defers])
        · cases h
      · cases h
    · rename_i hw
      rw [wanted_sim (ν := ν) (ρ := ρ) hok.guard (fun g _ y hy => he g.1 y hy) hw]
      split at h
      · rename_i e1 hput
        rw [hok.dst] at hput
        simp only [Bool.false_eq_true, if_false]
        refine ih (k + 1) e1 H e' H' ρ _ w hl' h (he.put (VR.tp [] #[] rfl (by simp)) hput hd) hh hfr (by rw [put_size]; exact hN) ?_
        intro ρ' a' w' he' hh' hs' hN' hd'
        exact hQ ρ' a' w' he' hh' hs' hN' (by rw [hd', put_defers])
      · cases h
    · cases h

end
end Go.Sh
