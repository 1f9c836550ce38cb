/-
  THE SHADOW MACHINE: one operation, whatever it is. Own work.
-/
import Derived.Test.YtnlhpiieihnbiaaDoorShW
namespace Go.Sh

section
variable {ν : Nat → Int} {ρ : Emb} {F : Facts} {P : Program} {w : World} {H H' : AH} {o : Oper} {k : K} {e : Tr AV} {a : Act} {r : AV} {call : CallFn}

theorem wr_keeps {b off : Nat} {vs : List AV} (h : H.wr b off vs = some H') : Keeps H H' := by
  unfold AH.wr at h
  split at h
  · split at h
    · cases h
    · split at h
      · exact AH.lay_keeps h
      · cases h
  · cases h

theorem grown_keeps {t size bytes need : Nat} {old new : List AV} (h : grown H t size bytes need old new = some (r, H')) : Keeps H H' := by
  unfold grown at h
  split at h
  · split at h
    · rename_i b H2 hal
      simp only [Option.some.injEq, Prod.mk.injEq] at h
      obtain ⟨_, rfl⟩ := h
      exact AH.alloc_keeps (newRowA_spec hal).2
    · cases h
  · cases h

theorem appA_keeps {t size bytes : Nat} {x y : AV} (h : appA H t size bytes x y = some (r, H')) : Keeps H H' := by
  unfold appA at h
  split at h
  · split at h
    · cases h
    · split at h
      · split at h
        · simp only [Option.some.injEq, Prod.mk.injEq] at h
          obtain ⟨_, rfl⟩ := h
          exact Keeps.refl _
        · cases h
      · split at h
        · cases h
        · split at h
          · exact grown_keeps h
          · exact grown_keeps h
          · split at h
            · split at h
              · rename_i hw
                simp only [Option.some.injEq, Prod.mk.injEq] at h
                obtain ⟨_, rfl⟩ := h
                exact wr_keeps hw
              · cases h
            · split at h
              · exact grown_keeps h
              · cases h
          · split at h
            · split at h
              · split at h
                · rename_i hl
                  exact (AH.lay_keeps hl).trans (grown_keeps h)
                · cases h
              · cases h
            · cases h
          · cases h
  · cases h

theorem opA_keeps (hcall : ∀ f args H r H', call f args H = some (r, H') → Keeps H H') (h : opA F call e H k = some (r, H')) : Keeps H H' := by
  unfold opA at h
  split at h
  · split at h
    · simp only [Option.map_eq_some_iff, Prod.mk.injEq] at h
      obtain ⟨_, _, _, rfl⟩ := h
      exact Keeps.refl _
    · cases h
  · split at h
    · simp only [Option.map_eq_some_iff, Prod.mk.injEq] at h
      obtain ⟨⟨b, H2⟩, hal, _, rfl⟩ := h
      exact AH.alloc_keeps (newRowA_spec hal).2
    · cases h
  · split at h
    · simp only [Option.map_eq_some_iff, Prod.mk.injEq] at h
      obtain ⟨⟨b, H2⟩, hal, _, rfl⟩ := h
      exact AH.alloc_keeps (newRowA_spec hal).2
    · cases h
  · split at h
    · split at h
      · simp only [Option.map_eq_some_iff, Prod.mk.injEq] at h
        obtain ⟨⟨b, H2⟩, hal, _, rfl⟩ := h
        exact AH.alloc_keeps (newRowA_spec hal).2
      · cases h
    · cases h
  · split at h
    · split at h
      · simp only [Option.map_eq_some_iff, Prod.mk.injEq] at h
        obtain ⟨⟨b, H2⟩, hal, _, rfl⟩ := h
        exact AH.alloc_keeps (newRowA_spec hal).2
      · cases h
    · cases h
  · exact appA_keeps h
  · split at h
    · split at h
      · simp only [Option.map_eq_some_iff, Prod.mk.injEq] at h
        obtain ⟨H2, hw, _, rfl⟩ := h
        exact wr_keeps hw
      · cases h
    · cases h
  · split at h
    · dsimp only at h
      split at h
      · simp only [Option.map_eq_some_iff, Prod.mk.injEq] at h
        obtain ⟨H2, hw, _, rfl⟩ := h
        exact wr_keeps hw
      · split at h
        · simp only [Option.some.injEq, Prod.mk.injEq] at h
          obtain ⟨_, rfl⟩ := h
          exact Keeps.refl _
        · cases h
      · cases h
    · cases h
  · simp only [Option.map_eq_some_iff, Prod.mk.injEq] at h
    obtain ⟨⟨b, H2⟩, hal, _, rfl⟩ := h
    exact AH.alloc_keeps hal
  · split at h
    · simp only [Option.some.injEq, Prod.mk.injEq] at h
      obtain ⟨_, rfl⟩ := h
      exact Keeps.refl _
    · split at h
      · split at h
        · split at h
          · simp only [Option.some.injEq, Prod.mk.injEq] at h
            obtain ⟨_, rfl⟩ := h
            exact Keeps.refl _
          · simp only [Option.some.injEq, Prod.mk.injEq] at h
            obtain ⟨_, rfl⟩ := h
            exact Keeps.refl _
          · cases h
        · cases h
      · cases h
    · cases h
  · split at h
    · split at h
      · split at h
        · split at h
          · simp only [Option.map_eq_some_iff, Prod.mk.injEq] at h
            obtain ⟨H2, hl, _, rfl⟩ := h
            exact AH.lay_keeps hl
          · simp only [Option.map_eq_some_iff, Prod.mk.injEq] at h
            obtain ⟨H2, hl, _, rfl⟩ := h
            exact AH.lay_keeps hl
          · cases h
        · cases h
      · cases h
    · cases h
  · split at h
    · split at h
      · simp only [Option.map_eq_some_iff, Prod.mk.injEq] at h
        obtain ⟨_, _, _, rfl⟩ := h
        exact Keeps.refl _
      · cases h
    · cases h
  · exact hcall _ _ _ _ _ h
  · split at h
    · exact hcall _ _ _ _ _ h
    · cases h
  · simp only [Option.map_eq_some_iff, Prod.mk.injEq] at h
    obtain ⟨_, _, _, rfl⟩ := h
    exact Keeps.refl _

/-- What calls are to be. -/
def After (ν : Nat → Int) (ρ : Emb) (H : AH) (w : World) (r : AV) (H' : AH) (v : Value) (w' : World) : Prop := ∃ ρ', VR ν ρ' r v ∧ HR ν ρ' H' w' ∧ Stp ρ H w ρ' H' w'

/-- A call that runs a body. -/
def Runs (ν : Nat → Int) (P : Program) (f : Nat) (args : List AV) (H : AH) (r : AV) (H' : AH) : Prop :=
  (∃ fn, P.funcs[f]? = some fn ∧ fn.body.isSome = true ∧ (fn.name == "runtime.NumGoroutine") = false) ∧
    ∀ ρ w vs, LR ν ρ args vs → HR ν ρ H w → Fresh ρ H H' → Calls P f vs w fun e w' => ∃ v, e = .returned v ∧ After ν ρ H w r H' v w'

/-- A call of what has no body, and needs no memory. -/
def Tells (ν : Nat → Int) (P : Program) (f : Nat) (args : List AV) (H : AH) (r : AV) (H' : AH) : Prop :=
  H' = H ∧ ∀ ρ w vs, LR ν ρ args vs → ∃ v, (callFunc f vs).run P w = .ok (.value v) w ∧ VR ν ρ r v

structure CallSim (ν : Nat → Int) (P : Program) (call : CallFn) : Prop where
  keeps : ∀ f args H r H', call f args H = some (r, H') → Keeps H H'
  does : ∀ f args H r H', call f args H = some (r, H') → Runs ν P f args H r H' ∨ Tells ν P f args H r H'

theorem Eff.wp (h : Eff ν ρ P H w a o r H') (Q : Exit → Act → World → Prop) : o.wp P a w (fun a' w' => ∃ v, a' = a.put o.dst v ∧ After ν ρ H w r H' v w') Q := by
  obtain ⟨nx, v, w', ρ', h1, h2, h3, h4, h5⟩ := h
  unfold Oper.wp
  rw [h1]
  rcases h2 with rfl | ⟨rfl, rfl⟩
  · exact ⟨v, rfl, ρ', h3, h4, h5⟩
  · exact ⟨undef, rfl, ρ', h3, h4, h5⟩

theorem Val.eff (hh : HR ν ρ H w) (h : Val ν ρ P w a o r) : Eff ν ρ P H w a o r H := by
  obtain ⟨v, h1, h2⟩ := h
  exact ⟨_, v, w, ρ, h1, .inl rfl, h2, hh, Stp.refl _ _ _⟩

theorem call_wp (hc : CallSim ν P call) (hh : HR ν ρ H w) {f : Nat} {args : List AV} {vs : Array Value} (h : call f args H = some (r, H')) (hl : LR ν ρ args vs) (hfr : Fresh ρ H H') (Q : Exit → Act → World → Prop)
    (hrun : (execOp a.eval o).run P w = (callFunc f vs).run P w) :
    o.wp P a w (fun a' w' => ∃ v, a' = a.put o.dst v ∧ After ν ρ H w r H' v w') Q := by
  rcases hc.does _ _ _ _ _ h with ⟨⟨fn, h1, h2, h3⟩, hr⟩ | ⟨rfl, ht⟩
  · have h4 : ¬ fn.body = none := by intro hq; rw [hq] at h2; cases h2
    have h5 : (callFunc f vs).run P w = .ok (.enter f vs) w := by
      simp only [beq_eq_false_iff_ne, ne_eq] at h3
      simp [callFunc, h1, h3, h4]
    unfold Oper.wp
    rw [hrun, h5, Oper.upon_enter]
    refine (hr ρ w vs hl hh hfr).mono fun e w' hx => ?_
    obtain ⟨v, rfl, ha⟩ := hx
    exact ⟨v, rfl, ha⟩
  · obtain ⟨v, h1, h2⟩ := ht ρ w vs hl
    exact Eff.wp (H' := H') ⟨_, v, w, ρ, by rw [hrun, h1], .inl rfl, h2, hh, Stp.refl _ _ _⟩ Q

theorem op_sim (hF : F.Hold ν) (hc : CallSim ν P call) (hh : HR ν ρ H w) (he : ER ν ρ e a.tmps) (hk : cOp P o = some k) (h : opA F call e H k = some (r, H')) (hfr : Fresh ρ H H') (Q : Exit → Act → World → Prop) :
    o.wp P a w (fun a' w' => ∃ v, a' = a.put o.dst v ∧ After ν ρ H w r H' v w') Q := by
  by_cases hp : k.isPure = true
  · have hx : ∃ v, pureA F e k = some v ∧ v = r ∧ H = H' := by
      unfold opA at h
      split at h <;> first
        | (simp [K.isPure] at hp; done)
        | (simp only [Option.map_eq_some_iff, Prod.mk.injEq] at h
           obtain ⟨v, h1, h2, h3⟩ := h
           exact ⟨v, h1, h2, h3⟩)
    obtain ⟨v, h1, rfl, rfl⟩ := hx
    exact ((pure_sim hF he hk hp h1).eff hh).wp Q
  · have hk0 := hk
    unfold cOp at hk
    split at hk
    · simp only [Option.map_eq_some_iff] at hk
      obtain ⟨_, _, rfl⟩ := hk
      exact absurd rfl hp
    · simp only [Option.map_eq_some_iff] at hk
      obtain ⟨_, _, rfl⟩ := hk
      exact absurd rfl hp
    · simp only [Option.map_eq_some_iff, Option.bind_eq_some_iff] at hk
      obtain ⟨_, _, _, _, _, _, rfl⟩ := hk
      exact absurd rfl hp
    · rename_i t ho
      simp only [Option.map_eq_some_iff, Option.bind_eq_some_iff] at hk
      obtain ⟨zv, h1, z, h2, rfl⟩ := hk
      exact (sim_alloc hh ho h1 h2 hfr h).wp Q
    · rename_i t x ho
      simp only [Option.map_eq_some_iff] at hk
      obtain ⟨x', h1, rfl⟩ := hk
      exact (sim_box hh he ho h1 hfr h).wp Q
    · split at hk
      · simp only [Option.map_eq_some_iff, Option.bind_eq_some_iff] at hk
        obtain ⟨_, _, _, _, _, _, _, _, rfl⟩ := hk
        exact absurd rfl hp
      · simp only [Option.map_eq_some_iff, Option.bind_eq_some_iff] at hk
        obtain ⟨_, _, _, _, _, _, _, _, rfl⟩ := hk
        exact absurd rfl hp
      · cases hk
    · rename_i t n ps ho
      split at hk
      · rename_i t' hu
        simp only [Option.map_eq_some_iff, Option.bind_eq_some_iff] at hk
        obtain ⟨zv, h1, z, h2, s, h3, l, h4, rfl⟩ := hk
        exact (sim_bsl hh he ho hu h1 h2 h3 h4 hfr h).wp Q
      · cases hk
    · rename_i t x ho
      simp only [Option.map_eq_some_iff, Option.bind_eq_some_iff] at hk
      obtain ⟨x', h1, n, h2, rfl⟩ := hk
      exact (sim_ld hh he ho h1 h2 h).wp Q
    · rename_i t x v ho
      simp only [Option.map_eq_some_iff, Option.bind_eq_some_iff] at hk
      obtain ⟨x', h1, v', h2, n, h3, rfl⟩ := hk
      exact (sim_st hh he ho h1 h2 h3 h).wp Q
    · simp only [Option.map_eq_some_iff] at hk
      obtain ⟨_, _, rfl⟩ := hk
      exact absurd rfl hp
    · simp only [Option.bind_eq_some_iff] at hk
      obtain ⟨x', hx, y', hy, hk⟩ := hk
      split at hk
      · simp only [Option.some.injEq] at hk
        subst hk
        exact absurd rfl hp
      · split at hk
        · simp only [Option.some.injEq] at hk
          subst hk
          exact absurd rfl hp
        · simp only [Option.some.injEq] at hk
          subst hk
          exact absurd rfl hp
        · cases hk
      · split at hk
        · split at hk
          · simp only [Option.map_eq_some_iff] at hk
            obtain ⟨_, _, rfl⟩ := hk
            exact absurd rfl hp
          · simp only [Option.map_eq_some_iff] at hk
            obtain ⟨_, _, rfl⟩ := hk
            exact absurd rfl hp
          · cases hk
        · split at hk
          · simp only [Option.map_eq_some_iff] at hk
            obtain ⟨_, _, rfl⟩ := hk
            exact absurd rfl hp
          · simp only [Option.map_eq_some_iff] at hk
            obtain ⟨_, _, rfl⟩ := hk
            exact absurd rfl hp
          · cases hk
      · cases hk
    · simp only [Option.map_eq_some_iff] at hk
      obtain ⟨_, _, rfl⟩ := hk
      exact absurd rfl hp
    · simp only [Option.bind_eq_some_iff] at hk
      obtain ⟨x', hx, hk⟩ := hk
      rename_i s t x ho
      split at hk
      · simp only [Option.some.injEq] at hk
        subst hk
        exact absurd rfl hp
      · rename_i e' hs ht
        split at hk
        · rename_i hue
          simp only [Option.bind_eq_some_iff] at hk
          obtain ⟨sz, hsz, hk⟩ := hk
          split at hk
          · simp only [Option.some.injEq] at hk
            subst hk
            exact (sim_bts hh he ho hs ht hue hx h).wp Q
          · cases hk
        · cases hk
      · cases hk
    · rename_i t ho
      simp only [Option.some.injEq] at hk
      subst hk
      exact (sim_mkm hh ho hfr h).wp Q
    · rename_i t m k ok ho
      simp only [Option.bind_eq_some_iff] at hk
      obtain ⟨m', hm, k', hk', hk⟩ := hk
      split at hk
      · rename_i kt et hu
        split at hk
        · rename_i hkt
          simp only [Option.map_eq_some_iff] at hk
          obtain ⟨z, hz, rfl⟩ := hk
          exact (sim_lku (s := true) hh he ho hu hkt (rfl : KeyDesc true .string) hz hm hk' h).wp Q
        · rename_i k0 hkt
          simp only [Option.map_eq_some_iff] at hk
          obtain ⟨z, hz, rfl⟩ := hk
          exact (sim_lku (s := false) hh he ho hu hkt (⟨k0, rfl⟩ : KeyDesc false (.int k0)) hz hm hk' h).wp Q
        · cases hk
      · cases hk
    · rename_i t m k v ho
      simp only [Option.bind_eq_some_iff] at hk
      obtain ⟨m', hm, k', hk', v', hv, hk⟩ := hk
      split at hk
      · rename_i kt et hu
        split at hk
        · rename_i hkt
          simp only [Option.some.injEq] at hk
          subst hk
          exact (sim_mup (s := true) hh he ho hu hkt (rfl : KeyDesc true .string) hm hk' hv h).wp Q
        · rename_i k0 hkt
          simp only [Option.some.injEq] at hk
          subst hk
          exact (sim_mup (s := false) hh he ho hu hkt (⟨k0, rfl⟩ : KeyDesc false (.int k0)) hm hk' hv h).wp Q
        · cases hk
      · cases hk
    · simp only [Option.bind_eq_some_iff] at hk
      obtain ⟨x', hx, hk⟩ := hk
      split at hk
      · cases hk
      · simp only [Option.some.injEq] at hk
        subst hk
        exact absurd rfl hp
      · cases hk
    · split at hk
      · simp only [Option.map_eq_some_iff] at hk
        obtain ⟨_, _, rfl⟩ := hk
        exact absurd rfl hp
      · cases hk
    · rename_i t l c ho
      split at hk
      · rename_i t' hu
        simp only [Option.map_eq_some_iff, Option.bind_eq_some_iff] at hk
        obtain ⟨l', h1, c', h2, zv, h3, z, h4, i, h5, rfl⟩ := hk
        exact (sim_msl hh he ho hu h1 h2 h3 h4 h5 hfr h).wp Q
      · cases hk
    · simp only [Option.bind_eq_some_iff] at hk
      obtain ⟨_, _, _, _, _, _, _, _, hk⟩ := hk
      split at hk
      · simp only [Option.map_eq_some_iff] at hk
        obtain ⟨_, _, rfl⟩ := hk
        exact absurd rfl hp
      · simp only [Option.map_eq_some_iff] at hk
        obtain ⟨_, _, rfl⟩ := hk
        exact absurd rfl hp
      · cases hk
    · simp only [Option.bind_eq_some_iff] at hk
      obtain ⟨_, _, hk⟩ := hk
      split at hk
      · simp only [Option.bind_eq_some_iff] at hk
        obtain ⟨_, _, _, _, hk⟩ := hk
        split at hk
        · cases hk
        · simp only [Option.some.injEq] at hk
          subst hk
          exact absurd rfl hp
      · cases hk
    · simp only [Option.bind_eq_some_iff] at hk
      obtain ⟨_, _, hk⟩ := hk
      split at hk
      · simp only [Option.bind_eq_some_iff, Option.map_eq_some_iff] at hk
        obtain ⟨_, _, _, _, rfl⟩ := hk
        exact absurd rfl hp
      · cases hk
    · simp only [Option.bind_eq_some_iff] at hk
      obtain ⟨_, _, _, _, hk⟩ := hk
      split at hk
      · simp only [Option.map_eq_some_iff] at hk
        obtain ⟨_, _, rfl⟩ := hk
        exact absurd rfl hp
      · simp only [Option.map_eq_some_iff] at hk
        obtain ⟨_, _, rfl⟩ := hk
        exact absurd rfl hp
      · cases hk
    · simp only [Option.bind_eq_some_iff] at hk
      obtain ⟨_, _, _, _, hk⟩ := hk
      split at hk
      · simp only [Option.bind_eq_some_iff, Option.map_eq_some_iff] at hk
        obtain ⟨_, _, _, _, rfl⟩ := hk
        exact absurd rfl hp
      · cases hk
    · simp only [Option.bind_eq_some_iff] at hk
      obtain ⟨_, _, hk⟩ := hk
      split at hk
      · cases hk
      · simp only [Option.map_eq_some_iff] at hk
        obtain ⟨_, _, rfl⟩ := hk
        exact absurd rfl hp
      · cases hk
    · simp only [Option.map_eq_some_iff] at hk
      obtain ⟨_, _, rfl⟩ := hk
      exact absurd rfl hp
    · rename_i c ho
      obtain ⟨callee, args, ats⟩ := c
      simp only at hk
      split at hk
      · rename_i f _
        simp only [Option.map_eq_some_iff] at hk
        obtain ⟨l, hl, rfl⟩ := hk
        refine call_wp hc hh h (cOs_sim he hl) hfr Q ?_
        simp [execOp, ho, resolve, Act.eval, Deferred.ofValue, invoke]
      · rename_i x hnf
        simp only [Option.bind_eq_some_iff, Option.map_eq_some_iff] at hk
        obtain ⟨x', hx, l, hl, rfl⟩ := hk
        simp only [opA] at h
        split at h
        · rename_i f caps e1
          have hv := cO_sim he hx
          rw [e1] at hv
          generalize hxv : a.eval x = xv at hv
          cases hv
          rename_i vs hs1 hs2
          have hla := cOs_sim he hl
          refine call_wp hc hh h (vs := args.map a.eval ++ vs) ?_ hfr Q ?_
          · refine ⟨by rw [List.length_append, Array.size_append, hla.1, hs1], fun j y z hy hz => ?_⟩
            by_cases hj : j < (l.map (O.ev e)).length
            · rw [List.getElem?_append_left hj] at hy
              rw [Array.getElem?_append_left (by rw [← hla.1]; exact hj)] at hz
              exact hla.2 j y z hy hz
            · rw [List.getElem?_append_right (by omega)] at hy
              rw [Array.getElem?_append_right (by rw [← hla.1]; omega), ← hla.1] at hz
              exact hs2 _ y z hy hz
          · simp [execOp, ho, resolve, hxv, Deferred.ofValue, invoke]
        · cases h
      · rename_i b
        simp only [Option.bind_eq_some_iff] at hk
        obtain ⟨l, hl, hk⟩ := hk
        obtain ⟨g1, g2⟩ := mapO_spec _ _ _ hl
        have two : ∀ x y, l = [x, y] → ∃ p q, args = #[p, q] ∧ cO p = some x ∧ cO q = some y := by
          intro x y hxy
          subst hxy
          have hs : args.size = 2 := by simpa using g1
          refine ⟨args[0], args[1], ?_, g2 0 _ _ (by simp [hs]) rfl, g2 1 _ _ (by simp [hs]) rfl⟩
          apply Array.ext
          · simp [hs]
          · intro i h1 h2
            match i, h1 with
            | 0, _ => rfl
            | 1, _ => rfl
            | i + 2, h1 => omega
        split at hk
        · simp only [Option.bind_eq_some_iff] at hk
          obtain ⟨_, _, hk⟩ := hk
          split at hk
          · simp only [Option.some.injEq] at hk
            subst hk
            exact absurd rfl hp
          · simp only [Option.some.injEq] at hk
            subst hk
            exact absurd rfl hp
          · simp only [Option.some.injEq] at hk
            subst hk
            exact absurd rfl hp
          · cases hk
        · simp only [Option.some.injEq] at hk
          subst hk
          exact absurd rfl hp
        · simp only [Option.some.injEq] at hk
          subst hk
          exact absurd rfl hp
        · rename_i x y
          obtain ⟨p, q, rfl, hp1, hp2⟩ := two x y rfl
          simp only [Option.bind_eq_some_iff] at hk
          obtain ⟨t, h0, t2, h1, hk⟩ := hk
          split at hk
          · rename_i t' hu
            simp only [Option.bind_eq_some_iff] at hk
            obtain ⟨i, hi, zv, hz, zc, hzc, hk⟩ := hk
            split at hk
            · rename_i hcc
              obtain ⟨rfl, hzl, hs2⟩ := hcc
              simp only [Option.some.injEq] at hk
              subst hk
              have hsz : ats = #[t2, t2] := by
                apply Array.ext
                · simp [hs2]
                · intro i h5 h6
                  match i, h5 with
                  | 0, h5 => simpa [h5] using h0
                  | 1, h5 => simpa [h5] using h1
                  | i + 2, h5 => omega
              exact (sim_app hh he ho h0 h1 hu hi hz hzc hzl hp1 hp2 hfr hsz h).wp Q
            · cases hk
          · cases hk
        · rename_i x y
          obtain ⟨p, q, rfl, hp1, hp2⟩ := two x y rfl
          simp only [Option.bind_eq_some_iff] at hk
          obtain ⟨t, h0, hk⟩ := hk
          split at hk
          · rename_i t' hu
            simp only [Option.map_eq_some_iff] at hk
            obtain ⟨s, hs, rfl⟩ := hk
            exact (sim_cpy hh he ho h0 hu hs hp1 hp2 h).wp Q
          · cases hk
        · cases hk
      · cases hk
    · cases hk

end
end Go.Sh
