/-
  THE SHADOW MACHINE: functions. Own work.
-/
import Derived.Test.YtnlhpiieihnbiaaDoorShP
namespace Go.Sh

def resSlot (P : Program) : ResultVar → Option IRes
  | .tmp t => some (.t t)
  | .cell a t => (cAgg P t).map fun n => .c a n

def cFn (P : Program) (fn : Func) : Option IFn :=
  match fn.body with
  | some c => match cCode P fn.ntmps c, mapO (resSlot P) fn.results.toList with
    | some ic, some rs => if !(fn.name == "runtime.NumGoroutine") then some ⟨ic, rs, fn.ntmps⟩ else none
    | _, _ => none
  | none => none

/-- A table of compiled functions: each is what the program has. -/
def TabOk (P : Program) (tab : Nat → Option IFn) : Prop := ∀ f x, tab f = some x → ∃ fn, P.funcs[f]? = some fn ∧ cFn P fn = some x

section
variable {ν : Nat → Int} {F : Facts} {P : Program} {call : CallFn}

def resOne (tmps : Array Value) : ResultVar → Sem Value
  | .tmp t => pure (tmps.getD t undef)
  | .cell a t => do loadVar t (← asAddr (tmps.getD a undef))

theorem results_eq (fn : Func) (tmps : Array Value) : results fn tmps = (do let vs ← fn.results.mapM (resOne tmps); pure (if h : vs.size = 1 then vs[0] else .tuple vs)) := by
  unfold results
  congr 2

theorem one_res {ρ : Emb} {e : Tr AV} {tmps : Array Value} {w : World} {H : AH} (hh : HR ν ρ H w) (he : ER ν ρ e tmps) {x : ResultVar} {y : IRes} {v : AV} (hx : resSlot P x = some y) (h : oneRes e H y = some v) :
    ∃ u, (resOne tmps x).run P w = .ok u w ∧ VR ν ρ v u := by
  have one : ∀ t, VR ν ρ ((e.get t).getD .u) (tmps.getD t undef) := by
    intro t
    cases hg : e.get t with
    | none => exact .u _
    | some x => exact he t x hg
  cases x with
  | tmp t =>
    simp only [resSlot, Option.some.injEq] at hx
    subst hx
    simp only [oneRes, Option.some.injEq] at h
    subst h
    exact ⟨_, rfl, one t⟩
  | cell a t =>
    simp only [resSlot, Option.map_eq_some_iff] at hx
    obtain ⟨n, hn, rfl⟩ := hx
    simp only [oneRes] at h
    split at h
    · rename_i b off e1
      have hv := one a
      rw [e1] at hv
      generalize hq : tmps.getD a undef = q at hv
      cases hv
      rename_i pl hpl
      obtain ⟨u, h1, h2⟩ := rd_load (P := P) hh hn hpl h
      exact ⟨u, by simp [resOne, hq, asAddr, h1], h2⟩
    · cases h

theorem run_results {ρ : Emb} {e : Tr AV} {tmps : Array Value} {w : World} {H : AH} (hh : HR ν ρ H w) (he : ER ν ρ e tmps) : ∀ (l : List ResultVar) (rs : List IRes) (vs : List AV), mapO (resSlot P) l = some rs → allRes e H rs = some vs →
    ∃ us : List Value, (l.mapM (resOne tmps)).run P w = .ok us w ∧ LR ν ρ vs us.toArray := by
  intro l
  induction l with
  | nil =>
    intro rs vs h k
    simp [mapO] at h
    subst h
    simp only [allRes, Option.some.injEq] at k
    subst k
    exact ⟨[], rfl, rfl, by simp⟩
  | cons r l ih =>
    intro rs vs h k
    simp only [mapO] at h
    split at h
    · rename_i t ht
      split at h
      · rename_i l' hl
        simp only [Option.some.injEq] at h
        subst h
        simp only [allRes] at k
        split at k
        · rename_i v vr h1 h2
          simp only [Option.some.injEq] at k
          subst k
          obtain ⟨u, g1, g2⟩ := one_res hh he ht h1
          obtain ⟨us, g3, g4⟩ := ih l' vr hl h2
          refine ⟨u :: us, by simp only [List.mapM_cons, Sem.run_bind, g1, g3, Result.andThen_ok, Sem.run_pure], by simpa using g4.1, fun j x y hx hy => ?_⟩
          cases j with
          | zero => simp at hx hy; subst hx; subst hy; exact g2
          | succ j => exact g4.2 j x y (by simpa using hx) (by simpa using hy)
        · cases k
      · cases h
    · cases h

theorem results_sim {ρ : Emb} {e : Tr AV} {fn : Func} {tmps : Array Value} {w : World} {rs : List IRes} {H : AH} {v0 : AV} (hh : HR ν ρ H w) (h : mapO (resSlot P) fn.results.toList = some rs) (he : ER ν ρ e tmps) (hr : resA e H rs = some v0) :
    ∃ v, (results fn tmps).run P w = .ok v w ∧ VR ν ρ v0 v := by
  unfold resA at hr
  have main : ∀ vs, allRes e H rs = some vs → ∃ us : List Value, (results fn tmps).run P w = .ok (if h : us.toArray.size = 1 then us.toArray[0] else .tuple us.toArray) w ∧ LR ν ρ vs us.toArray := by
    intro vs hvs
    obtain ⟨us, g1, g2⟩ := run_results hh he _ _ _ h hvs
    refine ⟨us, ?_, g2⟩
    rw [results_eq]
    simp only [Array.mapM_eq_mapM_toList, Sem.run_bind, Sem.run_map, g1, Result.andThen_ok, Sem.run_pure]
  split at hr
  · rename_i x hvs
    simp only [Option.some.injEq] at hr
    subst hr
    obtain ⟨us, g1, g2⟩ := main _ hvs
    have hs : us.length = 1 := by simpa using g2.1.symm
    match us, hs with
    | [u], _ => exact ⟨u, by simpa using g1, g2.2 0 x u rfl rfl⟩
  · rename_i l hne hvs
    simp only [Option.some.injEq] at hr
    subst hr
    obtain ⟨us, g1, g2⟩ := main _ hvs
    have hs : us.toArray.size ≠ 1 := by
      intro hs
      have h1 : l.length = 1 := by rw [g2.1]; exact hs
      match l, h1 with
      | [y], _ => exact hne y rfl
    rw [dif_neg hs] at g1
    exact ⟨_, g1, .tp _ _ g2.1 g2.2⟩
  · cases hr

theorem argsE_get : ∀ (args : List AV) (k : Nat) (e : Tr AV), argsE k args = some e → ∀ j, e.get j = if k ≤ j then args[j - k]? else none := by
  intro args
  induction args with
  | nil => intro k e h j; simp [argsE] at h; subst h; simp [Tr.get]
  | cons x r ih =>
    intro k e h j
    simp only [argsE] at h
    split at h
    · rename_i e1 h1
      rw [putE_get h j, ih (k + 1) e1 h1 j]
      by_cases e0 : k = j
      · subst e0; simp
      · rw [if_neg (by simpa using e0)]
        by_cases h2 : k ≤ j
        · rw [if_pos (by omega), if_pos h2]
          rw [show j - k = (j - (k + 1)) + 1 by omega, List.getElem?_cons_succ]
        · rw [if_neg (by omega), if_neg h2]
    · cases h

theorem fn_sim (hF : F.Hold ν) (hc : CallSim ν P call) (hm : P.follows .mixedOrders = true) {f : Nat} {fn : Func} {x : IFn} (hf : P.funcs[f]? = some fn) (hx : cFn P fn = some x) {n : Nat} {args : List AV} {H H' : AH} {r : AV}
    (h : runFn F call n x args H = some (r, H')) : Keeps H H' ∧ fn.body.isSome = true ∧ (fn.name == "runtime.NumGoroutine") = false ∧
      ∀ ρ w vs, LR ν ρ args vs → HR ν ρ H w → Fresh ρ H H' → Calls P f vs w fun e w' => ∃ v, e = .returned v ∧ After ν ρ H w r H' v w' := by
  unfold cFn at hx
  split at hx
  · rename_i c hb
    split at hx
    · rename_i ic rs hic hrs
      split at hx
      · rename_i hname
        simp only [Option.some.injEq] at hx
        subst hx
        unfold runFn at h
        split at h
        · rename_i hlen
          simp only [Nat.ble_eq] at hlen
          split at h
          · rename_i e he
            have hget := argsE_get args 0 e he
            have fin : ∀ (ex : Ex) (e' : Tr AV) (H1 : AH), codeA F call n ic e H = some (ex, e', H1) → (∀ i, ex ≠ .exit i) → (match resA e' H1 rs with | some v => some (v, H1) | none => none) = some (r, H') → Keeps H H' ∧ fn.body.isSome = true ∧ (fn.name == "runtime.NumGoroutine") = false ∧
                ∀ ρ w vs, LR ν ρ args vs → HR ν ρ H w → Fresh ρ H H' → Calls P f vs w fun e w' => ∃ v, e = .returned v ∧ After ν ρ H w r H' v w' := by
              intro ex e' H1 hcode hne hr
              split at hr
              case h_2 => cases hr
              rename_i v0 hv0
              simp only [Option.some.injEq, Prod.mk.injEq] at hr
              obtain ⟨rfl, rfl⟩ := hr
              refine ⟨code_keeps hc.keeps _ _ _ _ _ _ _ hcode, by rw [hb]; rfl, by simpa using hname, fun ρ w vs hl hh hfr => ?_⟩
              refine calls_of_wp hf hb ?_
              have hsz : (vs ++ Array.replicate (fn.ntmps - vs.size) undef).size = fn.ntmps := by
                have := hl.1
                simp
                omega
              have hER : ER ν ρ e (vs ++ Array.replicate (fn.ntmps - vs.size) undef) := by
                intro j y hy
                rw [hget j] at hy
                simp only [Nat.zero_le, if_true, Nat.sub_zero] at hy
                have hj : j < args.length := (List.getElem?_eq_some_iff.1 hy).1
                have hj' : j < vs.size := by rw [← hl.1]; exact hj
                rw [Array.getD_eq_getD_getElem?, Array.getElem?_append_left hj', Array.getElem?_eq_getElem hj']
                exact hl.2 j y _ hy (by simp)
              have hw := (code_sim (N := fn.ntmps) hF hc hm n).1 c ic e H ex e' H1 ρ { tmps := vs ++ Array.replicate (fn.ntmps - vs.size) undef, defers := [] } w hic hcode hER hh hfr hsz
              refine wp_mono hw ?_
              rintro E a' w' ⟨hE, ρ', g1, g2, g3, g4, g5⟩
              obtain ⟨v, hv1, hv2⟩ := results_sim (P := P) (w := w') g2 hrs g1 hv0
              cases hE with
              | normal => exact ⟨g5, v, hv1, v, rfl, ρ', hv2, g2, g3⟩
              | ret => exact ⟨g5, v, hv1, v, rfl, ρ', hv2, g2, g3⟩
              | exit i => exact (hne i rfl).elim
            split at h
            · cases h
            · rename_i ex e' H1 hne hcode
              exact fin ex e' H1 hcode (fun i hi => hne i hi) h
            · cases h
          · cases h
        · cases h
      · cases hx
    · cases hx
  · cases hx

theorem fn_runs (hF : F.Hold ν) (hc : CallSim ν P call) (hm : P.follows .mixedOrders = true) {f : Nat} {fn : Func} {x : IFn} (hf : P.funcs[f]? = some fn) (hx : cFn P fn = some x) {n : Nat} {args : List AV} {H H' : AH} {r : AV}
    (h : runFn F call n x args H = some (r, H')) : Keeps H H' ∧ Runs ν P f args H r H' := by
  obtain ⟨k, h1, h2, h3⟩ := fn_sim hF hc hm hf hx h
  exact ⟨k, ⟨fn, hf, h1, h2⟩, h3⟩

theorem callA_runs (hF : F.Hold ν) (hm : P.follows .mixedOrders = true) {tab : Nat → Option IFn} (ht : TabOk P tab) (fuel : Nat) : ∀ d f args H r H', callA F tab fuel d f args H = some (r, H') → Keeps H H' ∧ Runs ν P f args H r H' := by
  intro d
  induction d with
  | zero => intro f args H r H' h; simp [callA] at h
  | succ d ih =>
    intro f args H r H' h
    simp only [callA] at h
    split at h
    · rename_i x hx
      obtain ⟨fn, h1, h2⟩ := ht f x hx
      exact fn_runs hF ⟨fun f args H r H' h => (ih f args H r H' h).1, fun f args H r H' h => .inl (ih f args H r H' h).2⟩ hm h1 h2 h
    · cases h

end
end Go.Sh
