/-
  THE SHADOW MACHINE: functions. Own work.
-/
import Derived.Test.YtcmkpldfgkpbbabDoorShP
namespace Go.Sh

def resSlot : ResultVar → Option Nat
  | .tmp t => some t
  | .cell _ _ => none

def cFn (P : Program) (fn : Func) : Option IFn :=
  match fn.body with
  | some c => match cCode P fn.ntmps c, mapO resSlot fn.results.toList with
    | some ic, some rs => if !(fn.name == "runtime.NumGoroutine") then some ⟨ic, rs, fn.ntmps⟩ else none
    | _, _ => none
  | none => none

/-- A table of compiled functions: each is what the program has. -/
def TabOk (P : Program) (tab : Nat → Option IFn) : Prop := ∀ f x, tab f = some x → ∃ fn, P.funcs[f]? = some fn ∧ cFn P fn = some x

section
variable {ν : Nat → Int} {F : Facts} {P : Program} {call : CallFn}

def resOne (tmps : Array Value) : ResultVar → Sem Value
  | .tmp t => pure (tmps.getD t undef)
  | .cell a t => do loadVar t (← asAddr (tmps.getD a undef))

theorem results_eq (fn : Func) (tmps : Array Value) : results fn tmps = (do let vs ← fn.results.mapM (resOne tmps); pure (if h : vs.size = 1 then vs[0] else .tuple vs)) := by
  unfold results
  congr 2

theorem run_results {tmps : Array Value} {w : World} : ∀ (l : List ResultVar) (rs : List Nat), mapO resSlot l = some rs →
    (l.mapM (resOne tmps)).run P w = .ok (rs.map fun t => tmps.getD t undef) w := by
  intro l
  induction l with
  | nil => intro rs h; simp [mapO] at h; subst h; rfl
  | cons r l ih =>
    intro rs h
    simp only [mapO] at h
    split at h
    · rename_i t ht
      split at h
      · rename_i l' hl
        simp only [Option.some.injEq] at h
        subst h
        cases r with
        | cell a t => cases ht
        | tmp t' =>
          cases ht
          simp only [List.mapM_cons, Sem.run_bind, ih l' hl, Result.andThen_ok, Sem.run_pure, List.map_cons, resOne]
      · cases h
    · cases h

theorem results_sim {ρ : Emb} {e : Tr AV} {fn : Func} {tmps : Array Value} {w : World} {rs : List Nat} (h : mapO resSlot fn.results.toList = some rs) (he : ER ν ρ e tmps) :
    ∃ v, (results fn tmps).run P w = .ok v w ∧ VR ν ρ (resA e rs) v := by
  have hr := run_results (P := P) (tmps := tmps) (w := w) fn.results.toList rs h
  have one : ∀ t, VR ν ρ ((e.get t).getD .u) (tmps.getD t undef) := by
    intro t
    cases hg : e.get t with
    | none => exact .u _
    | some x => exact he t x hg
  have hrun : (results fn tmps).run P w = .ok (if h : (rs.map fun t => tmps.getD t undef).toArray.size = 1 then (rs.map fun t => tmps.getD t undef).toArray[0] else .tuple (rs.map fun t => tmps.getD t undef).toArray) w := by
    rw [results_eq]
    simp only [Array.mapM_eq_mapM_toList, Sem.run_bind, Sem.run_map, hr, Result.andThen_ok, Sem.run_pure]
  refine ⟨_, hrun, ?_⟩
  have tup : VR ν ρ (.tp (rs.map fun t => (e.get t).getD .u)) (.tuple (rs.map fun t => tmps.getD t undef).toArray) := by
    refine .tp _ _ (by simp) fun j x v hx hv => ?_
    simp only [List.getElem?_map, Option.map_eq_some_iff] at hx
    obtain ⟨t, ht, rfl⟩ := hx
    simp only [List.getElem?_toArray, List.getElem?_map, ht, Option.map_some, Option.some.injEq] at hv
    subst hv
    exact one t
  match rs, tup with
  | [], tup => simpa [resA] using tup
  | [t], _ => simpa [resA] using one t
  | t :: s :: r, tup => simpa [resA] using tup

theorem argsE_get : ∀ (args : List AV) (k : Nat) (e : Tr AV), argsE k args = some e → ∀ j, e.get j = if k ≤ j then args[j - k]? else none := by
  intro args
  induction args with
  | nil => intro k e h j; simp [argsE] at h; subst h; simp [Tr.get]
  | cons x r ih =>
    intro k e h j
    simp only [argsE] at h
    split at h
    · rename_i e1 h1
      rw [putE_get h j, ih (k + 1) e1 h1 j]
      by_cases e0 : k = j
      · subst e0; simp
      · rw [if_neg (by simpa using e0)]
        by_cases h2 : k ≤ j
        · rw [if_pos (by omega), if_pos h2]
          rw [show j - k = (j - (k + 1)) + 1 by omega, List.getElem?_cons_succ]
        · rw [if_neg (by omega), if_neg h2]
    · cases h

theorem fn_sim (hF : F.Hold ν) (hc : CallSim ν P call) (hm : P.follows .mixedOrders = true) {f : Nat} {fn : Func} {x : IFn} (hf : P.funcs[f]? = some fn) (hx : cFn P fn = some x) {n : Nat} {args : List AV} {H H' : AH} {r : AV}
    (h : runFn F call n x args H = some (r, H')) : Keeps H H' ∧ fn.body.isSome = true ∧ (fn.name == "runtime.NumGoroutine") = false ∧
      ∀ ρ w vs, LR ν ρ args vs → HR ν ρ H w → Fresh ρ H H' → Calls P f vs w fun e w' => ∃ v, e = .returned v ∧ After ν ρ H w r H' v w' := by
  unfold cFn at hx
  split at hx
  · rename_i c hb
    split at hx
    · rename_i ic rs hic hrs
      split at hx
      · rename_i hname
        simp only [Option.some.injEq] at hx
        subst hx
        unfold runFn at h
        split at h
        · rename_i hlen
          simp only [Nat.ble_eq] at hlen
          split at h
          · rename_i e he
            have hget := argsE_get args 0 e he
            have fin : ∀ (ex : Ex) (e' : Tr AV) (H1 : AH), codeA F call n ic e H = some (ex, e', H1) → (∀ i, ex ≠ .exit i) → some (resA e' rs, H1) = some (r, H') → Keeps H H' ∧ fn.body.isSome = true ∧ (fn.name == "runtime.NumGoroutine") = false ∧
                ∀ ρ w vs, LR ν ρ args vs → HR ν ρ H w → Fresh ρ H H' → Calls P f vs w fun e w' => ∃ v, e = .returned v ∧ After ν ρ H w r H' v w' := by
              intro ex e' H1 hcode hne hr
              simp only [Option.some.injEq, Prod.mk.injEq] at hr
              obtain ⟨rfl, rfl⟩ := hr
              refine ⟨code_keeps hc.keeps _ _ _ _ _ _ _ hcode, by rw [hb]; rfl, by simpa using hname, fun ρ w vs hl hh hfr => ?_⟩
              refine calls_of_wp hf hb ?_
              have hsz : (vs ++ Array.replicate (fn.ntmps - vs.size) undef).size = fn.ntmps := by
                have := hl.1
                simp
                omega
              have hER : ER ν ρ e (vs ++ Array.replicate (fn.ntmps - vs.size) undef) := by
                intro j y hy
                rw [hget j] at hy
                simp only [Nat.zero_le, if_true, Nat.sub_zero] at hy
                have hj : j < args.length := (List.getElem?_eq_some_iff.1 hy).1
                have hj' : j < vs.size := by rw [← hl.1]; exact hj
                rw [Array.getD_eq_getD_getElem?, Array.getElem?_append_left hj', Array.getElem?_eq_getElem hj']
                exact hl.2 j y _ hy (by simp)
              have hw := (code_sim (N := fn.ntmps) hF hc hm n).1 c ic e H ex e' H1 ρ { tmps := vs ++ Array.replicate (fn.ntmps - vs.size) undef, defers := [] } w hic hcode hER hh hfr hsz
              refine wp_mono hw ?_
              rintro E a' w' ⟨hE, ρ', g1, g2, g3, g4, g5⟩
              obtain ⟨v, hv1, hv2⟩ := results_sim (P := P) (w := w') hrs g1
              cases hE with
              | normal => exact ⟨g5, v, hv1, v, rfl, ρ', hv2, g2, g3⟩
              | ret => exact ⟨g5, v, hv1, v, rfl, ρ', hv2, g2, g3⟩
              | exit i => exact (hne i rfl).elim
            split at h
            · cases h
            · rename_i ex e' H1 hne hcode
              exact fin ex e' H1 hcode (fun i hi => hne i hi) h
            · cases h
          · cases h
        · cases h
      · cases hx
    · cases hx
  · cases hx

theorem callA_sim (hF : F.Hold ν) (hm : P.follows .mixedOrders = true) {tab : Nat → Option IFn} (ht : TabOk P tab) (fuel : Nat) : ∀ d, CallSim ν P (callA F tab fuel d) := by
  intro d
  induction d with
  | zero => exact ⟨fun f args H r H' h => by simp [callA] at h, fun f args H r H' h => by simp [callA] at h, fun f args H r H' h => by simp [callA] at h⟩
  | succ d ih =>
    have key : ∀ f args H r H', callA F tab fuel (d + 1) f args H = some (r, H') → ∃ fn, P.funcs[f]? = some fn ∧ Keeps H H' ∧ fn.body.isSome = true ∧ (fn.name == "runtime.NumGoroutine") = false ∧
        ∀ ρ w vs, LR ν ρ args vs → HR ν ρ H w → Fresh ρ H H' → Calls P f vs w fun e w' => ∃ v, e = .returned v ∧ After ν ρ H w r H' v w' := by
      intro f args H r H' h
      simp only [callA] at h
      split at h
      · rename_i x hx
        obtain ⟨fn, h1, h2⟩ := ht f x hx
        exact ⟨fn, h1, fn_sim hF ih hm h1 h2 h⟩
      · cases h
    refine ⟨fun f args H r H' h => ?_, fun f args H r H' h => ?_, fun f args H r H' h => ?_⟩
    · obtain ⟨fn, _, k, _⟩ := key f args H r H' h; exact k
    · obtain ⟨fn, h1, _, h3, h4, _⟩ := key f args H r H' h; exact ⟨fn, h1, h3, h4⟩
    · obtain ⟨fn, _, _, _, _, h5⟩ := key f args H r H' h; exact h5

end
end Go.Sh
