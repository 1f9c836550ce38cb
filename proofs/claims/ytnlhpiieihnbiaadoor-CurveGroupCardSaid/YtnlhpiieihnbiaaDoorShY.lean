/-
  THE SHADOW MACHINE: calls that need no memory and are known to answer this: a table of these, beside the program's functions. Own work.
-/
import Derived.Test.YtnlhpiieihnbiaaDoorShX
import Derived.Laws.Externs
namespace Go.Sh
open Go.RowKit Go.WideShapes Go.ChangeShapes

/-! Values without memory. -/

def conc1 (ν : Nat → Int) : AV → Option Value
  | .i k n => some (.int k (n.val ν))
  | .b x => some (.bool x)
  | _ => none

def concL (ν : Nat → Int) : List AV → Option (List Value)
  | [] => some []
  | x :: r => match conc1 ν x, concL ν r with | some v, some l => some (v :: l) | _, _ => none

/-- A row of numbers. -/
def conc2a (ν : Nat → Int) : AV → Option Value
  | .ag l => (concL ν l).map fun vs => .agg vs.toArray
  | x => conc1 ν x

def concM (ν : Nat → Int) : List AV → Option (List Value)
  | [] => some []
  | x :: r => match conc2a ν x, concM ν r with | some v, some l => some (v :: l) | _, _ => none

/-- A row of numbers, or of rows. -/
def conc2 (ν : Nat → Int) : AV → Option Value
  | .ag (.ag a :: r) => (concM ν (.ag a :: r)).map fun vs => .agg vs.toArray
  | .ag l => (concL ν l).map fun vs => .agg vs.toArray
  | x => conc1 ν x

def concT (ν : Nat → Int) : List AV → Option (List Value)
  | [] => some []
  | x :: r => match conc2 ν x, concT ν r with | some v, some l => some (v :: l) | _, _ => none

def conc (ν : Nat → Int) : AV → Option Value
  | .tp l => (concT ν l).map fun vs => .tuple vs.toArray
  | x => conc2 ν x

section
variable {ν : Nat → Int} {ρ : Emb}

theorem conc1_vr {x : AV} {u : Value} (h : conc1 ν x = some u) : VR ν ρ x u ∧ ∀ v, VR ν ρ x v → v = u := by
  unfold conc1 at h
  split at h
  · simp only [Option.some.injEq] at h
    subst h; exact ⟨.i _ _, fun v hv => by cases hv; rfl⟩
  · simp only [Option.some.injEq] at h
    subst h; exact ⟨.b _, fun v hv => by cases hv; rfl⟩
  · cases h

theorem concL_spec : ∀ {l : List AV} {us : List Value}, concL ν l = some us → l.length = us.length ∧ ∀ (j : Nat) x u, l[j]? = some x → us[j]? = some u → conc1 ν x = some u := by
  intro l
  induction l with
  | nil => intro us h; simp [concL] at h; subst h; exact ⟨rfl, fun j x u hx => by simp at hx⟩
  | cons a r ih =>
    intro us h
    simp only [concL] at h
    split at h
    · rename_i v l h1 h2
      simp only [Option.some.injEq] at h
      subst h
      obtain ⟨g1, g2⟩ := ih h2
      refine ⟨by simp [g1], fun j x u hx hu => ?_⟩
      cases j with
      | zero => simp at hx hu; subst hx; subst hu; exact h1
      | succ j => exact g2 j x u (by simpa using hx) (by simpa using hu)
    · cases h

theorem vals_eq {us vs : List Value} (h : us.length = vs.length) (he : ∀ (j : Nat) u v, us[j]? = some u → vs[j]? = some v → v = u) : vs = us := by
  apply List.ext_getElem?
  intro j
  by_cases hj : j < vs.length
  · have hj' : j < us.length := by omega
    rw [List.getElem?_eq_getElem hj, List.getElem?_eq_getElem hj']
    exact congrArg some (he j _ _ (List.getElem?_eq_getElem hj') (List.getElem?_eq_getElem hj))
  · rw [List.getElem?_eq_none (by omega), List.getElem?_eq_none (by omega)]

theorem conc2a_vr {x : AV} {u : Value} (h : conc2a ν x = some u) : VR ν ρ x u ∧ ∀ v, VR ν ρ x v → v = u := by
  unfold conc2a at h
  split at h
  · rename_i l
    simp only [Option.map_eq_some_iff] at h
    obtain ⟨us, h1, rfl⟩ := h
    obtain ⟨g1, g2⟩ := concL_spec h1
    refine ⟨.ag _ _ (by simpa using g1) fun j x v hx hv => (conc1_vr (g2 j x v hx (by simpa using hv))).1, fun v hv => ?_⟩
    cases hv with | ag _ vs hs hr =>
    have : vs.toList = us := by
      refine vals_eq (by rw [← g1, hs]; simp) fun j u v hu hv => ?_
      have hj : j < l.length := by rw [g1]; exact (List.getElem?_eq_some_iff.1 hu).1
      exact (conc1_vr (ρ := ρ) (g2 j l[j] u (by simp) hu)).2 v (hr j l[j] v (by simp) (by simpa using hv))
    rw [← this]
  · exact conc1_vr h

theorem concM_spec : ∀ {l : List AV} {us : List Value}, concM ν l = some us → l.length = us.length ∧ ∀ (j : Nat) x u, l[j]? = some x → us[j]? = some u → conc2a ν x = some u := by
  intro l
  induction l with
  | nil => intro us h; simp [concM] at h; subst h; exact ⟨rfl, fun j x u hx => by simp at hx⟩
  | cons a r ih =>
    intro us h
    simp only [concM] at h
    split at h
    · rename_i v l h1 h2
      simp only [Option.some.injEq] at h
      subst h
      obtain ⟨g1, g2⟩ := ih h2
      refine ⟨by simp [g1], fun j x u hx hu => ?_⟩
      cases j with
      | zero => simp at hx hu; subst hx; subst hu; exact h1
      | succ j => exact g2 j x u (by simpa using hx) (by simpa using hu)
    · cases h

theorem conc2_vr {x : AV} {u : Value} (h : conc2 ν x = some u) : VR ν ρ x u ∧ ∀ v, VR ν ρ x v → v = u := by
  unfold conc2 at h
  split at h
  · rename_i a r
    simp only [Option.map_eq_some_iff] at h
    obtain ⟨us, h1, rfl⟩ := h
    obtain ⟨g1, g2⟩ := concM_spec h1
    refine ⟨.ag _ _ (by simpa using g1) fun j x v hx hv => (conc2a_vr (g2 j x v hx (by simpa using hv))).1, fun v hv => ?_⟩
    cases hv with | ag _ vs hs hr =>
    have : vs.toList = us := by
      refine vals_eq (by rw [← g1, hs]; simp) fun j u v hu hv => ?_
      have hj : j < (AV.ag a :: r).length := by rw [g1]; exact (List.getElem?_eq_some_iff.1 hu).1
      exact (conc2a_vr (ρ := ρ) (g2 j (AV.ag a :: r)[j] u (by simp) hu)).2 v (hr j (AV.ag a :: r)[j] v (by simp) (by simpa using hv))
    rw [← this]
  · exact conc2a_vr (x := .ag _) h
  · exact conc1_vr h

theorem concT_spec : ∀ {l : List AV} {us : List Value}, concT ν l = some us → l.length = us.length ∧ ∀ (j : Nat) x u, l[j]? = some x → us[j]? = some u → conc2 ν x = some u := by
  intro l
  induction l with
  | nil => intro us h; simp [concT] at h; subst h; exact ⟨rfl, fun j x u hx => by simp at hx⟩
  | cons a r ih =>
    intro us h
    simp only [concT] at h
    split at h
    · rename_i v l h1 h2
      simp only [Option.some.injEq] at h
      subst h
      obtain ⟨g1, g2⟩ := ih h2
      refine ⟨by simp [g1], fun j x u hx hu => ?_⟩
      cases j with
      | zero => simp at hx hu; subst hx; subst hu; exact h1
      | succ j => exact g2 j x u (by simpa using hx) (by simpa using hu)
    · cases h

theorem conc_vr {x : AV} {u : Value} (h : conc ν x = some u) : VR ν ρ x u ∧ ∀ v, VR ν ρ x v → v = u := by
  unfold conc at h
  split at h
  · rename_i l
    simp only [Option.map_eq_some_iff] at h
    obtain ⟨us, h1, rfl⟩ := h
    obtain ⟨g1, g2⟩ := concT_spec h1
    refine ⟨.tp _ _ (by simpa using g1) fun j x v hx hv => (conc2_vr (g2 j x v hx (by simpa using hv))).1, fun v hv => ?_⟩
    cases hv with | tp _ vs hs hr =>
    have : vs.toList = us := by
      refine vals_eq (by rw [← g1, hs]; simp) fun j u v hu hv => ?_
      have hj : j < l.length := by rw [g1]; exact (List.getElem?_eq_some_iff.1 hu).1
      exact (conc2_vr (ρ := ρ) (g2 j l[j] u (by simp) hu)).2 v (hr j l[j] v (by simp) (by simpa using hv))
    rw [← this]
  · exact conc2_vr h

theorem concT_lr {l : List AV} {us : List Value} (h : concT ν l = some us) : LR ν ρ l us.toArray ∧ ∀ vs, LR ν ρ l vs → vs = us.toArray := by
  obtain ⟨g1, g2⟩ := concT_spec h
  refine ⟨⟨by simpa using g1, fun j x v hx hv => (conc2_vr (g2 j x v hx (by simpa using hv))).1⟩, fun vs hv => ?_⟩
  have : vs.toList = us := by
    refine vals_eq (by rw [← g1, hv.1]; simp) fun j u v hu hv' => ?_
    have hj : j < l.length := by rw [g1]; exact (List.getElem?_eq_some_iff.1 hu).1
    exact (conc2_vr (ρ := ρ) (g2 j l[j] u (by simp) hu)).2 v (hv.2 j l[j] v (by simp) (by simpa using hv'))
  rw [← this]

end

/-! Calls without memory. -/

/-- Whatever the world: the call answers this, and what was there is as it was. -/
def Pure (P : Program) (f : Nat) (vs : List Value) (v : Value) : Prop :=
  ((∃ fn, P.funcs[f]? = some fn ∧ fn.body.isSome = true ∧ (fn.name == "runtime.NumGoroutine") = false) ∧ ∀ w, Calls P f vs.toArray w fun e w' => e = .returned v ∧ Below w.heap.size w w') ∨
  ∀ w, (callFunc f vs.toArray).run P w = .ok (.value v) w

structure Row where
  f : Nat
  args : List AV
  res : AV

def Row.Ok (ν : Nat → Int) (P : Program) (r : Row) : Prop := ∃ us u, concT ν r.args = some us ∧ conc ν r.res = some u ∧ Pure P r.f us u

/-! Are these the same? Plainly. -/

noncomputable def eq1 : AV → AV → Bool
  | .i k a, .i k' b => Nat.beq (kindF k) (kindF k') && a.beq b
  | .b x, .b y => x == y
  | _, _ => false

noncomputable def eqL1 : List AV → List AV → Bool
  | [], [] => true
  | a :: r, b :: s => eq1 a b && eqL1 r s
  | _, _ => false

noncomputable def eq2a : AV → AV → Bool
  | .ag l, .ag m => eqL1 l m
  | x, y => eq1 x y

noncomputable def eqLM : List AV → List AV → Bool
  | [], [] => true
  | a :: r, b :: s => eq2a a b && eqLM r s
  | _, _ => false

noncomputable def eq2 : AV → AV → Bool
  | .ag l, .ag m => eqL1 l m || eqLM l m
  | x, y => eq1 x y

noncomputable def eqL2 : List AV → List AV → Bool
  | [], [] => true
  | a :: r, b :: s => eq2 a b && eqL2 r s
  | _, _ => false

noncomputable def eq3 : AV → AV → Bool
  | .tp l, .tp m => eqL2 l m
  | x, y => eq2 x y

theorem eq1_eq {x y : AV} (h : eq1 x y = true) : x = y := by
  unfold eq1 at h
  split at h
  · simp only [Bool.and_eq_true, kindF_eq, decide_eq_true_eq] at h
    rw [h.1, AI.beq_eq _ _ h.2]
  · simp only [beq_iff_eq] at h; rw [h]
  · cases h

theorem eqL1_eq : ∀ {l m : List AV}, eqL1 l m = true → l = m
  | [], [], _ => rfl
  | a :: r, b :: s, h => by
    simp only [eqL1, Bool.and_eq_true] at h
    rw [eq1_eq h.1, eqL1_eq h.2]
  | [], _ :: _, h => by cases h
  | _ :: _, [], h => by cases h

theorem eq2a_eq {x y : AV} (h : eq2a x y = true) : x = y := by
  unfold eq2a at h
  split at h
  · rw [eqL1_eq h]
  · exact eq1_eq h

theorem eqLM_eq : ∀ {l m : List AV}, eqLM l m = true → l = m
  | [], [], _ => rfl
  | a :: r, b :: s, h => by
    simp only [eqLM, Bool.and_eq_true] at h
    rw [eq2a_eq h.1, eqLM_eq h.2]
  | [], _ :: _, h => by cases h
  | _ :: _, [], h => by cases h

theorem eq2_eq {x y : AV} (h : eq2 x y = true) : x = y := by
  unfold eq2 at h
  split at h
  · rw [Bool.or_eq_true] at h
    rcases h with h | h
    · rw [eqL1_eq h]
    · rw [eqLM_eq h]
  · exact eq1_eq h

theorem eqL2_eq : ∀ {l m : List AV}, eqL2 l m = true → l = m
  | [], [], _ => rfl
  | a :: r, b :: s, h => by
    simp only [eqL2, Bool.and_eq_true] at h
    rw [eq2_eq h.1, eqL2_eq h.2]
  | [], _ :: _, h => by cases h
  | _ :: _, [], h => by cases h

theorem eq3_eq {x y : AV} (h : eq3 x y = true) : x = y := by
  unfold eq3 at h
  split at h
  · rw [eqL2_eq h]
  · exact eq2_eq h

/-! The table. -/

noncomputable def tfind : List Row → Nat → List AV → Option AV
  | [], _, _ => none
  | r :: t, f, args => if Nat.beq r.f f && eqL2 r.args args then some r.res else tfind t f args

noncomputable def tov (T : List Row) : CallFn := fun f args H => (tfind T f args).map fun v => (v, H)

theorem tfind_mem {f : Nat} {args : List AV} {v : AV} : ∀ {T : List Row}, tfind T f args = some v → ⟨f, args, v⟩ ∈ T
  | [], h => by cases h
  | r :: t, h => by
    simp only [tfind] at h
    split at h
    · rename_i hb
      simp only [Bool.and_eq_true] at hb
      have h1 := Nat.eq_of_beq_eq_true hb.1
      have h2 := eqL2_eq hb.2
      simp only [Option.some.injEq] at h
      subst h1; subst h2; subst h
      exact List.mem_cons_self
    · exact List.mem_cons_of_mem _ (tfind_mem h)

theorem HR.below {ν : Nat → Int} {ρ : Emb} {H : AH} {w w' : World} (h : HR ν ρ H w) (hb : Below w.heap.size w w') : HR ν ρ H w' :=
  ⟨fun b x hx => let ⟨pl, h1, h2⟩ := h.blk b x hx; ⟨pl, h1, h2.keep (Emb.le_refl ρ) (hb.block _ h2.lt)⟩, h.apart⟩

theorem Stp.below {ρ : Emb} {H : AH} {w w' : World} (hb : Below w.heap.size w w') : Stp ρ H w ρ H w' :=
  ⟨Emb.le_refl ρ, fun _ h k => (k h).elim, hb.size, hb.os, hb.tape, hb.output, fun cb hc _ => hb.block cb hc, fun _ _ h => h, fun _ _ h k => by rw [h] at k; cases k⟩

theorem tov_sim {ν : Nat → Int} {P : Program} {T : List Row} (hT : ∀ r ∈ T, r.Ok ν P) : CallSim ν P (tov T) := by
  refine ⟨fun f args H r H' h => ?_, fun f args H r H' h => ?_⟩
  · simp only [tov, Option.map_eq_some_iff, Prod.mk.injEq] at h
    obtain ⟨_, _, _, rfl⟩ := h
    exact Keeps.refl _
  · simp only [tov, Option.map_eq_some_iff, Prod.mk.injEq] at h
    obtain ⟨v, hv, rfl, rfl⟩ := h
    obtain ⟨us, u, h1, h2, h3⟩ := hT _ (tfind_mem hv)
    rcases h3 with ⟨hf, h3⟩ | h3
    · refine .inl ⟨hf, fun ρ w vs hl hh _ => ?_⟩
      rw [(concT_lr h1).2 vs hl]
      refine (h3 w).mono fun e w' ⟨he, hb⟩ => ?_
      exact ⟨u, he, ρ, (conc_vr h2).1, hh.below hb, Stp.below hb⟩
    · refine .inr ⟨rfl, fun ρ w vs hl => ?_⟩
      rw [(concT_lr h1).2 vs hl]
      exact ⟨u, h3 w, (conc_vr h2).1⟩

noncomputable def tovK {X : Type} (T : List Row) : CallK X → CallK X := fun c f args H k =>
  optK (tfind T f args) (c f args H k) fun v => k v H

theorem tov_ok (T : List Row) (X : Type) : OvOk (X := X) (tov T) (tovK T) := by
  intro c f args H k
  unfold tovK tov
  cases tfind T f args <;> rfl

/-- The answer of a function's body, with what is known beside it. -/
noncomputable def says (F : Facts) (tab : Tr IFn) (T : List Row) (fuel d f : Nat) (args : List AV) (H : AH) (r : AV) : Bool :=
  optK (optK (getF tab f) none fun fn => runK F (callOK F tab (tovK T) fuel d) fuel fn args H fun v _ => some (eq3 v r)) false fun t => t

theorem says_run {F : Facts} {tab : Tr IFn} {T : List Row} {fuel d f : Nat} {args : List AV} {H : AH} {r : AV} (h : says F tab T fuel d f args H r = true) :
    ∃ fn H', tab.get f = some fn ∧ runFn F (callO F (fun f => tab.get f) (tov T) fuel d) fuel fn args H = some (r, H') := by
  unfold says at h
  rw [getF_eq] at h
  cases hf : tab.get f with
  | none => rw [hf] at h; cases h
  | some fn =>
    rw [hf] at h
    replace h : optK (runK F (callOK F tab (tovK T) fuel d) fuel fn args H fun v _ => some (eq3 v r)) false (fun t => t) = true := h
    rw [runK_eq F (callOK F tab (tovK T) fuel d) (callO F (fun f => tab.get f) (tov T) fuel d) (callOK_eq tab (tov_ok T _) fuel d)] at h
    cases hr : runFn F (callO F (fun f => tab.get f) (tov T) fuel d) fuel fn args H with
    | none => rw [hr] at h; cases h
    | some q =>
      obtain ⟨v, H'⟩ := q
      rw [hr] at h
      have : eq3 v r = true := h
      exact ⟨fn, H', rfl, by rw [← eq3_eq this]; exact hr⟩

/-- WHAT IS KNOWN OF ONE MORE FUNCTION. -/
theorem pure_of {ν : Nat → Int} {F : Facts} {P : Program} {tab : Tr IFn} {T : List Row} {fuel d f : Nat} {args : List AV} {r : AV} {us : List Value} {u : Value} (hF : F.Hold ν) (hm : P.follows .mixedOrders = true) (ht : TabOk P (fun f => tab.get f))
    (hT : ∀ r ∈ T, r.Ok ν P) (h : says F tab T fuel d f args (heap0 [] gmax) r = true) (ha : concT ν args = some us) (hr : conc ν r = some u) : Pure P f us u := by
  obtain ⟨fn, H', h1, h2⟩ := says_run h
  obtain ⟨fn', g1, g2⟩ := ht f fn h1
  obtain ⟨_, gf, gr⟩ := fn_runs hF (callO_sim hF hm ht (tov_sim hT) fuel d) hm g1 g2 h2
  refine .inl ⟨gf, fun w => ?_⟩
  have hl : ∀ p ∈ ([] : List (Nat × ABlk)), ∃ pl, (embF fun _ => none) p.1 = some pl ∧ BR ν (embF fun _ => none) w p.2.shut pl := fun p hp => by cases hp
  refine (gr (embF fun _ => none) w us.toArray (concT_lr ha).1 (heap0_rel hl) (fun b hb _ => embF_other hb)).mono ?_
  rintro e w' ⟨v, rfl, ρ', hv, _, hs⟩
  refine ⟨by rw [(conc_vr hr).2 v hv], ⟨hs.os, hs.tape, hs.output, hs.size, fun k hk => hs.frame k hk ?_⟩⟩
  rintro ⟨b, x, pl, h1, h2, _⟩
  obtain ⟨y, hy, _⟩ := heap0_get h1
  cases hy

end Go.Sh
