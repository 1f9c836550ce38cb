/-
  THE SHADOW MACHINE: package-level variables that hold what is known, and calls that read them. Own work.
  THE SHADOW MACHINE: arguments that lie in memory: slices of numbers that came in; they are but read. Own work.
  THE SHADOW MACHINE: calls whose arguments lie in memory, and that make memory: a table of these; they but read what came in. Own work.
  THE SHADOW MACHINE: pieces of code with calls that lie in memory beside them; a function's body as such a call. Own work.
  THE SHADOW MACHINE: calls that write one block of the caller's; pieces of code in a call to which blocks are lent, with memory that is kept. Own work.
-/
import Derived.Test.YtggjplfnalolcaaDoorSh0
import Derived.Carry
namespace Go.Sh
open Go.RowKit Go.WideShapes Go.ChangeShapes

/-- Variables, by their blocks, and what they hold. -/
abbrev Gl := List (Nat × ABlk)

/-- They are variables, and what they hold is known. -/
def GlOk (gl : Gl) : Prop := ∀ p ∈ gl, p.1 < gmax ∧ p.2.elem < mapTag ∧ ∃ us, ∀ ν, concT ν p.2.cells = some us

/-- In this world they hold that. -/
def Laid (gl : Gl) (w : World) : Prop := ∀ p ∈ gl, ∀ ν ρ, BR ν ρ w p.2.shut ⟨p.1, 0, 0⟩

theorem Laid.below {gl : Gl} {w w' : World} (h : Laid gl w) (hb : Below w.heap.size w w') : Laid gl w' := fun p hp ν ρ => (h p hp ν ρ).keep (Emb.le_refl ρ) (hb.block _ (h p hp ν ρ).lt)

theorem br_known {ν ν' : Nat → Int} {ρ ρ' : Emb} {w : World} {x : ABlk} {b t t' : Nat} {us : List Value} (hmlt : x.elem < mapTag) (hc : ∀ ν, concT ν x.cells = some us) (h : BR ν ρ w x.shut ⟨b, 0, t⟩) : BR ν' ρ' w x.shut ⟨b, 0, t'⟩ := by
  have hm := Nat.ne_of_lt hmlt
  refine ⟨fun _ => ?_, fun h => (hm h).elim, fun h => absurd h (Nat.not_lt_of_lt hmlt)⟩
  obtain ⟨C, e, fz, h1, h2, _⟩ := h.cells hm
  refine ⟨C, e, fz, h1, fun j c hj => ?_, fun ho => by cases ho⟩
  obtain ⟨v, v1, v2⟩ := h2 j c hj
  refine ⟨v, v1, ?_⟩
  obtain ⟨k1, k2⟩ := concT_spec (hc ν)
  obtain ⟨_, l2⟩ := concT_spec (hc ν')
  have hj' : x.cells[j]? = some c := hj
  have hj2 : j < us.length := by rw [← k1]; exact (List.getElem?_eq_some_iff.1 hj').1
  rw [(conc2_vr (k2 j c us[j] hj' (by simp [hj2]))).2 v v2]
  exact (conc2_vr (l2 j c us[j] hj' (by simp [hj2]))).1

/-- Are they there, and hold they that? -/
noncomputable def hasG (H : AH) : Gl → Bool
  | [] => true
  | p :: r => (match H.get p.1 with | some x => eqBlk x p.2.shut | none => false) && hasG H r

theorem hasG_mem {H : AH} : ∀ {gl : Gl}, hasG H gl = true → ∀ p ∈ gl, H.get p.1 = some p.2.shut
  | [], _, p, hp => by cases hp
  | q :: r, h, p, hp => by
    simp only [hasG, Bool.and_eq_true] at h
    rcases List.mem_cons.1 hp with rfl | hp
    · have h1 := h.1
      split at h1
      · rename_i x hx
        rw [hx, eqBlk_eq h1]
      · cases h1
    · exact hasG_mem h.2 p hp

theorem hasG_laid {ν : Nat → Int} {ρ : Emb} {H : AH} {w : World} {gl : Gl} (hG : GlOk gl) (hh : HR ν ρ H w) (h : hasG H gl = true) : Laid gl w := by
  intro p hp ν' ρ'
  obtain ⟨g1, g2, us, g3⟩ := hG p hp
  obtain ⟨pl, h1, h2⟩ := hh.blk _ _ (hasG_mem h p hp)
  obtain ⟨tot, h3⟩ := ρ.glob p.1 g1
  have h1' : ρ.f p.1 = some pl := h1
  rw [h3] at h1'
  cases h1'
  exact br_known g2 g3 h2

/-- Whatever the world, if the variables hold that: the call answers this, and what was there is as it was. -/
def PureG (P : Program) (gl : Gl) (f : Nat) (vs : List Value) (v : Value) : Prop :=
  (∃ fn, P.funcs[f]? = some fn ∧ fn.body.isSome = true ∧ (fn.name == "runtime.NumGoroutine") = false) ∧ ∀ w, Laid gl w → Calls P f vs.toArray w fun e w' => e = .returned v ∧ Below w.heap.size w w'

def Row.OkG (ν : Nat → Int) (P : Program) (gl : Gl) (r : Row) : Prop := ∃ us u, concT ν r.args = some us ∧ conc ν r.res = some u ∧ PureG P gl r.f us u

noncomputable def tovG (T : List Row) (gl : Gl) (TG : List Row) : CallFn := fun f args H =>
  match tfind T f args with
  | some v => some (v, H)
  | none => if hasG H gl then (tfind TG f args).map fun v => (v, H) else none

theorem tovG_sim {ν : Nat → Int} {P : Program} {T TG : List Row} {gl : Gl} (hG : GlOk gl) (hT : ∀ r ∈ T, r.Ok ν P) (hTG : ∀ r ∈ TG, r.OkG ν P gl) : CallSim ν P (tovG T gl TG) := by
  have one : ∀ f args (H : AH) r H', tovG T gl TG f args H = some (r, H') → tov T f args H = some (r, H') ∨ (hasG H gl = true ∧ tfind TG f args = some r ∧ H' = H) := by
    intro f args H r H' h
    unfold tovG at h
    unfold tov
    split at h
    · rename_i v hv
      simp only [Option.some.injEq, Prod.mk.injEq] at h
      obtain ⟨rfl, rfl⟩ := h
      exact .inl (by rw [hv]; rfl)
    · split at h
      · rename_i hg
        simp only [Option.map_eq_some_iff, Prod.mk.injEq] at h
        obtain ⟨v, hv, rfl, rfl⟩ := h
        exact .inr ⟨hg, hv, rfl⟩
      · cases h
  refine ⟨fun f args H r H' h => ?_, fun f args H r H' h => ?_⟩
  · rcases one _ _ _ _ _ h with h | ⟨_, _, rfl⟩
    · exact (tov_sim hT).keeps _ _ _ _ _ h
    · exact Keeps.refl _
  · rcases one _ _ _ _ _ h with h | ⟨hg, hv, rfl⟩
    · exact (tov_sim hT).does _ _ _ _ _ h
    · obtain ⟨us, u, h1, h2, hf, h3⟩ := hTG _ (tfind_mem hv)
      refine .inl ⟨hf, fun ρ w vs hl hh _ => ?_⟩
      rw [(concT_lr h1).2 vs hl]
      refine (h3 w (hasG_laid hG hh hg)).mono fun e w' ⟨he, hb⟩ => ?_
      exact ⟨u, he, ρ, (conc_vr h2).1, hh.below hb, Stp.below hb⟩

noncomputable def tovGK {X : Type} (T : List Row) (gl : Gl) (TG : List Row) : CallK X → CallK X := fun c f args H k =>
  optK (tfind T f args) (br (hasG H gl) (optK (tfind TG f args) (c f args H k) fun v => k v H) (c f args H k)) fun v => k v H

theorem tovG_ok (T : List Row) (gl : Gl) (TG : List Row) (X : Type) : OvOk (X := X) (tovG T gl TG) (tovGK T gl TG) := by
  intro c f args H k
  unfold tovGK tovG
  cases tfind T f args with
  | some v => rfl
  | none =>
    show br (hasG H gl) (optK (tfind TG f args) (c f args H k) fun v => k v H) (c f args H k) = _
    cases hasG H gl
    · rfl
    · show optK (tfind TG f args) (c f args H k) (fun v => k v H) = _
      cases tfind TG f args <;> rfl

/-- The answer of a function's body, with what is known beside it. -/
noncomputable def saysG (F : Facts) (tab : Tr IFn) (T : List Row) (gl : Gl) (TG : List Row) (fuel d f : Nat) (args : List AV) (r : AV) : Bool :=
  optK (optK (getF tab f) none fun fn => runK F (callOK F tab (tovGK T gl TG) fuel d) fuel fn args (heap0 gl gmax) fun v _ => some (eq3 v r)) false fun t => t

theorem saysG_run {F : Facts} {tab : Tr IFn} {T TG : List Row} {gl : Gl} {fuel d f : Nat} {args : List AV} {r : AV} (h : saysG F tab T gl TG fuel d f args r = true) :
    ∃ fn H', tab.get f = some fn ∧ runFn F (callO F (fun f => tab.get f) (tovG T gl TG) fuel d) fuel fn args (heap0 gl gmax) = some (r, H') := by
  unfold saysG at h
  rw [getF_eq] at h
  cases hf : tab.get f with
  | none => rw [hf] at h; cases h
  | some fn =>
    rw [hf] at h
    replace h : optK (runK F (callOK F tab (tovGK T gl TG) fuel d) fuel fn args (heap0 gl gmax) fun v _ => some (eq3 v r)) false (fun t => t) = true := h
    rw [runK_eq F (callOK F tab (tovGK T gl TG) fuel d) (callO F (fun f => tab.get f) (tovG T gl TG) fuel d) (callOK_eq tab (tovG_ok T gl TG _) fuel d)] at h
    cases hr : runFn F (callO F (fun f => tab.get f) (tovG T gl TG) fuel d) fuel fn args (heap0 gl gmax) with
    | none => rw [hr] at h; cases h
    | some q =>
      obtain ⟨v, H'⟩ := q
      rw [hr] at h
      have : eq3 v r = true := h
      exact ⟨fn, H', rfl, by rw [← eq3_eq this]; exact hr⟩

/-- WHAT IS KNOWN OF ONE MORE FUNCTION. -/
theorem pureG_of {ν : Nat → Int} {F : Facts} {P : Program} {tab : Tr IFn} {T TG : List Row} {gl : Gl} {fuel d f : Nat} {args : List AV} {r : AV} {us : List Value} {u : Value} (hF : F.Hold ν) (hm : P.follows .mixedOrders = true) (ht : TabOk P (fun f => tab.get f)) (hG : GlOk gl)
    (hT : ∀ r ∈ T, r.Ok ν P) (hTG : ∀ r ∈ TG, r.OkG ν P gl) (h : saysG F tab T gl TG fuel d f args r = true) (ha : concT ν args = some us) (hr : conc ν r = some u) : PureG P gl f us u := by
  obtain ⟨fn, H', h1, h2⟩ := saysG_run h
  obtain ⟨fn', g1, g2⟩ := ht f fn h1
  obtain ⟨_, gf, gr⟩ := fn_runs hF (callO_sim hF hm ht (tovG_sim hG hT hTG) fuel d) hm g1 g2 h2
  refine ⟨gf, fun w hw => ?_⟩
  have hl : ∀ p ∈ gl, ∃ pl, (embF fun _ => none) p.1 = some pl ∧ BR ν (embF fun _ => none) w p.2.shut pl := fun p hp => ⟨⟨p.1, 0, 0⟩, embF_glob (hG p hp).1, hw p hp _ _⟩
  refine (gr (embF fun _ => none) w us.toArray (concT_lr ha).1 (heap0_rel hl) (fun b hb _ => embF_other hb)).mono ?_
  rintro e w' ⟨v, rfl, ρ', hv, _, hs⟩
  refine ⟨by rw [(conc_vr hr).2 v hv], ⟨hs.os, hs.tape, hs.output, hs.size, fun k hk => hs.frame k hk ?_⟩⟩
  rintro ⟨b, x, pl, h1, h2, _⟩
  obtain ⟨y, _, rfl⟩ := heap0_get h1
  cases h2

/-! What is known at a place, beside the variables. -/

theorem heapG_get {l : List (Nat × ABlk)} {gl : Gl} {n b : Nat} {x : ABlk} (hl : ∀ p ∈ l, gmax ≤ p.1) (hg : ∀ p ∈ gl, p.1 < gmax) (h : (heapL (l ++ gl) n).get b = some x) : (gmax ≤ b ∧ (b, x) ∈ l ∧ b < n) ∨ (b < gmax ∧ ∃ y, (b, y) ∈ gl ∧ x = y.shut) := by
  unfold heapL AH.get at h
  simp only [hidden, Bool.false_eq_true, if_false] at h
  split at h
  · rename_i hb
    simp only [Nat.blt_eq] at hb
    simp only [Option.map_eq_some_iff] at h
    obtain ⟨y, hy, rfl⟩ := h
    rcases List.mem_append.1 (trL_get _ b y hy) with h1 | h1
    · have := hl _ h1
      simp only at this
      omega
    · exact .inr ⟨hb, y, h1, rfl⟩
  · rename_i hb
    simp only [Nat.blt_eq] at hb
    split at h
    · rename_i hn
      rcases List.mem_append.1 (trL_get _ b x h) with h1 | h1
      · exact .inl ⟨hl _ h1, h1, by simpa using hn⟩
      · have := hg _ h1
        simp only at this
        omega
    · cases h

/-- It holds, in a call that began in w0 and leaves alone what was there. -/
structure HoldsG (N : Nat) (w0 : World) (ν : Nat → Int) (gl : Gl) (o : Now) (a : Act) (w : World) : Prop where
  low : ∀ p ∈ o.H, gmax ≤ p.1
  big : gmax ≤ o.n
  has : ∃ ρ : Emb, (∀ p ∈ o.e, VR ν ρ p.2 (a.tmps.getD p.1 undef)) ∧ HR ν ρ (heapL (o.H ++ gl) o.n) w ∧ (∀ b, o.n ≤ b → ρ b = none) ∧ (∀ cb, Owned ρ (heapL (o.H ++ gl) o.n) cb → w0.heap.size ≤ cb)
  below : Below w0.heap.size w0 w
  tmps : a.tmps.size = N
  defers : a.defers = []

section
variable {P : Program} {N : Nat} {w0 : World} {ν : Nat → Int} {F : Facts} {gl : Gl}

/-- A run of the machine. -/
noncomputable def goesG (F : Facts) (tab : Tr IFn) (T : List Row) (gl : Gl) (TG : List Row) (fuel d : Nat) (ic : IC) (i : Now) (ex : Ex) (o : Now) : Bool :=
  optK (codeK F (callOK F tab (tovGK T gl TG) fuel d) fuel ic (trL i.e) (heapL (i.H ++ gl) i.n) fun ex' e' H' => some (isNow ex o ex' e' H' && hasG H' gl)) false fun t => t

theorem Tri.runG {tab : Tr IFn} {T TG : List Row} {fuel d : Nat} {ic : IC} {i o : Now} {ex : Ex} (hF : F.Hold ν) (hm : P.follows .mixedOrders = true) (ht : TabOk P (fun f => tab.get f)) (hG : GlOk gl) (hT : ∀ r ∈ T, r.Ok ν P) (hTG : ∀ r ∈ TG, r.OkG ν P gl)
    (h : goesG F tab T gl TG fuel d ic i ex o = true) : Tri P N ic (HoldsG N w0 ν gl i) fun ex' a w => ex' = ex ∧ HoldsG N w0 ν gl o a w := by
  intro c hc a w hp
  unfold goesG at h
  rw [codeK_eq F (callOK F tab (tovGK T gl TG) fuel d) (callO F (fun f => tab.get f) (tovG T gl TG) fuel d) (callOK_eq tab (tovG_ok T gl TG _) fuel d)] at h
  cases hr : codeA F (callO F (fun f => tab.get f) (tovG T gl TG) fuel d) fuel ic (trL i.e) (heapL (i.H ++ gl) i.n) with
  | none => rw [hr] at h; cases h
  | some q =>
    obtain ⟨ex', e', H'⟩ := q
    rw [hr] at h
    have hn : (isNow ex o ex' e' H' && hasG H' gl) = true := h
    simp only [isNow, Bool.and_eq_true] at hn
    obtain ⟨⟨⟨⟨n1, n2⟩, n3⟩, n4⟩, n5⟩ := hn
    have hex := eqEx_eq n1
    subst hex
    have hnx := Nat.eq_of_beq_eq_true n4
    obtain ⟨ρ, he, hh, hfr, hown⟩ := hp.has
    have hsim := callO_sim hF hm ht (tovG_sim hG hT hTG) fuel d
    have hk := code_keeps hsim.keeps _ _ _ _ _ _ _ hr
    have hER : ER ν ρ (trL i.e) a.tmps := fun j x hx => he _ (trL_get i.e j x hx)
    have hw := (code_sim (N := N) hF hsim hm fuel).1 c ic _ _ _ _ _ ρ a w hc hr hER hh (fun b hb _ => hfr b hb) hp.tmps
    have sub : ∀ b x, (heapL (o.H ++ gl) o.n).get b = some x → H'.get b = some x := fun b x hx => by
      rcases heapG_get (fun p hp' => (inHeap_mem n3 p hp').1) (fun p hp' => (hG p hp').1) hx with ⟨_, h1, _⟩ | ⟨_, y, h1, rfl⟩
      · exact (inHeap_mem n3 _ h1).2
      · exact hasG_mem n5 _ h1
    refine wp_mono hw ?_
    rintro E a' w' ⟨hE, ρ', g1, g2, g3, g4, g5⟩
    refine ⟨_, hE, rfl, ⟨fun p hp' => (inHeap_mem n3 p hp').1, ?_, ⟨ρ', fun p hp' => g1 p.1 p.2 (inEnv_mem n2 p hp'), ?_, ?_, ?_⟩, ?_, g4, by rw [g5]; exact hp.defers⟩⟩
    · have := hk.next
      have := hp.big
      have : (heapL (i.H ++ gl) i.n).next = i.n := rfl
      omega
    · exact ⟨fun b x hx => g2.blk b x (sub b x hx), fun b b' x x' pl pl' h1 h2 h3 h4 h5 h6 => g2.apart b b' x x' pl pl' h1 (sub b x h2) (sub b' x' h3) h4 h5 h6⟩
    · intro b hb
      cases hq : ρ' b with
      | none => rfl
      | some q =>
        have h0 : (heapL (i.H ++ gl) i.n).next = i.n := rfl
        have := hk.next
        have := g3.fresh b (hfr b (by omega)) (by rw [hq]; simp)
        omega
    · rintro cb ⟨b, x, pl, h1, h2, h3, h4⟩
      rcases Nat.lt_or_ge cb w.heap.size with h5 | h5
      · exact hown cb (g3.owned cb h5 ⟨b, x, pl, sub b x h1, h2, h3, h4⟩)
      · have := hp.below.size
        omega
    · have hb := hp.below
      refine ⟨g3.os.trans hb.os, g3.tape.trans hb.tape, g3.output.trans hb.output, Nat.le_trans hb.size g3.size, fun k hk' => ?_⟩
      rw [g3.frame k (Nat.lt_of_lt_of_le hk' hb.size) (fun ho => by have := hown k ho; omega), hb.block k hk']

/-- Other names, and what was made in between forgotten. -/
theorem HoldsG.renumS {ν ν' : Nat → Int} {e e' : List (Nat × AV)} {H H' : List (Nat × ABlk)} {n n' : Nat} {a : Act} {w : World} (hG : GlOk gl) (h : HoldsG N w0 ν gl ⟨e, H, n⟩ a w) (hg : gmax ≤ n')
    (he : ∀ p ∈ e', (∃ x u, (p.1, x) ∈ e ∧ conc ν x = some u ∧ conc ν' p.2 = some u) ∨ (∃ b o, p.2 = .p b o ∧ b < n' ∧ (p.1, AV.p b o) ∈ e))
    (hH : ∀ p ∈ H', gmax ≤ p.1 ∧ p.1 < n' ∧ ∃ x us, (heapL H n).get p.1 = some x ∧ x.elem = p.2.elem ∧ x.own = p.2.own ∧ x.elem < mapTag ∧ concT ν x.cells = some us ∧ concT ν' p.2.cells = some us) : HoldsG N w0 ν' gl ⟨e', H', n'⟩ a w := by
  obtain ⟨ρ, h1, h2, h3, h4⟩ := h.has
  have hl0 : ∀ p ∈ H, gmax ≤ p.1 := h.low
  have hl : ∀ p ∈ H', gmax ≤ p.1 := fun p hp => (hH p hp).1
  have hgl : ∀ p ∈ gl, p.1 < gmax := fun p hp => (hG p hp).1
  -- a block that was there among the others as well
  have widen : ∀ b x, gmax ≤ b → (heapL H n).get b = some x → (heapL (H ++ gl) n).get b = some x := by
    intro b x hb hx
    have key : ∀ (l : List (Nat × ABlk)), (trL (l ++ gl)).get b = (trL l).get b := by
      intro l
      induction l with
      | nil =>
        have none' : ∀ (g : Gl), (∀ p ∈ g, p.1 < gmax) → (trL g).get b = none := by
          intro g hg'
          cases hq : (trL g).get b with
          | none => rfl
          | some y =>
            have := hg' _ (trL_get g b y hq)
            simp only at this
            omega
        show (trL gl).get b = (trL []).get b
        rw [none' gl hgl, none' [] (fun p hp => by cases hp)]
      | cons q r ih =>
        simp only [List.cons_append, trL]
        split
        · rename_i hq
          simp only [Nat.blt_eq] at hq
          rw [Tr.get_put _ _ _ _ _ (by unfold room at hq; show q.1 + 1 < 2 ^ 24; omega), Tr.get_put _ _ _ _ _ (by unfold room at hq; show q.1 + 1 < 2 ^ 24; omega), ih]
        · exact ih
    unfold heapL AH.get at hx ⊢
    rw [key H]
    exact hx
  have old : ∀ b x', (heapL (H' ++ gl) n').get b = some x' → (b < n' ∧ gmax ≤ b ∧ ∃ x us, (heapL (H ++ gl) n).get b = some x ∧ x.elem = x'.elem ∧ x.own = x'.own ∧ x.elem < mapTag ∧ concT ν x.cells = some us ∧ concT ν' x'.cells = some us) ∨ (b < gmax ∧ ∃ y, (b, y) ∈ gl ∧ x' = y.shut) := by
    intro b x' hx'
    rcases heapG_get hl hgl hx' with ⟨g1, g2, g3⟩ | g
    · obtain ⟨_, q2, x, us, q3, q4⟩ := hH _ g2
      exact .inl ⟨q2, g1, x, us, widen b x g1 q3, q4⟩
    · exact .inr g
  -- the variables are among what was there
  have glAt : ∀ b y, (b, y) ∈ gl → ∃ y', (b, y') ∈ gl ∧ (heapL (H ++ gl) n).get b = some y'.shut := by
    intro b y hy
    have hb := hgl _ hy
    simp only at hb
    have inl : ∀ (l : List (Nat × ABlk)), (∃ y, (b, y) ∈ l) → (∀ p ∈ l, p.1 < room) → ∃ y', (trL l).get b = some y' := by
      intro l
      induction l with
      | nil => rintro ⟨y, hy⟩; cases hy
      | cons q r ih =>
        rintro ⟨y, hy⟩ hr
        have hq : Nat.blt q.1 room = true := by simpa using hr q (by simp)
        simp only [trL, hq, if_true]
        rw [Tr.get_put _ _ _ _ _ (by have := hr q (by simp); unfold room at this; show q.1 + 1 < 2 ^ 24; omega)]
        by_cases e : b = q.1
        · exact ⟨q.2, by rw [if_pos e]⟩
        · rw [if_neg e]
          rcases List.mem_cons.1 hy with rfl | hy
          · exact (e rfl).elim
          · exact ih ⟨y, hy⟩ fun p hp => hr p (by simp [hp])
    have key : ∀ (l : List (Nat × ABlk)), (∀ p ∈ l, gmax ≤ p.1) → (trL (l ++ gl)).get b = (trL gl).get b := by
      intro l
      induction l with
      | nil => intro _; rfl
      | cons q r ih =>
        intro hq
        have hq0 := hq q (by simp)
        simp only [List.cons_append, trL]
        split
        · rename_i hr
          simp only [Nat.blt_eq] at hr
          rw [Tr.get_put _ _ _ _ _ (by unfold room at hr; show q.1 + 1 < 2 ^ 24; omega), if_neg (by omega), ih fun p hp => hq p (by simp [hp])]
        · exact ih fun p hp => hq p (by simp [hp])
    obtain ⟨y', hy'⟩ := inl gl ⟨y, hy⟩ fun p hp => Nat.lt_of_lt_of_le (hgl p hp) (by decide)
    refine ⟨y', trL_get gl b y' hy', ?_⟩
    unfold heapL AH.get
    have hlow : Nat.blt b gmax = true := by simpa using hb
    simp only [hidden, Bool.false_eq_true, if_false, hlow, if_true]
    rw [key H hl0, hy']
    rfl
  refine ⟨hl, hg, ⟨⟨fun b => if b < n' then ρ b else none, fun b hb => by
    obtain ⟨i, hi⟩ := ρ.glob b hb
    exact ⟨i, by rw [if_pos (Nat.lt_of_lt_of_le hb hg)]; exact hi⟩⟩, fun p hp => ?_, ⟨fun b x' hx' => ?_, fun b b' x x' pl pl' hne hx hx' ho hp hp' => ?_⟩, fun b (hb : n' ≤ b) => if_neg (by omega), ?_⟩, h.below, h.tmps, h.defers⟩
  · rcases he p hp with ⟨x, u, g1, g2, g3⟩ | ⟨b, o, g1, g2, g3⟩
    · rw [(conc_vr g2).2 _ (h1 _ g1)]
      exact (conc_vr g3).1
    · have hv := h1 _ g3
      rw [g1]
      generalize a.tmps.getD p.1 undef = v at *
      cases hv
      rename_i pl hb
      exact .p b o pl ((if_pos g2).trans hb)
  · rcases old b x' hx' with ⟨hb, _, x, us, g1, g2, g3, gm, g4, g5⟩ | ⟨hb, y, hy, rfl⟩
    · obtain ⟨pl, k1, k2⟩ := h2.blk b x g1
      refine ⟨pl, (if_pos hb).trans k1, ⟨fun hm => ?_, fun hm => absurd (g2.trans hm) (Nat.ne_of_lt gm), fun hm => absurd (g2 ▸ hm) (Nat.not_lt_of_lt gm)⟩⟩
      obtain ⟨C, t, fz, q1, q2, q3⟩ := k2.cells (Nat.ne_of_lt gm)
      refine ⟨C, t, fz, q1, fun j c' hc' => ?_, by rw [← g3]; exact q3⟩
      obtain ⟨m1, m2⟩ := concT_spec g4
      obtain ⟨l1, l2⟩ := concT_spec g5
      have hj : j < x'.cells.length := (List.getElem?_eq_some_iff.1 hc').1
      have hj2 : j < us.length := by rw [← l1]; exact hj
      have hj1 : j < x.cells.length := by rw [m1]; exact hj2
      obtain ⟨v, r3, r4⟩ := q2 j x.cells[j] (by simp [hj1])
      refine ⟨v, r3, ?_⟩
      rw [(conc2_vr (m2 j _ us[j] (by simp [hj1]) (by simp [hj2]))).2 v r4]
      exact (conc2_vr (l2 j c' us[j] hc' (by simp [hj2]))).1
    · have hx2 := hx'
      obtain ⟨tot, h5⟩ := ρ.glob b hb
      -- the one that the table finds there, before and behind
      have same : (heapL (H ++ gl) n).get b = some y.shut := by
        obtain ⟨y', hy', hq⟩ := glAt b y hy
        have e : (heapL (H' ++ gl) n').get b = (heapL (H ++ gl) n).get b := by
          have key : ∀ (l : List (Nat × ABlk)), (∀ p ∈ l, gmax ≤ p.1) → (trL (l ++ gl)).get b = (trL gl).get b := by
            intro l
            induction l with
            | nil => intro _; rfl
            | cons q r ih =>
              intro hq
              have hq0 := hq q (by simp)
              simp only [List.cons_append, trL]
              split
              · rename_i hr
                simp only [Nat.blt_eq] at hr
                rw [Tr.get_put _ _ _ _ _ (by unfold room at hr; show q.1 + 1 < 2 ^ 24; omega), if_neg (by omega), ih fun p hp => hq p (by simp [hp])]
              · exact ih fun p hp => hq p (by simp [hp])
          unfold heapL AH.get
          have hlow : Nat.blt b gmax = true := by simpa using hb
          simp only [hidden, Bool.false_eq_true, if_false, hlow, if_true]
          rw [key H hl0, key H' hl]
        rw [← e]
        exact hx2
      obtain ⟨pl, k1, k2⟩ := h2.blk b y.shut same
      obtain ⟨_, gm, us, gc⟩ := hG _ hy
      have k1' : ρ.f b = some pl := k1
      rw [h5] at k1'
      cases k1'
      exact ⟨⟨b, 0, tot⟩, (if_pos (Nat.lt_of_lt_of_le hb hg)).trans h5, br_known gm gc k2⟩
  · have ge : ∀ c z, (heapL (H' ++ gl) n').get c = some z → ∃ z0, (heapL (H ++ gl) n).get c = some z0 ∧ z0.own = z.own ∧ c < n' := by
      intro c z hz
      rcases old c z hz with ⟨hb, _, z0, us, g1, _, g3, _⟩ | ⟨hb, y, hy, rfl⟩
      · exact ⟨z0, g1, g3, hb⟩
      · obtain ⟨y', _, hq⟩ := glAt c y hy
        exact ⟨y'.shut, hq, rfl, Nat.lt_of_lt_of_le hb hg⟩
    obtain ⟨y, g1, g3, gb⟩ := ge b x hx
    obtain ⟨y', g1', _, gb'⟩ := ge b' x' hx'
    have e1 : ρ b = some pl := (if_pos gb).symm.trans hp
    have e2 : ρ b' = some pl' := (if_pos gb').symm.trans hp'
    exact h2.apart b b' y y' pl pl' hne g1 g1' (g3.trans ho) e1 e2
  · rintro cb ⟨b, x, pl, k1, k2, k3, k4⟩
    rcases old b x k1 with ⟨hb, _, z0, us, g1, _, g3, _⟩ | ⟨hb, y, hy, rfl⟩
    · exact h4 cb ⟨b, z0, pl, g1, g3.trans k2, (if_pos hb).symm.trans k3, k4⟩
    · cases k2

/-- A function whose body is told so. -/
theorem pureG_tri {f : Nat} {fn : IFn} {us : List Value} {u : Value} {args : List AV} {rs : List IRes} {ic : IC} {o : Now} {ν' : Nat → Int} {r : AV} {ntmps : Nat} (tab : Tr IFn) (ht : TabOk P (fun f => tab.get f)) (hG : GlOk gl) (hf : tab.get f = some fn) (hfn : fn = ⟨ic, rs, ntmps⟩)
    (ha : concT ν args = some us) (hlen : args.length ≤ ntmps) (e0 : List (Nat × AV)) (he0 : ∀ p ∈ e0, args[p.1]? = some p.2)
    (htri : ∀ w0, Tri P ntmps ic (HoldsG ntmps w0 ν gl ⟨e0, [], gmax⟩) fun ex a w => (ex = .normal ∨ ex = .ret) ∧ HoldsG ntmps w0 ν' gl o a w)
    (hres : resA (trL o.e) (heapL (o.H ++ gl) o.n) rs = some r) (hr : conc ν' r = some u) : PureG P gl f us u := by
  obtain ⟨g, g1, g2⟩ := ht f fn hf
  subst hfn
  unfold cFn at g2
  split at g2
  case h_2 => cases g2
  rename_i c hb
  split at g2
  case h_2 => cases g2
  rename_i ic' rs' hic hrs
  split at g2
  case isFalse => cases g2
  rename_i hname
  simp only [Option.some.injEq, IFn.mk.injEq] at g2
  obtain ⟨rfl, rfl, rfl⟩ := g2
  refine ⟨⟨g, g1, by rw [hb]; rfl, by simpa using hname⟩, fun w hw => calls_of_wp g1 hb ?_⟩
  obtain ⟨hLR1, hLR2⟩ := (concT_lr (ρ := embF fun _ => none) ha).1
  have hsz : (us.toArray ++ Array.replicate (g.ntmps - us.toArray.size) undef).size = g.ntmps := by
    simp only [Array.size_append, Array.size_replicate]
    omega
  have hglob : ∀ b x, (heapL ([] ++ gl) gmax).get b = some x → b < gmax ∧ ∃ y, (b, y) ∈ gl ∧ x = y.shut := fun b x hx => by
    rcases heapG_get (l := []) (fun p hp => by cases hp) (fun p hp => (hG p hp).1) hx with ⟨_, h1, _⟩ | h1
    · cases h1
    · exact h1
  have hstart : HoldsG g.ntmps w ν gl ⟨e0, [], gmax⟩ { tmps := us.toArray ++ Array.replicate (g.ntmps - us.toArray.size) undef, defers := [] } w := by
    refine ⟨(fun p hp => by cases hp), Nat.le_refl _, ⟨embF fun _ => none, fun p hp => ?_, ⟨fun b x hx => ?_, fun b b' x x' pl pl' _ hx _ ho _ _ => ?_⟩, fun b hb => embF_other hb, fun cb ⟨b, x, _, h1, h2, _⟩ => ?_⟩, Below.refl _ _, hsz, rfl⟩
    · have hx := he0 p hp
      have hj : p.1 < args.length := (List.getElem?_eq_some_iff.1 hx).1
      have hj' : p.1 < us.toArray.size := by rw [← hLR1]; exact hj
      rw [Array.getD_eq_getD_getElem?, Array.getElem?_append_left hj', Array.getElem?_eq_getElem hj']
      exact hLR2 p.1 p.2 _ hx (by simp)
    · obtain ⟨hb, y, hy, rfl⟩ := hglob b x hx
      exact ⟨⟨b, 0, 0⟩, embF_glob hb, hw _ hy _ _⟩
    · obtain ⟨_, y, _, rfl⟩ := hglob b x hx
      cases ho
    · obtain ⟨_, y, _, rfl⟩ := hglob b x h1
      cases h2
  refine wp_mono (htri w c hic _ w hstart) ?_
  rintro E a' w' ⟨ex, hE, hq, hH⟩
  obtain ⟨ρ, k1, k2, _, _⟩ := hH.has
  obtain ⟨v, hv1, hv2⟩ := results_sim (P := P) (w := w') (e := trL o.e) k2 hrs (fun j x hx => k1 _ (trL_get o.e j x hx)) hres
  have hvu : v = u := (conc_vr hr).2 v hv2
  subst hvu
  rcases hq with rfl | rfl
  · cases hE
    exact ⟨hH.defers, v, hv1, rfl, hH.below⟩
  · cases hE
    exact ⟨hH.defers, v, hv1, rfl, hH.below⟩

end
end Go.Sh

namespace Go.Sh
open Go.RowKit Go.WideShapes Go.ChangeShapes
/-- The answer of a function's body, where some blocks came in. -/
noncomputable def saysM (F : Facts) (tab : Tr IFn) (T : List Row) (gl : Gl) (TG : List Row) (xs : Gl) (n : Nat) (fuel d f : Nat) (args : List AV) (r : AV) : Bool :=
  optK (optK (getF tab f) none fun fn => runK F (callOK F tab (tovGK T gl TG) fuel d) fuel fn args (heap0 (xs ++ gl) n) fun v _ => some (eq3 v r)) false fun t => t
theorem saysM_run {F : Facts} {tab : Tr IFn} {T TG : List Row} {gl xs : Gl} {n fuel d f : Nat} {args : List AV} {r : AV} (h : saysM F tab T gl TG xs n fuel d f args r = true) :
    ∃ fn H', tab.get f = some fn ∧ runFn F (callO F (fun f => tab.get f) (tovG T gl TG) fuel d) fuel fn args (heap0 (xs ++ gl) n) = some (r, H') := by
  unfold saysM at h
  rw [getF_eq] at h
  cases hf : tab.get f with
  | none => rw [hf] at h; cases h
  | some fn =>
    rw [hf] at h
    replace h : optK (runK F (callOK F tab (tovGK T gl TG) fuel d) fuel fn args (heap0 (xs ++ gl) n) fun v _ => some (eq3 v r)) false (fun t => t) = true := h
    rw [runK_eq F (callOK F tab (tovGK T gl TG) fuel d) (callO F (fun f => tab.get f) (tovG T gl TG) fuel d) (callOK_eq tab (tovG_ok T gl TG _) fuel d)] at h
    cases hr : runFn F (callO F (fun f => tab.get f) (tovG T gl TG) fuel d) fuel fn args (heap0 (xs ++ gl) n) with
    | none => rw [hr] at h; cases h
    | some p =>
      obtain ⟨v, H'⟩ := p
      rw [hr] at h
      have h1 : eq3 v r = true := h
      exact ⟨fn, H', rfl, by rw [← eq3_eq h1]; exact hr⟩
/-- WHAT A CALL ANSWERS whose arguments lie in memory. -/
theorem memG_of {ν : Nat → Int} {F : Facts} {P : Program} {tab : Tr IFn} {T TG : List Row} {gl xs : Gl} {n fuel d f : Nat} {args : List AV} {r : AV} {vs : Array Value} {u : Value} {g : Nat → Option Pl} {w : World} (hF : F.Hold ν) (hm : P.follows .mixedOrders = true) (ht : TabOk P (fun f => tab.get f)) (hG : GlOk gl)
    (hT : ∀ r ∈ T, r.Ok ν P) (hTG : ∀ r ∈ TG, r.OkG ν P gl) (h : saysM F tab T gl TG xs n fuel d f args r = true) (hn : gmax ≤ n) (hg : ∀ b, n ≤ b → g b = none) (hw : Laid gl w) (hx : ∀ p ∈ xs, ∃ pl, embF g p.1 = some pl ∧ BR ν (embF g) w p.2.shut pl) (ha : LR ν (embF g) args vs) (hr : conc ν r = some u) :
    Calls P f vs w fun e w' => e = .returned u ∧ Below w.heap.size w w' := by
  obtain ⟨fn, H', h1, h2⟩ := saysM_run h
  obtain ⟨fn', g1, g2⟩ := ht f fn h1
  obtain ⟨_, gf, gr⟩ := fn_runs hF (callO_sim hF hm ht (tovG_sim hG hT hTG) fuel d) hm g1 g2 h2
  have hl : ∀ p ∈ xs ++ gl, ∃ pl, (embF g) p.1 = some pl ∧ BR ν (embF g) w p.2.shut pl := fun p hp => (List.mem_append.1 hp).elim (hx p) fun hp => ⟨⟨p.1, 0, 0⟩, embF_glob (hG p hp).1, hw p hp _ _⟩
  refine (gr (embF g) w vs ha (heap0_rel hl) (fun b hb _ => by rw [embF_other (Nat.le_trans hn hb)]; exact hg b hb)).mono ?_
  rintro e w' ⟨v, rfl, ρ', hv, _, hs⟩
  refine ⟨by rw [(conc_vr hr).2 v hv], ⟨hs.os, hs.tape, hs.output, hs.size, fun k hk => hs.frame k hk ?_⟩⟩
  rintro ⟨b, x, pl, h1, h2, _⟩
  obtain ⟨y, _, rfl⟩ := heap0_get h1
  cases h2
/-- A slice of numbers that came in. -/
def ReadsAs (w : World) (k : IntKind) (v : Value) (zs : List Int) : Prop :=
  (v = .slice none 0 0 ∧ zs = []) ∨ (∃ a c, v = .slice (some a) 0 c ∧ zs = []) ∨
  ∃ b o n c, v = .slice (some ⟨b, o, none⟩) n c ∧ n ≤ c ∧ zs.length = n ∧ 0 < n ∧ ∀ i, i < n → w.cell? ⟨b, o + i, none⟩ = some (.int k (zs.getD i 0))
theorem reads_open {H : Type} {enc : TypeId × Value → H} {P : Program} {w : World} {r : Reach} {b0 base : Nat} {sp : Nat → Bool} {held : Bool} {t e : TypeId} {k : IntKind} {v : Value} {d : DataW H} {ps : List MemPlace} (ht : P.underlying t = some (.slice e)) (he : P.underlying e = some (.int k)) (hc : P.cellsOf e = 1)
    (hval : Value.okWide P w r b0 t v) (h : DataW.Trod enc P w base sp held t v d ps) : ∃ zs, ReadsAs w k v zs ∧ (∀ z ∈ zs, (Lit.int k z).wf = true) ∧ zs.length ≤ maxLen := by
  obtain ⟨fuel, hf⟩ := h
  obtain ⟨a0, len, cap, rfl⟩ := okWide_slice ht hval
  rcases open_ints ht he hc hf with ⟨hcs, _⟩ | ⟨a, len', cap', zs, hcs, _, hl, hm, hz, _, hcell, hwz⟩
  · simp [Value.cells] at hcs
    obtain ⟨rfl, rfl, rfl⟩ := hcs
    exact ⟨[], .inl ⟨rfl, rfl⟩, fun _ h => (by cases h), Nat.zero_le _⟩
  · simp [Value.cells] at hcs
    obtain ⟨rfl, rfl, rfl⟩ := hcs
    by_cases h0 : len = 0
    · subst h0
      exact ⟨[], .inr (.inl ⟨a, cap, rfl, rfl⟩), fun _ h => (by cases h), Nat.zero_le _⟩
    · have hlz : len ≤ zs.length := by rw [hz]; split <;> omega
      obtain ⟨b, off, spot⟩ := a
      have hspot : spot = none := by simpa [Addr.add] using World.cell?_spot (hcell 0 (by omega))
      subst hspot
      refine ⟨zs.take len, .inr (.inr ⟨b, off, len, cap, rfl, hl, by simp; omega, by omega, fun i hi => ?_⟩), fun z hz => hwz z (List.mem_of_mem_take hz), ?_⟩
      · have h1 := hcell i (by omega)
        rw [add_plain] at h1
        rw [h1]
        simp [List.getD, hi]
      · have : (zs.take len).length ≤ len := by simp; omega
        omega
/-- A slice as the machine has it: its cells, named. -/
def slA (blk : Nat) (cs : List AV) : AV := if cs.isEmpty then .sle false else .sl blk 0 (.c (.ofNat cs.length)) .any
def Named (ν : Nat → Int) (k : IntKind) (cs : List AV) (zs : List Int) : Prop := concL ν cs = some (zs.map (Value.int k))
theorem named_at {ν : Nat → Int} {k : IntKind} {cs : List AV} {zs : List Int} (h : Named ν k cs zs) : cs.length = zs.length ∧ ∀ (j : Nat) c, cs[j]? = some c → j < zs.length ∧ conc1 ν c = some (.int k (zs.getD j 0)) := by
  obtain ⟨h1, h2⟩ := concL_spec h
  have hl : cs.length = zs.length := by simpa using h1
  refine ⟨hl, fun j c hc => ?_⟩
  have hj : j < cs.length := (List.getElem?_eq_some_iff.1 hc).1
  have hj' : j < zs.length := by omega
  refine ⟨hj', h2 j c _ hc ?_⟩
  rw [List.getElem?_map, List.getElem?_eq_getElem hj']
  simp [List.getD, hj']
/-- It is read so: where its first cell lies. -/
theorem reads_br {ν : Nat → Int} {ρ : Emb} {w : World} {k : IntKind} {b o n e : Nat} {cs : List AV} {zs : List Int} (hc : ∀ i, i < n → w.cell? ⟨b, o + i, none⟩ = some (.int k (zs.getD i 0))) (hn : ∀ (j : Nat) c, cs[j]? = some c → j < n ∧ conc1 ν c = some (.int k (zs.getD j 0))) (h0 : cs ≠ []) (he : Nat.ble mapTag e = false) (t : Nat) :
    BR ν ρ w (ABlk.shut ⟨cs, e, true⟩) ⟨b, o, t⟩ := by
  refine br_cells h0 he fun j c hj => ?_
  obtain ⟨h1, h2⟩ := hn j c hj
  exact ⟨_, hc j h1, (conc1_vr h2).1⟩
/-- An argument that is kept. -/
theorem kept_arg {H : Type} {enc : TypeId × Value → H} {P : Program} {t : TypeId} (hl : laidOutB P = true) (hr : P.readableRec t = true) (hrow : t < P.types.size) {W W' : World} {v : Value} {d : DataW H} {ps : List MemPlace} (h : DataW.Trod enc P W 0 (fun _ => true) true t v d ps) (hb : Below W.heap.size W W') (hlt : ∀ x ∈ ps, x.block < W.heap.size) {sp : Nat → Bool} (hs : ∀ p ∈ ps, sp p.block = true) :
    DataW.Trod enc P W' 0 sp true t v d ps := WideElems.Trod_stays hl hr hrow h (fun x hx => hb.same (hlt x hx)) hs
/-- One by one. -/
def lrL (ν : Nat → Int) (ρ : Emb) : List AV → List Value → Prop
  | [], [] => True
  | a :: r, v :: s => VR ν ρ a v ∧ lrL ν ρ r s
  | _, _ => False
theorem lrL_at {ν : Nat → Int} {ρ : Emb} : ∀ {as : List AV} {vs : List Value}, lrL ν ρ as vs → as.length = vs.length ∧ ∀ (j : Nat) (x : AV) (v : Value), as[j]? = some x → vs[j]? = some v → VR ν ρ x v
  | [], [], _ => ⟨rfl, fun j x v h => by simp at h⟩
  | a :: r, v :: s, h => by
    obtain ⟨h1, h2⟩ := lrL_at h.2
    refine ⟨by simp [h1], fun j x w hx hw => ?_⟩
    cases j with
    | zero =>
      simp only [List.getElem?_cons_zero, Option.some.injEq] at hx hw
      subst hx hw
      exact h.1
    | succ j =>
      simp only [List.getElem?_cons_succ] at hx hw
      exact h2 j x w hx hw
  | [], _ :: _, h => h.elim
  | _ :: _, [], h => h.elim
theorem lr_of {ν : Nat → Int} {ρ : Emb} {as : List AV} {vs : List Value} (h : lrL ν ρ as vs) : LR ν ρ as vs.toArray := by
  obtain ⟨h1, h2⟩ := lrL_at h
  exact ⟨by simpa using h1, fun j x v hx hv => h2 j x v hx (by simpa using hv)⟩
/-- One slice's place. -/
def at1 (blk : Nat) (pl : Pl) : Nat → Option Pl := fun b => if b = blk then some pl else none
theorem at1_at {blk : Nat} {pl : Pl} (h : gmax ≤ blk) : embF (at1 blk pl) blk = some pl := by
  rw [embF_other h]
  simp [at1]
theorem at1_none {blk b : Nat} {pl : Pl} (h : b ≠ blk) : at1 blk pl b = none := by simp [at1, h]
theorem nat_bytes {zs : List Int} (h : ∀ z ∈ zs, (Lit.int .u8 z).wf = true) : ∃ f : Nat → Nat, (∀ i, f i < 256) ∧ ∀ i, zs.getD i 0 = ((f i : Nat) : Int) := by
  have hz : ∀ i, 0 ≤ zs.getD i 0 ∧ zs.getD i 0 < 256 := by
    intro i
    by_cases hi : i < zs.length
    · have e : zs.getD i 0 = zs[i] := by simp [List.getD, hi]
      have h1 := h _ (List.getElem_mem hi)
      rw [e]
      have h2 : IntKind.u8.min ≤ zs[i] ∧ zs[i] ≤ IntKind.u8.max := by simpa [Lit.wf] using h1
      rw [show IntKind.u8.min = 0 from rfl, show IntKind.u8.max = 255 from rfl] at h2
      omega
    · simp [List.getD, hi]
  exact ⟨fun i => (zs.getD i 0).toNat, fun i => by have := hz i; show (zs.getD i 0).toNat < 256; omega, fun i => by have := hz i; show zs.getD i 0 = (((zs.getD i 0).toNat : Nat) : Int); omega⟩
end Go.Sh

namespace Go.Sh
open Go.RowKit Go.WideShapes Go.ChangeShapes
/-- A part of an answer: what needs no memory, or a new row of numbers. -/
inductive RP where
  | v (x : AV)
  | new (tag : Nat)
/-- A row's slice. -/
def slP (b tag : Nat) : AV := .sl b 0 (.s (pinL tag)) .any
structure RowM where
  f : Nat
  args : List AV
  need : Gl
  res : List RP
def makeA : List RP → AH → Option (List AV × AH)
  | [], H => some ([], H)
  | .v x :: r, H => match makeA r H with | some q => some (x :: q.1, q.2) | none => none
  | .new tag :: r, H => match H.alloc ⟨[], tag, false⟩ with
    | some p => (match makeA r p.2 with | some q => some (slP p.1 tag :: q.1, q.2) | none => none)
    | none => none
def packA : List AV → AV
  | [x] => x
  | l => .tp l
def packV : List Value → Value
  | [x] => x
  | l => .tuple l.toArray
/-- What is new, in a world that had so many blocks. -/
def PartR (ν : Nat → Int) (n : Nat) (w : World) : RP → Value → Prop
  | .v x, u => conc2 ν x = some u
  | .new tag, u => (mapTag < tag ∧ tag ≤ winTag) ∧ ∃ b o len c, u = .slice (some ⟨b, o, none⟩) len c ∧ len ≤ c ∧ ν (pinL tag) = (len : Int) ∧ n ≤ b ∧ Pinned ν w tag ⟨b, o, 0⟩
def PartsR (ν : Nat → Int) (n : Nat) (w : World) : List RP → List Value → Prop
  | [], [] => True
  | a :: r, u :: s => PartR ν n w a u ∧ PartsR ν n w r s
  | _, _ => False
def NeedOk (ν : Nat → Int) (ρ : Emb) (w : World) (need : Gl) : Prop := ∀ p ∈ need, ∃ pl, ρ p.1 = some pl ∧ BR ν ρ w p.2.shut pl
def RowM.Ok (ν : Nat → Int) (P : Program) (gl : Gl) (r : RowM) : Prop :=
  (∃ fn, P.funcs[r.f]? = some fn ∧ fn.body.isSome = true ∧ (fn.name == "runtime.NumGoroutine") = false) ∧
  ∀ ρ w vs, Laid gl w → NeedOk ν ρ w r.need → LR ν ρ r.args vs → Calls P r.f vs w fun e w' => ∃ us, e = .returned (packV us) ∧ PartsR ν w.heap.size w' r.res us ∧ Below w.heap.size w w'
noncomputable def needB (H : AH) : Gl → Bool
  | [] => true
  | p :: r => (match H.get p.1 with | some x => eqBlk x.shut p.2.shut | none => false) && needB H r
noncomputable def mfind : List RowM → Nat → List AV → AH → Option RowM
  | [], _, _, _ => none
  | r :: t, f, args, H => if Nat.beq r.f f && eqL4 r.args args && needB H r.need then some r else mfind t f args H
noncomputable def ovM (gl : Gl) (TM : List RowM) : CallFn := fun f args H =>
  match mfind TM f args H with
  | some r => if hasG H gl then (match makeA r.res H with | some q => some (packA q.1, q.2) | none => none) else none
  | none => none
noncomputable def tovA (T : List Row) (gl : Gl) (TG : List Row) (TM : List RowM) : CallFn := fun f args H =>
  match tovG T gl TG f args H with
  | some r => some r
  | none => ovM gl TM f args H
noncomputable def tovAK {X : Type} (T : List Row) (gl : Gl) (TG : List Row) (TM : List RowM) : CallK X → CallK X := fun c =>
  tovGK T gl TG fun f args H k => optK (ovM gl TM f args H) (c f args H k) fun r => k r.1 r.2
theorem tovA_ok (T : List Row) (gl : Gl) (TG : List Row) (TM : List RowM) (X : Type) : OvOk (X := X) (tovA T gl TG TM) (tovAK T gl TG TM) := by
  intro c f args H k
  unfold tovAK tovA
  rw [tovG_ok T gl TG X]
  cases tovG T gl TG f args H with
  | some r => rfl
  | none =>
    show optK (ovM gl TM f args H) (c f args H k) (fun r => k r.1 r.2) = _
    cases ovM gl TM f args H <;> rfl
theorem mfind_mem {f : Nat} {args : List AV} {H : AH} {r : RowM} : ∀ {T : List RowM}, mfind T f args H = some r → r ∈ T ∧ r.f = f ∧ r.args = args ∧ needB H r.need = true
  | [], h => by cases h
  | q :: t, h => by
    simp only [mfind] at h
    split at h
    · rename_i hb
      simp only [Bool.and_eq_true] at hb
      cases h
      exact ⟨List.mem_cons_self, Nat.eq_of_beq_eq_true hb.1.1, eqL4_eq hb.1.2, hb.2⟩
    · obtain ⟨h1, h2⟩ := mfind_mem h
      exact ⟨List.mem_cons_of_mem _ h1, h2⟩
/-- What is but read. -/
theorem BR.shut {ν : Nat → Int} {ρ : Emb} {w : World} {x : ABlk} {pl : Pl} (h : BR ν ρ w x pl) : BR ν ρ w x.shut pl :=
  ⟨fun e => let ⟨C, t, fz, h1, h2, _⟩ := h.cells e; ⟨C, t, fz, h1, h2, fun ho => by cases ho⟩, h.map, h.pin⟩
theorem needB_ok {ν : Nat → Int} {ρ : Emb} {H : AH} {w : World} (hh : HR ν ρ H w) : ∀ {need : Gl}, needB H need = true → NeedOk ν ρ w need
  | [], _, p, hp => by cases hp
  | q :: r, h, p, hp => by
    simp only [needB, Bool.and_eq_true] at h
    rcases List.mem_cons.1 hp with rfl | hp
    · have h1 := h.1
      split at h1
      · rename_i x hx
        obtain ⟨pl, k1, k2⟩ := hh.blk _ _ hx
        refine ⟨pl, k1, ?_⟩
        rw [← eqBlk_eq h1]
        exact k2.shut
      · cases h1
    · exact needB_ok hh h.2 p hp
theorem makeA_keeps : ∀ {res : List RP} {H H' : AH} {l : List AV}, makeA res H = some (l, H') → Keeps H H'
  | [], H, H', l, h => by
    simp only [makeA, Option.some.injEq, Prod.mk.injEq] at h
    obtain ⟨_, rfl⟩ := h
    exact Keeps.refl _
  | .v x :: r, H, H', l, h => by
    simp only [makeA] at h
    split at h
    · rename_i q hq
      simp only [Option.some.injEq, Prod.mk.injEq] at h
      obtain ⟨_, rfl⟩ := h
      exact makeA_keeps hq
    · cases h
  | .new tag :: r, H, H', l, h => by
    simp only [makeA] at h
    split at h
    · rename_i p hp
      split at h
      · rename_i q hq
        simp only [Option.some.injEq, Prod.mk.injEq] at h
        obtain ⟨_, rfl⟩ := h
        exact (AH.alloc_keeps hp).trans (makeA_keeps hq)
      · cases h
    · cases h
/-- Its parts, laid into the abstract heap. -/
theorem make_sim {ν : Nat → Int} {n : Nat} {w : World} : ∀ {res : List RP} {us : List Value} {H H' : AH} {l : List AV} {ρ : Emb}, makeA res H = some (l, H') → PartsR ν n w res us → HR ν ρ H w → (∀ b, H.next ≤ b → b < H'.next → ρ b = none) →
    (∀ b x pl, H.get b = some x → x.own = true → ρ b = some pl → pl.cb < n) →
    ∃ ρ', Emb.le ρ ρ' ∧ HR ν ρ' H' w ∧ lrL ν ρ' l us ∧ (∀ b, ρ b = none → ρ' b ≠ none → H.next ≤ b ∧ b < H'.next) ∧ (∀ b pl, ρ b = none → ρ' b = some pl → n ≤ pl.cb) ∧ (∀ cb, Owned ρ' H' cb → Owned ρ H cb)
  | [], us, H, H', l, ρ, h, hp, hh, hf, ho => by
    simp only [makeA, Option.some.injEq, Prod.mk.injEq] at h
    obtain ⟨rfl, rfl⟩ := h
    cases us with
    | nil => exact ⟨ρ, Emb.le_refl ρ, hh, trivial, fun b h1 h2 => (h2 h1).elim, fun b pl h1 h2 => (by rw [h1] at h2; cases h2), fun cb h => h⟩
    | cons _ _ => exact hp.elim
  | .v x :: r, us, H, H', l, ρ, h, hp, hh, hf, ho => by
    simp only [makeA] at h
    split at h
    · rename_i q hq
      simp only [Option.some.injEq, Prod.mk.injEq] at h
      obtain ⟨rfl, rfl⟩ := h
      cases us with
      | nil => exact hp.elim
      | cons u s =>
        obtain ⟨ρ', h1, h2, h3, h4, h5, h6⟩ := make_sim (us := s) (l := q.1) (by rw [hq]) hp.2 hh hf ho
        exact ⟨ρ', h1, h2, ⟨(conc2_vr hp.1).1, h3⟩, h4, h5, h6⟩
    · cases h
  | .new tag :: r, us, H, H', l, ρ, h, hp, hh, hf, ho => by
    simp only [makeA] at h
    split at h
    · rename_i p hal
      obtain ⟨b, H1⟩ := p
      split at h
      · rename_i q hq
        simp only [Option.some.injEq, Prod.mk.injEq] at h
        obtain ⟨rfl, rfl⟩ := h
        cases us with
        | nil => exact hp.elim
        | cons u s =>
          obtain ⟨⟨⟨htag, htw⟩, cb, o, len, c, rfl, hlc, hlen, hn, hpin⟩, hps⟩ := hp
          obtain ⟨a1, a2, a3, a4, a5, a6⟩ := AH.alloc_spec hal
          have k1 : Keeps H1 q.2 := makeA_keeps (l := q.1) (H' := q.2) (by rw [hq])
          have hb : ρ b = none := hf b (by omega) (by have := k1.next; omega)
          have hle := Emb.le_at (pl := (⟨cb, o, 0⟩ : Pl)) hb
          have hget := AH.alloc_get hal
          have hbr : BR ν (ρ.at b ⟨cb, o, 0⟩) w ⟨[], tag, false⟩ ⟨cb, o, 0⟩ := by
            refine ⟨fun _ => ?_, fun e => ?_, fun _ => by
              unfold PinB
              rw [if_pos htw]
              exact hpin⟩
            · obtain ⟨C, t, fz, h1, _⟩ := hpin
              exact ⟨C, t, fz, h1, fun j c hc => by simp at hc, fun e => by cases e⟩
            · have : tag = mapTag := e
              omega
          have hh1 : HR ν (ρ.at b ⟨cb, o, 0⟩) H1 w := by
            refine ⟨fun j x hx => ?_, fun j j' x x' q q' hne hx hx' ho1 hq1 hq1' => ?_⟩
            · rw [hget j] at hx
              by_cases e : j = b
              · rw [if_pos e] at hx
                cases hx
                subst e
                exact ⟨_, Emb.at_same hb, hbr⟩
              · rw [if_neg e] at hx
                obtain ⟨pl, g1, g2⟩ := hh.blk j x hx
                exact ⟨pl, hle _ _ g1, g2.keep hle rfl⟩
            · rw [hget j] at hx
              rw [hget j'] at hx'
              by_cases e : j = b
              · rw [if_pos e] at hx
                cases hx
                cases ho1
              · rw [if_neg e] at hx
                rw [Emb.at_ne e] at hq1
                by_cases e' : j' = b
                · rw [e', Emb.at_same hb] at hq1'
                  cases hq1'
                  have := ho j x q hx ho1 hq1
                  show q.cb ≠ cb
                  omega
                · rw [if_neg e'] at hx'
                  rw [Emb.at_ne e'] at hq1'
                  exact hh.apart j j' x x' q q' hne hx hx' ho1 hq1 hq1'
          have ho1 : ∀ j x pl, H1.get j = some x → x.own = true → (ρ.at b ⟨cb, o, 0⟩) j = some pl → pl.cb < n := by
            intro j x pl hx hox hpl
            rw [hget j] at hx
            by_cases e : j = b
            · rw [if_pos e] at hx
              cases hx
              cases hox
            · rw [if_neg e] at hx
              rw [Emb.at_ne e] at hpl
              exact ho j x pl hx hox hpl
          obtain ⟨ρ', h1, h2, h3, h4, h5, h6⟩ := make_sim (us := s) (l := q.1) (H' := q.2) (by rw [hq]) hps hh1 (fun j g1 g2 => by rw [Emb.at_ne (by omega)]; exact hf j (by omega) g2) ho1
          refine ⟨ρ', Emb.le_trans hle h1, h2, ⟨.sl b 0 _ .any ⟨cb, o, 0⟩ len c (h1 _ _ (Emb.at_same hb)) hlen trivial hlc, h3⟩, fun j g1 g2 => ?_, fun j pl g1 g2 => ?_, fun k hk => ?_⟩
          · by_cases e : j = b
            · subst e
              have := k1.next
              exact ⟨by omega, by show j < q.2.next; omega⟩
            · have := h4 j (by rw [Emb.at_ne e]; exact g1) g2
              omega
          · by_cases e : j = b
            · subst e
              have := h1 _ _ (Emb.at_same (pl := (⟨cb, o, 0⟩ : Pl)) hb)
              rw [this] at g2
              cases g2
              exact hn
            · exact h5 j pl (by rw [Emb.at_ne e]; exact g1) g2
          · obtain ⟨j, x, pl, g1, g2, g3, g4⟩ := h6 k hk
            rw [hget j] at g1
            by_cases e : j = b
            · rw [if_pos e] at g1
              cases g1
              cases g2
            · rw [if_neg e] at g1
              rw [Emb.at_ne e] at g3
              exact ⟨j, x, pl, g1, g2, g3, g4⟩
      · cases h
    · cases h
theorem pack_vr {ν : Nat → Int} {ρ : Emb} {l : List AV} {us : List Value} (h : lrL ν ρ l us) : VR ν ρ (packA l) (packV us) := by
  obtain ⟨h1, h2⟩ := lrL_at h
  match l, us, h with
  | [], [], _ => exact .tp _ _ rfl fun j x v hx => by simp at hx
  | [a], [u], h => exact h.1
  | a :: b :: r, u :: v :: s, h =>
    have := lr_of h
    exact .tp _ _ this.1 this.2
theorem tovA_sim {ν : Nat → Int} {P : Program} {T TG : List Row} {TM : List RowM} {gl : Gl} (hG : GlOk gl) (hT : ∀ r ∈ T, r.Ok ν P) (hTG : ∀ r ∈ TG, r.OkG ν P gl) (hTM : ∀ r ∈ TM, r.Ok ν P gl) : CallSim ν P (tovA T gl TG TM) := by
  have hA := tovG_sim hG hT hTG
  have one : ∀ f args (H : AH) r H', tovA T gl TG TM f args H = some (r, H') → tovG T gl TG f args H = some (r, H') ∨ ∃ q l, q ∈ TM ∧ q.f = f ∧ q.args = args ∧ needB H q.need = true ∧ hasG H gl = true ∧ makeA q.res H = some (l, H') ∧ packA l = r := by
    intro f args H r H' h
    unfold tovA at h
    split at h
    · rename_i p hp
      exact .inl (by rw [hp]; exact h)
    · unfold ovM at h
      split at h
      · rename_i q hq
        obtain ⟨k1, k2, k3, k4⟩ := mfind_mem hq
        split at h
        · rename_i hg
          split at h
          · rename_i p hp
            simp only [Option.some.injEq, Prod.mk.injEq] at h
            obtain ⟨h1, rfl⟩ := h
            exact .inr ⟨q, p.1, k1, k2, k3, k4, hg, hp, h1⟩
          · cases h
        · cases h
      · cases h
  refine ⟨fun f args H r H' h => ?_, fun f args H r H' h => ?_⟩
  · rcases one _ _ _ _ _ h with h | ⟨q, l, _, _, _, _, _, hm, _⟩
    · exact hA.keeps _ _ _ _ _ h
    · exact makeA_keeps hm
  · rcases one _ _ _ _ _ h with h | ⟨q, l, k1, rfl, rfl, k4, hg, hm, rfl⟩
    · exact hA.does _ _ _ _ _ h
    · obtain ⟨hf, hc⟩ := hTM q k1
      refine .inl ⟨hf, fun ρ w vs hl hh hfr => ?_⟩
      refine (hc ρ w vs (hasG_laid hG hh hg) (needB_ok hh k4) hl).mono fun e w' ⟨us, he, hp, hb⟩ => ?_
      obtain ⟨ρ', h1, h2, h3, h4, h5, h6⟩ := make_sim (n := w.heap.size) hm hp (hh.below hb) (fun b g1 g2 => hfr b g1 g2) fun b x pl g1 _ g3 => (hh.find g1 g3).lt
      exact ⟨packV us, he, ρ', pack_vr h3, h2, ⟨h1, h4, hb.size, hb.os, hb.tape, hb.output, fun cb hcb _ => hb.block cb hcb, fun cb _ ho => h6 cb ho, fun b pl g1 g2 => .inl (h5 b pl g1 g2)⟩⟩
end Go.Sh

namespace Go.Sh
open Go.RowKit Go.WideShapes Go.ChangeShapes
section
variable {P : Program} {N : Nat} {w0 : World} {ν : Nat → Int} {F : Facts} {gl : Gl}
/-- A run of the machine. -/
noncomputable def goesA (F : Facts) (tab : Tr IFn) (T : List Row) (gl : Gl) (TG : List Row) (TM : List RowM) (fuel d : Nat) (ic : IC) (i : Now) (ex : Ex) (o : Now) : Bool :=
  optK (codeK F (callOK F tab (tovAK T gl TG TM) fuel d) fuel ic (trL i.e) (heapL (i.H ++ gl) i.n) fun ex' e' H' => some (isNow ex o ex' e' H' && hasG H' gl)) false fun t => t

theorem Tri.runA {tab : Tr IFn} {T TG : List Row} {TM : List RowM} {fuel d : Nat} {ic : IC} {i o : Now} {ex : Ex} (hF : F.Hold ν) (hm : P.follows .mixedOrders = true) (ht : TabOk P (fun f => tab.get f)) (hG : GlOk gl) (hT : ∀ r ∈ T, r.Ok ν P) (hTG : ∀ r ∈ TG, r.OkG ν P gl) (hTM : ∀ r ∈ TM, r.Ok ν P gl)
    (h : goesA F tab T gl TG TM fuel d ic i ex o = true) : Tri P N ic (HoldsG N w0 ν gl i) fun ex' a w => ex' = ex ∧ HoldsG N w0 ν gl o a w := by
  intro c hc a w hp
  unfold goesA at h
  rw [codeK_eq F (callOK F tab (tovAK T gl TG TM) fuel d) (callO F (fun f => tab.get f) (tovA T gl TG TM) fuel d) (callOK_eq tab (tovA_ok T gl TG TM _) fuel d)] at h
  cases hr : codeA F (callO F (fun f => tab.get f) (tovA T gl TG TM) fuel d) fuel ic (trL i.e) (heapL (i.H ++ gl) i.n) with
  | none => rw [hr] at h; cases h
  | some q =>
    obtain ⟨ex', e', H'⟩ := q
    rw [hr] at h
    have hn : (isNow ex o ex' e' H' && hasG H' gl) = true := h
    simp only [isNow, Bool.and_eq_true] at hn
    obtain ⟨⟨⟨⟨n1, n2⟩, n3⟩, n4⟩, n5⟩ := hn
    have hex := eqEx_eq n1
    subst hex
    have hnx := Nat.eq_of_beq_eq_true n4
    obtain ⟨ρ, he, hh, hfr, hown⟩ := hp.has
    have hsim := callO_sim hF hm ht (tovA_sim hG hT hTG hTM) fuel d
    have hk := code_keeps hsim.keeps _ _ _ _ _ _ _ hr
    have hER : ER ν ρ (trL i.e) a.tmps := fun j x hx => he _ (trL_get i.e j x hx)
    have hw := (code_sim (N := N) hF hsim hm fuel).1 c ic _ _ _ _ _ ρ a w hc hr hER hh (fun b hb _ => hfr b hb) hp.tmps
    have sub : ∀ b x, (heapL (o.H ++ gl) o.n).get b = some x → H'.get b = some x := fun b x hx => by
      rcases heapG_get (fun p hp' => (inHeap_mem n3 p hp').1) (fun p hp' => (hG p hp').1) hx with ⟨_, h1, _⟩ | ⟨_, y, h1, rfl⟩
      · exact (inHeap_mem n3 _ h1).2
      · exact hasG_mem n5 _ h1
    refine wp_mono hw ?_
    rintro E a' w' ⟨hE, ρ', g1, g2, g3, g4, g5⟩
    refine ⟨_, hE, rfl, ⟨fun p hp' => (inHeap_mem n3 p hp').1, ?_, ⟨ρ', fun p hp' => g1 p.1 p.2 (inEnv_mem n2 p hp'), ?_, ?_, ?_⟩, ?_, g4, by rw [g5]; exact hp.defers⟩⟩
    · have := hk.next
      have := hp.big
      have : (heapL (i.H ++ gl) i.n).next = i.n := rfl
      omega
    · exact ⟨fun b x hx => g2.blk b x (sub b x hx), fun b b' x x' pl pl' h1 h2 h3 h4 h5 h6 => g2.apart b b' x x' pl pl' h1 (sub b x h2) (sub b' x' h3) h4 h5 h6⟩
    · intro b hb
      cases hq : ρ' b with
      | none => rfl
      | some q =>
        have h0 : (heapL (i.H ++ gl) i.n).next = i.n := rfl
        have := hk.next
        have := g3.fresh b (hfr b (by omega)) (by rw [hq]; simp)
        omega
    · rintro cb ⟨b, x, pl, h1, h2, h3, h4⟩
      rcases Nat.lt_or_ge cb w.heap.size with h5 | h5
      · exact hown cb (g3.owned cb h5 ⟨b, x, pl, sub b x h1, h2, h3, h4⟩)
      · have := hp.below.size
        omega
    · have hb := hp.below
      refine ⟨g3.os.trans hb.os, g3.tape.trans hb.tape, g3.output.trans hb.output, Nat.le_trans hb.size g3.size, fun k hk' => ?_⟩
      rw [g3.frame k (Nat.lt_of_lt_of_le hk' hb.size) (fun ho => by have := hown k ho; omega), hb.block k hk']
theorem Holds.toG {o : Now} {a : Act} {w : World} (h : Holds N w0 ν o a w) : HoldsG N w0 ν [] o a w := by
  obtain ⟨h1, h2, h3, h4, h5, h6⟩ := h
  exact ⟨h1, h2, by rw [List.append_nil]; exact h3, h4, h5, h6⟩
theorem HoldsG.ofG {o : Now} {a : Act} {w : World} (h : HoldsG N w0 ν [] o a w) : Holds N w0 ν o a w := by
  obtain ⟨h1, h2, h3, h4, h5, h6⟩ := h
  exact ⟨h1, h2, by rw [List.append_nil] at h3; exact h3, h4, h5, h6⟩
end
/-! A function's body, with blocks that came in, as a call of the table. -/
noncomputable def saysB (F : Facts) (tab : Tr IFn) (T : List Row) (gl : Gl) (TG : List Row) (TM : List RowM) (need : Gl) (n : Nat) (fuel d f : Nat) (args : List AV) (r : AV) : Bool :=
  optK (optK (getF tab f) none fun fn => runK F (callOK F tab (tovAK T gl TG TM) fuel d) fuel fn args (heap0 (need ++ gl) n) fun v _ => some (eq3 v r)) false fun t => t
theorem saysB_run {F : Facts} {tab : Tr IFn} {T TG : List Row} {TM : List RowM} {gl need : Gl} {n fuel d f : Nat} {args : List AV} {r : AV} (h : saysB F tab T gl TG TM need n fuel d f args r = true) :
    ∃ fn H', tab.get f = some fn ∧ runFn F (callO F (fun f => tab.get f) (tovA T gl TG TM) fuel d) fuel fn args (heap0 (need ++ gl) n) = some (r, H') := by
  unfold saysB at h
  rw [getF_eq] at h
  cases hf : tab.get f with
  | none => rw [hf] at h; cases h
  | some fn =>
    rw [hf] at h
    replace h : optK (runK F (callOK F tab (tovAK T gl TG TM) fuel d) fuel fn args (heap0 (need ++ gl) n) fun v _ => some (eq3 v r)) false (fun t => t) = true := h
    rw [runK_eq F (callOK F tab (tovAK T gl TG TM) fuel d) (callO F (fun f => tab.get f) (tovA T gl TG TM) fuel d) (callOK_eq tab (tovA_ok T gl TG TM _) fuel d)] at h
    cases hr : runFn F (callO F (fun f => tab.get f) (tovA T gl TG TM) fuel d) fuel fn args (heap0 (need ++ gl) n) with
    | none => rw [hr] at h; cases h
    | some p =>
      obtain ⟨v, H'⟩ := p
      rw [hr] at h
      have h1 : eq3 v r = true := h
      exact ⟨fn, H', rfl, by rw [← eq3_eq h1]; exact hr⟩
/-- It names these blocks alone. -/
def inB (need : Gl) : AV → Bool
  | .i _ _ | .b _ | .nsl | .sle _ => true
  | .sl b _ _ _ => need.any fun p => Nat.beq p.1 b
  | .p b _ => need.any fun p => Nat.beq p.1 b
  | .ag l => l.all fun x => match x with | .i _ _ | .b _ => true | _ => false
  | _ => false
/-- A place of theirs alone. -/
def Emb.only (ρ : Emb) (need : Gl) : Emb where
  f := fun b => if b < gmax ∨ (need.any fun p => Nat.beq p.1 b) = true then ρ b else none
  glob := fun g hg => by
    obtain ⟨tot, h⟩ := ρ.glob g hg
    exact ⟨tot, by rw [if_pos (.inl hg)]; exact h⟩
theorem only_in {ρ : Emb} {need : Gl} {b : Nat} (h : (need.any fun p => Nat.beq p.1 b) = true) : (ρ.only need) b = ρ b := by
  show (if b < gmax ∨ (need.any fun p => Nat.beq p.1 b) = true then ρ b else none) = _
  rw [if_pos (.inr h)]
theorem only_glob {ρ : Emb} {need : Gl} {b : Nat} (h : b < gmax) : (ρ.only need) b = ρ b := by
  show (if b < gmax ∨ (need.any fun p => Nat.beq p.1 b) = true then ρ b else none) = _
  rw [if_pos (.inl h)]
theorem any_mem {need : Gl} {p : Nat × ABlk} (h : p ∈ need) : (need.any fun q => Nat.beq q.1 p.1) = true := List.any_eq_true.2 ⟨p, h, Nat.beq_refl _⟩
theorem inB_vr {ν : Nat → Int} {ρ : Emb} {need : Gl} {x : AV} {v : Value} (hx : inB need x = true) (h : VR ν ρ x v) : VR ν (ρ.only need) x v := by
  cases h with
  | i k n => exact .i k n
  | b x => exact .b x
  | nsl => exact .nsl
  | sle z a c h => exact .sle z a c h
  | sl blk off len cap pl n c h1 h2 h3 h4 => exact .sl blk off len cap pl n c (by rw [only_in hx]; exact h1) h2 h3 h4
  | p blk off pl h1 => exact .p blk off pl (by rw [only_in hx]; exact h1)
  | ag cs vs hs h =>
    refine .ag cs vs hs fun j c u hc hu => ?_
    have h1 := h j c u hc hu
    have h2 := List.all_eq_true.1 (show (cs.all fun x => match x with | .i _ _ | .b _ => true | _ => false) = true from hx) c (List.mem_of_getElem? hc)
    cases h1 with
    | i k n => exact .i k n
    | b x => exact .b x
    | _ => cases h2
  | _ => cases hx
theorem br_only {ν : Nat → Int} {ρ ρ' : Emb} {w : World} {x : ABlk} {pl : Pl} {us : List Value} (hm : x.elem ≠ mapTag) (hc : concL ν x.cells = some us) (h : BR ν ρ w x.shut pl) : BR ν ρ' w x.shut pl := by
  refine ⟨fun e => ?_, fun e => (hm e).elim, h.pin⟩
  obtain ⟨C, t, fz, h1, h2, _⟩ := h.cells e
  refine ⟨C, t, fz, h1, fun j c hj => ?_, fun ho => by cases ho⟩
  obtain ⟨v, v1, v2⟩ := h2 j c hj
  obtain ⟨k1, k2⟩ := concL_spec hc
  have hj' : x.cells[j]? = some c := hj
  have hj2 : j < us.length := by rw [← k1]; exact (List.getElem?_eq_some_iff.1 hj').1
  have hcc := k2 j c us[j] hj' (by simp [hj2])
  rw [(conc1_vr hcc).2 v v2] at v1
  exact ⟨_, v1, (conc1_vr hcc).1⟩
/-- WHAT A FUNCTION's BODY ANSWERS, as a row. -/
theorem rowM_of {ν : Nat → Int} {F : Facts} {P : Program} {tab : Tr IFn} {T TG : List Row} {TM : List RowM} {gl need : Gl} {n fuel d f : Nat} {args : List AV} {r : AV} {res : List AV} {us : List Value} (hF : F.Hold ν) (hm : P.follows .mixedOrders = true) (ht : TabOk P (fun f => tab.get f)) (hG : GlOk gl)
    (hT : ∀ r ∈ T, r.Ok ν P) (hTG : ∀ r ∈ TG, r.OkG ν P gl) (hTM : ∀ r ∈ TM, r.Ok ν P gl) (h : saysB F tab T gl TG TM need n fuel d f args r = true) (hn : gmax ≤ n) (hneed : ∀ p ∈ need, p.1 < n ∧ p.2.elem ≠ mapTag ∧ ∃ us, concL ν p.2.cells = some us)
    (hargs : args.all (inB need) = true) (hu : concT ν res = some us) (hr : conc ν r = some (packV us)) : RowM.Ok ν P gl ⟨f, args, need, res.map .v⟩ := by
  obtain ⟨fn, H', h1, h2⟩ := saysB_run h
  obtain ⟨fn', g1, g2⟩ := ht f fn h1
  obtain ⟨_, gf, gr⟩ := fn_runs hF (callO_sim hF hm ht (tovA_sim hG hT hTG hTM) fuel d) hm g1 g2 h2
  refine ⟨gf, fun ρ w vs hw hx ha => ?_⟩
  have hl : ∀ p ∈ need ++ gl, ∃ pl, (ρ.only need) p.1 = some pl ∧ BR ν (ρ.only need) w p.2.shut pl := fun p hp => (List.mem_append.1 hp).elim
    (fun hp => by
      obtain ⟨pl, k1, k2⟩ := hx p hp
      obtain ⟨_, k3, us, k4⟩ := hneed p hp
      exact ⟨pl, by rw [only_in (any_mem hp)]; exact k1, br_only k3 k4 k2⟩)
    fun hp => by
      obtain ⟨tot, k1⟩ := ρ.glob p.1 (hG p hp).1
      obtain ⟨k2, us, k3⟩ := (hG p hp).2
      refine ⟨⟨p.1, 0, tot⟩, by rw [only_glob (hG p hp).1]; exact k1, br_known k2 k3 (hw p hp ν (ρ.only need))⟩
  have ha' : LR ν (ρ.only need) args vs := ⟨ha.1, fun j x v hx hv => inB_vr (List.all_eq_true.1 hargs x (List.mem_of_getElem? hx)) (ha.2 j x v hx hv)⟩
  have hno : ∀ b, n ≤ b → (ρ.only need) b = none := by
    intro b hb
    show (if b < gmax ∨ (need.any fun p => Nat.beq p.1 b) = true then ρ b else none) = _
    rw [if_neg]
    rintro (h3 | h3)
    · omega
    · obtain ⟨p, hp, hpb⟩ := List.any_eq_true.1 h3
      have := (hneed p hp).1
      have := Nat.eq_of_beq_eq_true hpb
      omega
  refine (gr (ρ.only need) w vs ha' (heap0_rel hl) (fun b hb _ => hno b hb)).mono ?_
  rintro e w' ⟨v, rfl, ρ', hv, _, hs⟩
  refine ⟨us, by rw [(conc_vr hr).2 v hv], ?_, ⟨hs.os, hs.tape, hs.output, hs.size, fun k hk => hs.frame k hk ?_⟩⟩
  · have : ∀ (l : List AV) (us : List Value), concT ν l = some us → PartsR ν w.heap.size w' (l.map .v) us := by
      intro l
      induction l with
      | nil =>
        intro us hu
        cases hu
        trivial
      | cons a r ih =>
        intro us hu
        unfold concT at hu
        split at hu
        · rename_i v l h3 h4
          cases hu
          exact ⟨h3, ih l h4⟩
        · cases hu
    exact this res us hu
  · rintro ⟨b, x, pl, h1, h2, _⟩
    obtain ⟨y, _, rfl⟩ := heap0_get h1
    cases h2
end Go.Sh

namespace Go.Sh
open Go.RowKit Go.WideShapes Go.ChangeShapes
/-- What was there is as it was, but one block. -/
structure BelowX (cb : Nat) (w w' : World) : Prop where
  os : w'.os = w.os
  tape : w'.tape = w.tape
  output : w'.output = w.output
  size : w.heap.size ≤ w'.heap.size
  block : ∀ k, k < w.heap.size → k ≠ cb → w'.heap[k]? = w.heap[k]?
structure RowU where
  f : Nat
  args : List AV
  need : Gl
  blk : Nat
  old : List AV
  new : List AV
  res : List RP
def RowU.Ok (ν : Nat → Int) (P : Program) (gl : Gl) (r : RowU) : Prop :=
  (∃ fn, P.funcs[r.f]? = some fn ∧ fn.body.isSome = true ∧ (fn.name == "runtime.NumGoroutine") = false) ∧
  ∀ ρ w vs pl, Laid gl w → (∀ p ∈ gl, pl.cb ≠ p.1) → NeedOk ν ρ w r.need → (∀ p ∈ r.need, ∀ q, ρ p.1 = some q → pl.cb ≠ q.cb) → ρ r.blk = some pl → BR ν ρ w ⟨r.old, 0, true⟩ pl → LR ν ρ r.args vs →
    Calls P r.f vs w fun e w' => ∃ us, e = .returned (packV us) ∧ PartsR ν w.heap.size w' r.res us ∧ BelowX pl.cb w w' ∧ BR ν ρ w' ⟨r.new, 0, true⟩ pl
noncomputable def updB (H : AH) (b : Nat) (old : List AV) : Bool := match H.get b with | some x => x.own && Nat.blt x.elem mapTag && eqL4 x.cells old | none => false
noncomputable def ufind : List RowU → Nat → List AV → AH → Option RowU
  | [], _, _, _ => none
  | r :: t, f, args, H => if Nat.beq r.f f && eqL4 r.args args && needB H r.need && updB H r.blk r.old && !(r.need.any fun p => Nat.beq p.1 r.blk) && Nat.ble gmax r.blk then some r else ufind t f args H
noncomputable def ovU (gl : Gl) (TU : List RowU) : CallFn := fun f args H =>
  match ufind TU f args H with
  | some r => if hasG H gl then (match H.get r.blk with | some x => (match H.lay r.blk (some { x with cells := r.new }) with | some H1 => (match makeA r.res H1 with | some q => some (packA q.1, q.2) | none => none) | none => none) | none => none) else none
  | none => none
noncomputable def tovX (T : List Row) (gl : Gl) (TG : List Row) (TM : List RowM) (TU : List RowU) : CallFn := fun f args H =>
  match tovA T gl TG TM f args H with
  | some r => some r
  | none => ovU gl TU f args H
noncomputable def tovXK {X : Type} (T : List Row) (gl : Gl) (TG : List Row) (TM : List RowM) (TU : List RowU) : CallK X → CallK X := fun c =>
  tovAK T gl TG TM fun f args H k => optK (ovU gl TU f args H) (c f args H k) fun r => k r.1 r.2
theorem tovX_ok (T : List Row) (gl : Gl) (TG : List Row) (TM : List RowM) (TU : List RowU) (X : Type) : OvOk (X := X) (tovX T gl TG TM TU) (tovXK T gl TG TM TU) := by
  intro c f args H k
  unfold tovXK tovX
  rw [tovA_ok T gl TG TM X]
  cases tovA T gl TG TM f args H with
  | some r => rfl
  | none =>
    show optK (ovU gl TU f args H) (c f args H k) (fun r => k r.1 r.2) = _
    cases ovU gl TU f args H <;> rfl
theorem ufind_mem {f : Nat} {args : List AV} {H : AH} {r : RowU} : ∀ {T : List RowU}, ufind T f args H = some r → r ∈ T ∧ r.f = f ∧ r.args = args ∧ needB H r.need = true ∧ (∃ x, H.get r.blk = some x ∧ x.own = true ∧ x.elem < mapTag ∧ x.cells = r.old) ∧ (∀ p ∈ r.need, p.1 ≠ r.blk) ∧ gmax ≤ r.blk
  | [], h => by cases h
  | q :: t, h => by
    simp only [ufind] at h
    split at h
    · rename_i hb
      simp only [Bool.and_eq_true, Nat.ble_eq] at hb
      cases h
      obtain ⟨⟨⟨⟨⟨h1, h2⟩, h3⟩, h4⟩, h5⟩, h6⟩ := hb
      refine ⟨List.mem_cons_self, Nat.eq_of_beq_eq_true h1, eqL4_eq h2, h3, ?_, fun p hp e => ?_, h6⟩
      · unfold updB at h4
        split at h4
        · rename_i x hx
          simp only [Bool.and_eq_true, Nat.blt_eq] at h4
          exact ⟨x, hx, h4.1.1, h4.1.2, eqL4_eq h4.2⟩
        · cases h4
      · have : (r.need.any fun p => Nat.beq p.1 r.blk) = true := List.any_eq_true.2 ⟨p, hp, by rw [e]; exact Nat.beq_refl _⟩
        rw [this] at h5
        cases h5
    · obtain ⟨h1, h2⟩ := ufind_mem h
      exact ⟨List.mem_cons_of_mem _ h1, h2⟩
theorem br_elem {ν : Nat → Int} {ρ : Emb} {w : World} {cs : List AV} {e e' : Nat} {o : Bool} {pl : Pl} (he : e < mapTag) (he' : e' < mapTag) (h : BR ν ρ w ⟨cs, e, o⟩ pl) : BR ν ρ w ⟨cs, e', o⟩ pl :=
  ⟨fun _ => h.cells (Nat.ne_of_lt he), fun h' => absurd h' (Nat.ne_of_lt he'), fun h' => absurd h' (Nat.not_lt_of_lt he')⟩
theorem tovX_sim {ν : Nat → Int} {P : Program} {T TG : List Row} {TM : List RowM} {TU : List RowU} {gl : Gl} (hG : GlOk gl) (hT : ∀ r ∈ T, r.Ok ν P) (hTG : ∀ r ∈ TG, r.OkG ν P gl) (hTM : ∀ r ∈ TM, r.Ok ν P gl) (hTU : ∀ r ∈ TU, r.Ok ν P gl) : CallSim ν P (tovX T gl TG TM TU) := by
  have hA := tovA_sim hG hT hTG hTM
  have one : ∀ f args (H : AH) r H', tovX T gl TG TM TU f args H = some (r, H') → tovA T gl TG TM f args H = some (r, H') ∨ ∃ q x H1 l, q ∈ TU ∧ q.f = f ∧ q.args = args ∧ needB H q.need = true ∧ H.get q.blk = some x ∧ x.own = true ∧ x.elem < mapTag ∧ x.cells = q.old ∧ (∀ p ∈ q.need, p.1 ≠ q.blk) ∧ gmax ≤ q.blk ∧ hasG H gl = true ∧ H.lay q.blk (some { x with cells := q.new }) = some H1 ∧ makeA q.res H1 = some (l, H') ∧ packA l = r := by
    intro f args H r H' h
    unfold tovX at h
    split at h
    · rename_i p hp
      exact .inl (by rw [hp]; exact h)
    · unfold ovU at h
      split at h
      · rename_i q hq
        obtain ⟨k1, k2, k3, k4, ⟨x, k5, k6, k7, k8⟩, k9, k10⟩ := ufind_mem hq
        split at h
        · rename_i hg
          split at h
          · rename_i x' hx'
            rw [k5] at hx'
            cases hx'
            split at h
            · rename_i H1 hlay
              split at h
              · rename_i p hp
                simp only [Option.some.injEq, Prod.mk.injEq] at h
                obtain ⟨h1, rfl⟩ := h
                exact .inr ⟨q, x, H1, p.1, k1, k2, k3, k4, k5, k6, k7, k8, k9, k10, hg, hlay, hp, h1⟩
              · cases h
            · cases h
          · cases h
        · cases h
      · cases h
  refine ⟨fun f args H r H' h => ?_, fun f args H r H' h => ?_⟩
  · rcases one _ _ _ _ _ h with h | ⟨q, x, H1, l, _, _, _, _, _, _, _, _, _, _, _, hlay, hm, _⟩
    · exact hA.keeps _ _ _ _ _ h
    · exact (AH.lay_keeps hlay).trans (makeA_keeps hm)
  · rcases one _ _ _ _ _ h with h | ⟨q, x, H1, l, k1, rfl, rfl, k4, k5, k6, k7, k8, k9, k10, hg, hlay, hm, rfl⟩
    · exact hA.does _ _ _ _ _ h
    · obtain ⟨hf, hc⟩ := hTU q k1
      refine .inl ⟨hf, fun ρ w vs hl hh hfr => ?_⟩
      obtain ⟨pl, p1, p2⟩ := hh.blk _ _ k5
      have p2' : BR ν ρ w ⟨q.old, 0, true⟩ pl := by
        have : x = ⟨q.old, x.elem, true⟩ := by cases x; simp only at k6 k8; subst k6 k8; rfl
        rw [this] at p2
        exact br_elem k7 (by decide) p2
      have apg : ∀ p ∈ gl, pl.cb ≠ p.1 := by
        intro p hp
        obtain ⟨tot, g1⟩ := ρ.glob p.1 (hG p hp).1
        exact hh.apart q.blk p.1 x _ pl _ (by have := (hG p hp).1; omega) k5 (hasG_mem hg p hp) k6 p1 g1
      have apn : ∀ p ∈ q.need, ∀ r, ρ p.1 = some r → pl.cb ≠ r.cb := by
        intro p hp r hr
        have key : ∀ (need : Gl), needB H need = true → ∀ p ∈ need, ∃ y, H.get p.1 = some y := by
          intro need
          induction need with
          | nil => intro _ p hp; cases hp
          | cons s t ih =>
            intro h p hp
            simp only [needB, Bool.and_eq_true] at h
            rcases List.mem_cons.1 hp with rfl | hp
            · have h1 := h.1
              split at h1
              · rename_i y hy
                exact ⟨y, hy⟩
              · cases h1
            · exact ih h.2 p hp
        obtain ⟨y, hy⟩ := key _ k4 p hp
        exact hh.apart q.blk p.1 x y pl r (Ne.symm (k9 p hp)) k5 hy k6 p1 hr
      refine (hc ρ w vs pl (hasG_laid hG hh hg) apg (needB_ok hh k4) apn p1 p2' hl).mono fun e w' ⟨us, he, hp, hb, hbr⟩ => ?_
      obtain ⟨y, y1, y2, y3, y4, y5, y6⟩ := AH.lay_spec hlay
      have hget := AH.lay_get hlay
      have hbr' : BR ν ρ w' { x with cells := q.new } pl := by
        have : ({ x with cells := q.new } : ABlk) = ⟨q.new, x.elem, true⟩ := by cases x; simp only at k6; subst k6; rfl
        rw [this]
        exact br_elem (by decide) k7 hbr
      have hh1 : HR ν ρ H1 w' := by
        refine ⟨fun b z hz => ?_, fun b b' z z' pz pz' hne hz hz' ho h1 h2 => ?_⟩
        · rw [hget b] at hz
          by_cases e9 : b = q.blk
          · rw [if_pos e9] at hz
            cases hz
            subst e9
            exact ⟨pl, p1, hbr'⟩
          · rw [if_neg e9] at hz
            obtain ⟨pz, g1, g2⟩ := hh.blk b z hz
            exact ⟨pz, g1, g2.keep (Emb.le_refl ρ) (hb.block _ g2.lt (Ne.symm (hh.apart q.blk b x z pl pz (Ne.symm e9) k5 hz k6 p1 g1)))⟩
        · rw [hget b] at hz
          rw [hget b'] at hz'
          have fnd : ∀ c u, (if c = q.blk then some { x with cells := q.new } else H.get c) = some u → ∃ v, H.get c = some v ∧ v.own = u.own := by
            intro c u hu
            by_cases e9 : c = q.blk
            · rw [if_pos e9] at hu
              cases hu
              exact ⟨x, by rw [e9]; exact k5, rfl⟩
            · rw [if_neg e9] at hu
              exact ⟨u, hu, rfl⟩
          obtain ⟨v, v1, v2⟩ := fnd b z hz
          obtain ⟨v', v1', _⟩ := fnd b' z' hz'
          exact hh.apart b b' v v' pz pz' hne v1 v1' (v2.trans ho) h1 h2
      have own1 : ∀ cb, Owned ρ H1 cb → Owned ρ H cb := by
        rintro cb ⟨b, z, pz, g1, g2, g3, g4⟩
        rw [hget b] at g1
        by_cases e9 : b = q.blk
        · rw [if_pos e9] at g1
          cases g1
          subst e9
          exact ⟨q.blk, x, pz, k5, k6, g3, g4⟩
        · rw [if_neg e9] at g1
          exact ⟨b, z, pz, g1, g2, g3, g4⟩
      have hk1 := AH.lay_keeps hlay
      obtain ⟨ρ', h1, h2, h3, h4, h5, h6⟩ := make_sim (n := w.heap.size) hm hp hh1 (fun b g1 g2 => hfr b (by have := hk1.next; omega) g2) fun b z pz g1 g2 g3 => by
        obtain ⟨c, u, pu, a1, a2, a3, a4⟩ := own1 pz.cb ⟨b, z, pz, g1, g2, g3, rfl⟩
        rw [← a4]
        exact (hh.find a1 a3).lt
      refine ⟨packV us, he, ρ', pack_vr h3, h2, ⟨h1, fun b g1 g2 => by have := h4 b g1 g2; omega, hb.size, hb.os, hb.tape, hb.output, fun cb hcb ho => hb.block cb hcb fun e9 => ho ⟨q.blk, x, pl, k5, k6, p1, e9.symm⟩, fun cb _ ho => own1 cb (h6 cb ho), fun b pz g1 g2 => .inl (h5 b pz g1 g2)⟩⟩
/-! Pieces of code in a call to which blocks are lent. -/
/-- What was there is as it was, but what is lent. -/
structure BelowL (L : List (Nat × Pl)) (w w' : World) : Prop where
  os : w'.os = w.os
  tape : w'.tape = w.tape
  output : w'.output = w.output
  size : w.heap.size ≤ w'.heap.size
  block : ∀ k, k < w.heap.size → (∀ p ∈ L, p.2.cb ≠ k) → w'.heap[k]? = w.heap[k]?
structure HoldsX (N : Nat) (w0 : World) (ν : Nat → Int) (gl : Gl) (L fx : List (Nat × Pl)) (kp : List (Nat × Obj)) (o : Now) (a : Act) (w : World) : Prop where
  low : ∀ p ∈ o.H, gmax ≤ p.1
  big : gmax ≤ o.n
  has : ∃ ρ : Emb, (∀ p ∈ fx, ρ p.1 = some p.2) ∧ (∀ p ∈ o.e, VR ν ρ p.2 (a.tmps.getD p.1 undef)) ∧ HR ν ρ (heapL (o.H ++ gl) o.n) w ∧ (∀ b, o.n ≤ b → ρ b = none) ∧ (∀ cb, Owned ρ (heapL (o.H ++ gl) o.n) cb → w0.heap.size ≤ cb ∨ ∃ p ∈ L, p.2.cb = cb) ∧
    (∀ p ∈ kp, ¬ Owned ρ (heapL (o.H ++ gl) o.n) p.1) ∧ (∀ p ∈ gl, ¬ Owned ρ (heapL (o.H ++ gl) o.n) p.1)
  kept : ∀ p ∈ kp, w.heap[p.1]? = some p.2
  laid : Laid gl w
  below : BelowL L w0 w
  tmps : a.tmps.size = N
  defers : a.defers = []
section
variable {P : Program} {N : Nat} {w0 : World} {ν : Nat → Int} {F : Facts} {gl : Gl} {L fx : List (Nat × Pl)} {kp : List (Nat × Obj)}
/-- A run of the machine. -/
noncomputable def goesX (F : Facts) (tab : Tr IFn) (T : List Row) (gl : Gl) (TG : List Row) (TM : List RowM) (TU : List RowU) (fuel d : Nat) (ic : IC) (i : Now) (ex : Ex) (o : Now) : Bool :=
  optK (codeK F (callOK F tab (tovXK T gl TG TM TU) fuel d) fuel ic (trL i.e) (heapL (i.H ++ gl) i.n) fun ex' e' H' => some (isNow ex o ex' e' H' && hasG H' gl)) false fun t => t
theorem Tri.runX {tab : Tr IFn} {T TG : List Row} {TM : List RowM} {TU : List RowU} {fuel d : Nat} {ic : IC} {i o : Now} {ex : Ex} (hF : F.Hold ν) (hm : P.follows .mixedOrders = true) (ht : TabOk P (fun f => tab.get f)) (hG : GlOk gl) (hT : ∀ r ∈ T, r.Ok ν P) (hTG : ∀ r ∈ TG, r.OkG ν P gl) (hTM : ∀ r ∈ TM, r.Ok ν P gl) (hTU : ∀ r ∈ TU, r.Ok ν P gl)
    (h : goesX F tab T gl TG TM TU fuel d ic i ex o = true) : Tri P N ic (HoldsX N w0 ν gl L fx kp i) fun ex' a w => ex' = ex ∧ HoldsX N w0 ν gl L fx kp o a w := by
  intro c hc a w hp
  unfold goesX at h
  rw [codeK_eq F (callOK F tab (tovXK T gl TG TM TU) fuel d) (callO F (fun f => tab.get f) (tovX T gl TG TM TU) fuel d) (callOK_eq tab (tovX_ok T gl TG TM TU _) fuel d)] at h
  cases hr : codeA F (callO F (fun f => tab.get f) (tovX T gl TG TM TU) fuel d) fuel ic (trL i.e) (heapL (i.H ++ gl) i.n) with
  | none => rw [hr] at h; cases h
  | some q =>
    obtain ⟨ex', e', H'⟩ := q
    rw [hr] at h
    have hn : (isNow ex o ex' e' H' && hasG H' gl) = true := h
    simp only [isNow, Bool.and_eq_true] at hn
    obtain ⟨⟨⟨⟨n1, n2⟩, n3⟩, n4⟩, n5⟩ := hn
    have hex := eqEx_eq n1
    subst hex
    have hnx := Nat.eq_of_beq_eq_true n4
    obtain ⟨ρ, hfx, he, hh, hfr, hown, hkp, hgo⟩ := hp.has
    have hsim := callO_sim hF hm ht (tovX_sim hG hT hTG hTM hTU) fuel d
    have hk := code_keeps hsim.keeps _ _ _ _ _ _ _ hr
    have hER : ER ν ρ (trL i.e) a.tmps := fun j x hx => he _ (trL_get i.e j x hx)
    have hw := (code_sim (N := N) hF hsim hm fuel).1 c ic _ _ _ _ _ ρ a w hc hr hER hh (fun b hb _ => hfr b hb) hp.tmps
    have sub : ∀ b x, (heapL (o.H ++ gl) o.n).get b = some x → H'.get b = some x := fun b x hx => by
      rcases heapG_get (fun p hp' => (inHeap_mem n3 p hp').1) (fun p hp' => (hG p hp').1) hx with ⟨_, h1, _⟩ | ⟨_, y, h1, rfl⟩
      · exact (inHeap_mem n3 _ h1).2
      · exact hasG_mem n5 _ h1
    refine wp_mono hw ?_
    rintro E a' w' ⟨hE, ρ', g1, g2, g3, g4, g5⟩
    have ow : ∀ cb, cb < w.heap.size → Owned ρ' (heapL (o.H ++ gl) o.n) cb → Owned ρ (heapL (i.H ++ gl) i.n) cb := by
      rintro cb h5 ⟨b, x, pl, h1, h2, h3, h4⟩
      exact g3.owned cb h5 ⟨b, x, pl, sub b x h1, h2, h3, h4⟩
    have hb := hp.below
    have ltk : ∀ p ∈ kp, p.1 < w.heap.size := fun p hp' => (Array.getElem?_eq_some_iff.1 (hp.kept p hp')).1
    have ltg : ∀ p ∈ gl, p.1 < w.heap.size := fun p hp' => (hp.laid p hp' ν ρ).lt
    refine ⟨_, hE, rfl, ⟨fun p hp' => (inHeap_mem n3 p hp').1, ?_, ⟨ρ', fun p hp' => g3.ext _ _ (hfx p hp'), fun p hp' => g1 p.1 p.2 (inEnv_mem n2 p hp'), ?_, ?_, ?_, ?_, ?_⟩, ?_, ?_, ?_, g4, by rw [g5]; exact hp.defers⟩⟩
    · have := hk.next
      have := hp.big
      have : (heapL (i.H ++ gl) i.n).next = i.n := rfl
      omega
    · exact ⟨fun b x hx => g2.blk b x (sub b x hx), fun b b' x x' pl pl' h1 h2 h3 h4 h5 h6 => g2.apart b b' x x' pl pl' h1 (sub b x h2) (sub b' x' h3) h4 h5 h6⟩
    · intro b hb
      cases hq : ρ' b with
      | none => rfl
      | some q =>
        have h0 : (heapL (i.H ++ gl) i.n).next = i.n := rfl
        have := hk.next
        have := g3.fresh b (hfr b (by omega)) (by rw [hq]; simp)
        omega
    · intro cb ho
      rcases Nat.lt_or_ge cb w.heap.size with h5 | h5
      · exact hown cb (ow cb h5 ho)
      · exact .inl (Nat.le_trans hb.size h5)
    · exact fun p hp' ho => hkp p hp' (ow _ (ltk p hp') ho)
    · exact fun p hp' ho => hgo p hp' (ow _ (ltg p hp') ho)
    · intro p hp'
      rw [g3.frame p.1 (ltk p hp') (hkp p hp')]
      exact hp.kept p hp'
    · exact fun p hp' ν' ρ'' => (hp.laid p hp' ν' ρ'').keep (Emb.le_refl _) (g3.frame p.1 (ltg p hp') (hgo p hp'))
    · refine ⟨g3.os.trans hb.os, g3.tape.trans hb.tape, g3.output.trans hb.output, Nat.le_trans hb.size g3.size, fun k hk' hL => ?_⟩
      rw [g3.frame k (Nat.lt_of_lt_of_le hk' hb.size) (fun ho => (hown k ho).elim (fun h9 => by omega) fun ⟨p, hp', h9⟩ => hL p hp' h9), hb.block k hk' hL]
/-- Two ways to lay the blocks that agree where nothing is seen anew. -/
def Agree (n : Nat) (vw : Nat → Option Pl) (ρ ρ' : Emb) : Prop := (∀ b pl, vw b = some pl → ρ' b = some pl) ∧ ∀ b, b < n → vw b = none → ρ' b = ρ b
/-- A slot, under other names, with blocks seen anew. -/
def SlotTo (ν ν' : Nat → Int) (fx : List (Nat × Pl)) (n : Nat) (vw : Nat → Option Pl) (x y : AV) : Prop := ∀ ρ ρ' v, (∀ q ∈ fx, ρ q.1 = some q.2) → Agree n vw ρ ρ' → VR ν ρ x v → VR ν' ρ' y v
/-- A block, under other names. -/
def BlkTo (ν ν' : Nat → Int) (fx : List (Nat × Pl)) (n : Nat) (vw : Nat → Option Pl) (x y : ABlk) : Prop := ∀ ρ ρ' w pl, (∀ q ∈ fx, ρ q.1 = some q.2) → Agree n vw ρ ρ' → BR ν ρ w x pl → BR ν' ρ' w y pl
theorem HoldsX.rename {ν' : Nat → Int} {e e' : List (Nat × AV)} {H H' : List (Nat × ABlk)} {n n' : Nat} {a : Act} {w : World} {fx' : List (Nat × Pl)} {kp' : List (Nat × Obj)} (hG : GlOk gl) (h : HoldsX N w0 ν gl L fx kp ⟨e, H, n⟩ a w) (vw : Nat → Option Pl) (hg : gmax ≤ n') (hkp : ∀ p ∈ kp', p ∈ kp)
    (hvw : ∀ b pl, vw b = some pl → gmax ≤ b ∧ b < n') (hfx : ∀ p ∈ fx', vw p.1 = some p.2 ∨ (p ∈ fx ∧ p.1 < n' ∧ vw p.1 = none))
    (he : ∀ p ∈ e', ∃ x, (p.1, x) ∈ e ∧ SlotTo ν ν' fx n' vw x p.2)
    (hH : ∀ p ∈ H', gmax ≤ p.1 ∧ p.1 < n' ∧ ((∃ pl, vw p.1 = some pl ∧ p.2.own = false ∧ (∃ ob, (pl.cb, ob) ∈ kp) ∧ ∀ ρ', BR ν' ρ' w p.2 pl) ∨ (vw p.1 = none ∧ ∃ x, (heapL (H ++ gl) n).get p.1 = some x ∧ x.own = p.2.own ∧ BlkTo ν ν' fx n' vw x p.2))) :
    HoldsX N w0 ν' gl L fx' kp' ⟨e', H', n'⟩ a w := by
  obtain ⟨ρ, h0, h1, h2, h3, h4, h5, h6⟩ := h.has
  have hl : ∀ p ∈ H', gmax ≤ p.1 := fun p hp => (hH p hp).1
  have hgl : ∀ p ∈ gl, p.1 < gmax := fun p hp => (hG p hp).1
  let ρ' : Emb := ⟨fun b => match vw b with | some pl => some pl | none => if b < n' then ρ b else none, fun b hb => by
    obtain ⟨i, hi⟩ := ρ.glob b hb
    refine ⟨i, ?_⟩
    cases hv : vw b with
    | some pl => have := (hvw b pl hv).1; omega
    | none =>
      show (if b < n' then ρ b else none) = _
      rw [if_pos (Nat.lt_of_lt_of_le hb hg)]
      exact hi⟩
  have hA : Agree n' vw ρ ρ' := by
    refine ⟨fun b pl hv => ?_, fun b hb hv => ?_⟩
    · show (match vw b with | some pl => some pl | none => if b < n' then ρ b else none) = _
      rw [hv]
    · show (match vw b with | some pl => some pl | none => if b < n' then ρ b else none) = _
      rw [hv]
      exact if_pos hb
  have cases' : ∀ b x, (heapL (H' ++ gl) n').get b = some x → (∃ pl, vw b = some pl ∧ x.own = false ∧ (∃ ob, (pl.cb, ob) ∈ kp) ∧ BR ν' ρ' w x pl) ∨ (b < n' ∧ vw b = none ∧ ∃ y, (heapL (H ++ gl) n).get b = some y ∧ y.own = x.own ∧ BlkTo ν ν' fx n' vw y x) ∨ (b < gmax ∧ vw b = none ∧ ∃ y, (b, y) ∈ gl ∧ x = y.shut) := by
    intro b x hx
    rcases heapG_get hl hgl hx with ⟨hb, hm, _⟩ | ⟨hb, y, hy, rfl⟩
    · obtain ⟨_, q2, q3⟩ := hH _ hm
      rcases q3 with ⟨pl, q4, q5, q6, q7⟩ | ⟨q4, y, q5, q6, q7⟩
      · exact .inl ⟨pl, q4, q5, q6, q7 _⟩
      · exact .inr (.inl ⟨q2, q4, y, q5, q6, q7⟩)
    · refine .inr (.inr ⟨hb, ?_, y, hy, rfl⟩)
      cases hv : vw b with
      | none => rfl
      | some pl => have := (hvw b pl hv).1; omega
  have ow : ∀ cb, Owned ρ' (heapL (H' ++ gl) n') cb → Owned ρ (heapL (H ++ gl) n) cb := by
    rintro cb ⟨b, x, pl, k1, k2, k3, k4⟩
    rcases cases' b x k1 with ⟨pl', _, q2, _⟩ | ⟨q1, q2, y, q3, q4, _⟩ | ⟨_, _, y, _, rfl⟩
    · rw [q2] at k2; cases k2
    · exact ⟨b, y, pl, q3, q4.trans k2, by rw [← hA.2 b q1 q2]; exact k3, k4⟩
    · cases k2
  refine ⟨hl, hg, ⟨ρ', fun p hp => ?_, fun p hp => ?_, ⟨fun b x hx => ?_, fun b b' x x' pl pl' hne hx hx' ho hp hp' => ?_⟩, fun b hb => ?_, fun cb ho => h4 cb (ow cb ho), fun p hp ho => h5 p (hkp p hp) (ow _ ho), fun p hp ho => h6 p hp (ow _ ho)⟩, fun p hp => h.kept p (hkp p hp), h.laid, h.below, h.tmps, h.defers⟩
  · rcases hfx p hp with h9 | ⟨q1, q2, q3⟩
    · exact hA.1 _ _ h9
    · rw [hA.2 _ q2 q3]
      exact h0 p q1
  · obtain ⟨x, q1, q2⟩ := he p hp
    exact q2 ρ ρ' _ h0 hA (h1 _ q1)
  · rcases cases' b x hx with ⟨pl, q1, _, _, q4⟩ | ⟨q1, q2, y, q3, _, q5⟩ | ⟨q1, q2, y, q3, rfl⟩
    · exact ⟨pl, hA.1 _ _ q1, q4⟩
    · obtain ⟨pl, k1, k2⟩ := h2.blk b y q3
      exact ⟨pl, by rw [hA.2 b q1 q2]; exact k1, q5 ρ ρ' w pl h0 hA k2⟩
    · obtain ⟨tot, k1⟩ := ρ'.glob b q1
      obtain ⟨_, gm, us, gc⟩ := hG _ q3
      exact ⟨⟨b, 0, tot⟩, k1, br_known gm gc (h.laid _ q3 ν' ρ')⟩
  · have op : Owned ρ (heapL (H ++ gl) n) pl.cb := ow _ ⟨b, x, pl, hx, ho, hp, rfl⟩
    rcases cases' b x hx with ⟨_, _, q2, _⟩ | ⟨q1, q2, y, q3, q4, _⟩ | ⟨_, _, y, _, rfl⟩
    · rw [q2] at ho; cases ho
    · rcases cases' b' x' hx' with ⟨pv, r1, _, ⟨ob, r3⟩, _⟩ | ⟨r1, r2, y', r3, _, _⟩ | ⟨r1, r2, y', r3, rfl⟩
      · have e1 : ρ' b' = some pv := hA.1 _ _ r1
        rw [hp'] at e1
        cases e1
        intro e9
        exact h5 _ r3 (by rw [← e9]; exact op)
      · exact h2.apart b b' y y' pl pl' hne q3 r3 (q4.trans ho) (by rw [← hA.2 b q1 q2]; exact hp) (by rw [← hA.2 b' r1 r2]; exact hp')
      · obtain ⟨tot, k1⟩ := ρ'.glob b' r1
        have k1' : ρ' b' = some ⟨b', 0, tot⟩ := k1
        rw [hp'] at k1'
        cases k1'
        intro e9
        exact h6 _ r3 (by have e9 : pl.cb = b' := e9; rw [← e9]; exact op)
    · cases ho
  · show (match vw b with | some pl => some pl | none => if b < n' then ρ b else none) = _
    cases hv : vw b with
    | some pl => have := (hvw b pl hv).2; have hb : n' ≤ b := hb; omega
    | none => exact if_neg (by have hb : n' ≤ b := hb; omega)
end
/-! Slots and blocks under other names. -/
section
variable {ν ν' : Nat → Int} {fx : List (Nat × Pl)} {n : Nat} {vw : Nat → Option Pl}
theorem SlotTo.conc {x y : AV} {u : Value} (h1 : conc ν x = some u) (h2 : Sh.conc ν' y = some u) : SlotTo ν ν' fx n vw x y := by
  intro ρ ρ' v _ _ hv
  rw [(conc_vr h1).2 v hv]
  exact (conc_vr h2).1
theorem SlotTo.p {b : Nat} (o : Nat) (hb : b < n) (hv : vw b = none) : SlotTo ν ν' fx n vw (.p b o) (.p b o) := by
  intro ρ ρ' v _ hA h
  cases h
  rename_i pl hp
  exact .p b o pl (by rw [hA.2 b hb hv]; exact hp)
theorem SlotTo.sl {b : Nat} (o : Nat) {l l' : AI} {c : Cap} (hb : b < n) (hv : vw b = none) (hl : l'.val ν' = l.val ν) : SlotTo ν ν' fx n vw (.sl b o l c) (.sl b o l' c) := by
  intro ρ ρ' v _ hA h
  cases h
  rename_i pl m cc h4 h1 h2 h3
  exact .sl b o l' c pl m cc (by rw [hA.2 b hb hv]; exact h1) (hl.trans h2) h3 h4
/-- A slice of which another window is known now. -/
theorem SlotTo.slw {b z : Nat} {k k' l l' : AI} {wd wd' : Nat} {c : Cap} {pl pl' : Pl} {i i' m : Nat} (hf : (b, pl) ∈ fx) (hv : vw b = some pl') (hcb : pl'.cb = pl.cb) (htot : pl'.tot = pl.tot) (hk : k.val ν = (i : Int)) (hk' : k'.val ν' = (i' : Int)) (hp : pl'.co + i * z = pl.co + i' * z) (hl : l.val ν = (m : Int)) (hl' : l'.val ν' = (m : Int)) (hw : i' + wd' ≤ m) :
    SlotTo ν ν' fx n vw (.slw b z k wd l c) (.slw b z k' wd' l' c) := by
  intro ρ ρ' v hfx hA h
  cases h
  rename_i q o a n' cc h7 h8 h1 h3 h2 h4 h5 h6
  have e1 := hfx _ hf
  have e1 : ρ b = some pl := e1
  rw [h1] at e1
  cases e1
  have e2 : a = i := by rw [hk] at h2; omega
  have e3 : n' = m := by rw [hl] at h5; omega
  subst e2; subst e3
  have e4 : pl'.co = o + i' * z := by omega
  rw [← hcb]
  refine .slw b z k' wd' l' c pl' o i' n' cc (hA.1 _ _ hv) hk' e4 hw hl' ?_ h7 h8
  rw [hcb, htot]
  exact h6
theorem BlkTo.row {x y : ABlk} {us : List Value} (he : x.elem = y.elem) (ho : x.own = y.own) (hm : x.elem < mapTag) (h1 : concT ν x.cells = some us) (h2 : concT ν' y.cells = some us) : BlkTo ν ν' fx n vw x y := by
  intro ρ ρ' w pl _ _ hb
  refine ⟨fun _ => ?_, fun h => absurd (he.trans h) (Nat.ne_of_lt hm), fun h => absurd (he ▸ h) (Nat.not_lt_of_lt hm)⟩
  obtain ⟨C, t, fz, q1, q2, q3⟩ := hb.cells (Nat.ne_of_lt hm)
  refine ⟨C, t, fz, q1, fun j c' hc' => ?_, by rw [← ho]; exact q3⟩
  obtain ⟨m1, m2⟩ := concT_spec h1
  obtain ⟨l1, l2⟩ := concT_spec h2
  have hj : j < y.cells.length := (List.getElem?_eq_some_iff.1 hc').1
  have hj2 : j < us.length := by rw [← l1]; exact hj
  have hj1 : j < x.cells.length := by rw [m1]; exact hj2
  obtain ⟨v, r3, r4⟩ := q2 j x.cells[j] (by simp [hj1])
  refine ⟨v, r3, ?_⟩
  rw [(conc2_vr (m2 j _ us[j] (by simp [hj1]) (by simp [hj2]))).2 v r4]
  exact (conc2_vr (l2 j c' us[j] hc' (by simp [hj2]))).1
end
/-! A call: where it begins, and what it answers. -/
section
variable {P : Program} {ν : Nat → Int} {gl : Gl} {L fx : List (Nat × Pl)} {kp : List (Nat × Obj)}
/-- Where a call begins. -/
theorem holdsX_start {N : Nat} {w : World} {vs : Array Value} {e0 : List (Nat × AV)} {H0 : List (Nat × ABlk)} {n0 : Nat} (hG : GlOk gl) (hw : Laid gl w) (g : Nat → Option Pl) (hlen : vs.size ≤ N) (hn : gmax ≤ n0) (hfree : ∀ b, n0 ≤ b → g b = none)
    (hfx : ∀ p ∈ fx, embF g p.1 = some p.2) (he : ∀ p ∈ e0, ∃ v, vs[p.1]? = some v ∧ VR ν (embF g) p.2 v)
    (hH : ∀ p ∈ H0, gmax ≤ p.1 ∧ ∃ pl, g p.1 = some pl ∧ BR ν (embF g) w p.2 pl ∧ (p.2.own = true → (∃ q ∈ L, q.2.cb = pl.cb) ∧ (∀ q ∈ gl, pl.cb ≠ q.1) ∧ (∀ q ∈ kp, pl.cb ≠ q.1) ∧ ∀ q ∈ H0, q.1 ≠ p.1 → ∀ pl', g q.1 = some pl' → pl.cb ≠ pl'.cb))
    (hkp : ∀ p ∈ kp, w.heap[p.1]? = some p.2) :
    HoldsX N w ν gl L fx kp ⟨e0, H0, n0⟩ { tmps := vs ++ Array.replicate (N - vs.size) undef, defers := [] } w := by
  have hl : ∀ p ∈ H0, gmax ≤ p.1 := fun p hp => (hH p hp).1
  have hgl : ∀ p ∈ gl, p.1 < gmax := fun p hp => (hG p hp).1
  have ow : ∀ cb, Owned (embF g) (heapL (H0 ++ gl) n0) cb → ∃ b x pl, (b, x) ∈ H0 ∧ x.own = true ∧ g b = some pl ∧ pl.cb = cb := by
    rintro cb ⟨b, x, pl, k1, k2, k3, k4⟩
    rcases heapG_get hl hgl k1 with ⟨hb, hm, _⟩ | ⟨hb, y, hy, rfl⟩
    · have k3' : embF g b = some pl := k3
      rw [embF_other hb] at k3'
      exact ⟨b, x, pl, hm, k2, k3', k4⟩
    · cases k2
  refine ⟨hl, hn, ⟨embF g, hfx, fun p hp => ?_, ⟨fun b x hx => ?_, fun b b' x x' pl pl' hne hx hx' ho hp hp' => ?_⟩, fun b hb => ?_, fun cb ho => ?_, fun p hp ho => ?_, fun p hp ho => ?_⟩, hkp, hw, ⟨rfl, rfl, rfl, Nat.le_refl _, fun _ _ _ => rfl⟩, ?_, rfl⟩
  · obtain ⟨v, h1, h2⟩ := he p hp
    have hj : p.1 < vs.size := (Array.getElem?_eq_some_iff.1 h1).1
    rw [Array.getD_eq_getD_getElem?, Array.getElem?_append_left hj, h1]
    exact h2
  · rcases heapG_get hl hgl hx with ⟨hb, hm, _⟩ | ⟨hb, y, hy, rfl⟩
    · obtain ⟨_, pl, h1, h2, _⟩ := hH _ hm
      exact ⟨pl, by rw [embF_other hb]; exact h1, h2⟩
    · exact ⟨⟨b, 0, 0⟩, embF_glob hb, hw _ hy _ _⟩
  · rcases heapG_get hl hgl hx with ⟨hb, hm, _⟩ | ⟨hb, y, hy, rfl⟩
    · obtain ⟨_, q, h1, _, h3⟩ := hH _ hm
      have hp9 : embF g b = some pl := hp
      rw [embF_other hb] at hp9
      rw [hp9] at h1
      cases h1
      obtain ⟨_, k2, _, k4⟩ := h3 ho
      rcases heapG_get hl hgl hx' with ⟨hb', hm', _⟩ | ⟨hb', y', hy', rfl⟩
      · have hp9' : embF g b' = some pl' := hp'
        rw [embF_other hb'] at hp9'
        exact k4 _ hm' (Ne.symm hne) _ hp9'
      · have hp9' : embF g b' = some pl' := hp'
        rw [embF_glob hb'] at hp9'
        cases hp9'
        exact k2 _ hy'
    · cases ho
  · have hb : n0 ≤ b := hb
    show embF g b = none
    rw [embF_other (Nat.le_trans hn hb)]
    exact hfree b hb
  · obtain ⟨b, x, pl, h1, h2, h3, rfl⟩ := ow cb ho
    obtain ⟨_, q, k1, _, k3⟩ := hH _ h1
    rw [h3] at k1
    cases k1
    exact .inr (k3 h2).1
  · obtain ⟨b, x, pl, h1, h2, h3, h4⟩ := ow _ ho
    obtain ⟨_, q, k1, _, k3⟩ := hH _ h1
    rw [h3] at k1
    cases k1
    exact (k3 h2).2.2.1 p hp h4
  · obtain ⟨b, x, pl, h1, h2, h3, h4⟩ := ow _ ho
    obtain ⟨_, q, k1, _, k3⟩ := hH _ h1
    rw [h3] at k1
    cases k1
    exact (k3 h2).2.1 p hp h4
  · simp only [Array.size_append, Array.size_replicate]
    omega
/-- WHAT A CALL ANSWERS, by what holds at its end. -/
theorem callsX {f : Nat} {fn : IFn} {rs : List IRes} {ic : IC} {N : Nat} {tab : Tr IFn} {vs : Array Value} {w : World} {Pre : Act → World → Prop} {Q : Value → World → Prop} (ht : TabOk P (fun f => tab.get f)) (hf : tab.get f = some fn) (hfn : fn = ⟨ic, rs, N⟩)
    (hpre : Pre { tmps := vs ++ Array.replicate (N - vs.size) undef, defers := [] } w)
    (htri : Tri P N ic Pre fun ex a w' => (ex = .normal ∨ ex = .ret) ∧ ∃ (ν' : Nat → Int) (o : Now) (r : AV) (fx' : List (Nat × Pl)) (kp' : List (Nat × Obj)), HoldsX N w ν' gl L fx' kp' o a w' ∧ resA (trL o.e) (heapL (o.H ++ gl) o.n) rs = some r ∧
      ∀ ρ v, (∀ p ∈ fx', ρ p.1 = some p.2) → HR ν' ρ (heapL (o.H ++ gl) o.n) w' → (∀ cb, Owned ρ (heapL (o.H ++ gl) o.n) cb → w.heap.size ≤ cb ∨ ∃ p ∈ L, p.2.cb = cb) → BelowL L w w' → VR ν' ρ r v → Q v w') :
    (∃ fn, P.funcs[f]? = some fn ∧ fn.body.isSome = true ∧ (fn.name == "runtime.NumGoroutine") = false) ∧ Calls P f vs w fun e w' => ∃ v, e = .returned v ∧ Q v w' := by
  obtain ⟨g, g1, g2⟩ := ht f fn hf
  subst hfn
  unfold cFn at g2
  split at g2
  case h_2 => cases g2
  rename_i c hb
  split at g2
  case h_2 => cases g2
  rename_i ic' rs' hic hrs
  split at g2
  case isFalse => cases g2
  rename_i hname
  simp only [Option.some.injEq, IFn.mk.injEq] at g2
  obtain ⟨rfl, rfl, rfl⟩ := g2
  refine ⟨⟨g, g1, by rw [hb]; rfl, by simpa using hname⟩, calls_of_wp g1 hb ?_⟩
  refine wp_mono (htri c hic _ w hpre) ?_
  rintro E a' w' ⟨ex, hE, hq, ν', o, r, fx', kp', hH, hr, hQ⟩
  obtain ⟨ρ, k0, k1, k2, _, k4, _⟩ := hH.has
  obtain ⟨v, hv1, hv2⟩ := results_sim (P := P) (w := w') (e := trL o.e) k2 hrs (fun j x hx => k1 _ (trL_get o.e j x hx)) hr
  rcases hq with rfl | rfl
  · cases hE
    exact ⟨hH.defers, v, hv1, v, rfl, hQ ρ v k0 k2 k4 hH.below hv2⟩
  · cases hE
    exact ⟨hH.defers, v, hv1, v, rfl, hQ ρ v k0 k2 k4 hH.below hv2⟩
end
end Go.Sh
