/-
  THE SHADOW MACHINE: a table with answers beside it. Own work.
-/
import Derived.Test.YtnlhpiieihnbiaaDoorShV
namespace Go.Sh

/-- Calls: first what stands beside the table, then the table. -/
def callO (F : Facts) (tab : Nat → Option IFn) (ov : CallFn) (fuel : Nat) : Nat → CallFn
  | 0, f, args, H => ov f args H
  | d + 1, f, args, H => match ov f args H with
    | some r => some r
    | none => match tab f with
      | some fn => runFn F (callO F tab ov fuel d) fuel fn args H
      | none => none

section
variable {ν : Nat → Int} {F : Facts} {P : Program}

theorem callO_does (hF : F.Hold ν) (hm : P.follows .mixedOrders = true) {tab : Nat → Option IFn} (ht : TabOk P tab) {ov : CallFn} (ho : CallSim ν P ov) (fuel : Nat) : ∀ d f args H r H', callO F tab ov fuel d f args H = some (r, H') →
    Keeps H H' ∧ (ov f args H = some (r, H') ∨ Runs ν P f args H r H') := by
  intro d
  induction d with
  | zero => intro f args H r H' h; exact ⟨ho.keeps _ _ _ _ _ h, .inl h⟩
  | succ d ih =>
    intro f args H r H' h
    simp only [callO] at h
    split at h
    · rename_i q hq
      simp only [Option.some.injEq] at h
      subst h
      exact ⟨ho.keeps _ _ _ _ _ hq, .inl hq⟩
    · split at h
      · rename_i x hx
        obtain ⟨fn, h1, h2⟩ := ht f x hx
        have hc : CallSim ν P (callO F tab ov fuel d) := ⟨fun f args H r H' h => (ih f args H r H' h).1, fun f args H r H' h => (ih f args H r H' h).2.elim (fun q => ho.does _ _ _ _ _ q) .inl⟩
        obtain ⟨k, hr⟩ := fn_runs hF hc hm h1 h2 h
        exact ⟨k, .inr hr⟩
      · cases h

theorem callO_sim (hF : F.Hold ν) (hm : P.follows .mixedOrders = true) {tab : Nat → Option IFn} (ht : TabOk P tab) {ov : CallFn} (ho : CallSim ν P ov) (fuel d : Nat) : CallSim ν P (callO F tab ov fuel d) :=
  ⟨fun f args H r H' h => (callO_does hF hm ht ho fuel d f args H r H' h).1, fun f args H r H' h => (callO_does hF hm ht ho fuel d f args H r H' h).2.elim (fun q => ho.does _ _ _ _ _ q) .inl⟩

variable {X : Type}

noncomputable def callOK (F : Facts) (tab : Tr IFn) (ov : CallK X → CallK X) (fuel : Nat) (d : Nat) : CallK X :=
  @Nat.rec (fun _ => CallK X) (ov fun _ _ _ _ => none) (fun _ c => ov fun f args H k => optK (getF tab f) none fun fn => runK F c fuel fn args H k) d

/-- What stands beside the table, handed on to. -/
def OvOk (ov : CallFn) (ovK : CallK X → CallK X) : Prop := ∀ (c : CallK X) f args H k, ovK c f args H k = match ov f args H with | some r => onto k r | none => c f args H k

theorem callOK_eq (tab : Tr IFn) {ov : CallFn} {ovK : CallK X → CallK X} (ho : OvOk ov ovK) (fuel : Nat) : ∀ (d f : Nat) (args : List AV) (H : AH) (k : Kn X), callOK F tab ovK fuel d f args H k = (callO F (fun f => tab.get f) ov fuel d f args H).bind (onto k) := by
  intro d
  induction d with
  | zero =>
    intro f args H k
    show ovK (fun _ _ _ _ => none) f args H k = _
    rw [ho]
    simp only [callO]
    cases ov f args H <;> rfl
  | succ d ih =>
    intro f args H k
    show ovK (fun f args H k => optK (getF tab f) none fun fn => runK F (callOK F tab ovK fuel d) fuel fn args H k) f args H k = _
    rw [ho]
    simp only [callO]
    cases ov f args H with
    | some r => rfl
    | none =>
      show optK (getF tab f) none (fun fn => runK F (callOK F tab ovK fuel d) fuel fn args H k) = _
      rw [getF_eq]
      show _ = (match tab.get f with | some fn => runFn F (callO F (fun f => tab.get f) ov fuel d) fuel fn args H | none => none : Option (AV × AH)).bind (onto k)
      cases tab.get f with
      | none => rfl
      | some fn => exact runK_eq F (callOK F tab ovK fuel d) (callO F (fun f => tab.get f) ov fuel d) ih fuel fn args H k
end

/-! Numbers that are written otherwise. -/

section
variable {ν : Nat → Int} {ρ : Emb} {w : World}

/-- Cells whose numbers are the same, however they are written. -/
def SameI (ν : Nat → Int) : AV → AV → Prop
  | .i k x, .i k' y => k = k' ∧ x.val ν = y.val ν
  | x, y => x = y

theorem SameI.vr {x y : AV} {v : Value} (h : SameI ν x y) (hv : VR ν ρ x v) : VR ν ρ y v := by
  unfold SameI at h
  split at h
  · obtain ⟨rfl, h2⟩ := h
    cases hv
    rw [h2]
    exact .i _ _
  · subst h; exact hv

/-- One block's cells are written otherwise. -/
theorem HR.rewrite {H H' : AH} (hh : HR ν ρ H w) (hb : ∀ b x', H'.get b = some x' → ∃ x, H.get b = some x ∧ x.elem = x'.elem ∧ x.own = x'.own ∧ (x.cells = x'.cells ∨ (x.elem ≠ mapTag ∧ ∀ (j : Nat) c', x'.cells[j]? = some c' → ∃ c, x.cells[j]? = some c ∧ SameI ν c c'))) : HR ν ρ H' w := by
  refine ⟨fun b x' hx' => ?_, fun b b' x x' pl pl' hne hx hx' ho hp hp' => ?_⟩
  · obtain ⟨x, g1, g2, g3, g4⟩ := hb b x' hx'
    obtain ⟨pl, h1, h2⟩ := hh.blk b x g1
    refine ⟨pl, h1, ⟨fun hm => ?_, fun hm => ?_⟩⟩
    · obtain ⟨C, t, fz, k1, k2, k3⟩ := h2.cells (by rw [g2]; exact hm)
      refine ⟨C, t, fz, k1, fun j c' hc' => ?_, by rw [← g3]; exact k3⟩
      rcases g4 with g4 | ⟨_, g4⟩
      · exact k2 j c' (by rw [g4]; exact hc')
      · obtain ⟨c, q1, q2⟩ := g4 j c' hc'
        obtain ⟨v, q3, q4⟩ := k2 j c q1
        exact ⟨v, q3, q2.vr q4⟩
    · obtain ⟨es, c, k1, k2⟩ := h2.map (by rw [g2]; exact hm)
      rcases g4 with g4 | ⟨g4, _⟩
      · exact ⟨es, c, k1, by rw [← g4]; exact k2⟩
      · exact (g4 (g2.trans hm)).elim
  · obtain ⟨y, g1, _, g3, _⟩ := hb b x hx
    obtain ⟨y', g1', _, _, _⟩ := hb b' x' hx'
    exact hh.apart b b' y y' pl pl' hne g1 g1' (g3.trans ho) hp hp'

theorem Stp.rewrite {ρ' : Emb} {H H' H2 : AH} {w' : World} (hs : Stp ρ H w ρ' H' w') (hn : H2.next = H'.next) (ho : ∀ b x, H2.get b = some x → ∃ y, H'.get b = some y ∧ y.own = x.own) : Stp ρ H w ρ' H2 w' := by
  refine ⟨hs.ext, fun b h1 h2 => ?_, hs.size, hs.os, hs.tape, hs.output, hs.frame, fun cb hc hoo => ?_, hs.place⟩
  · have := hs.fresh b h1 h2
    rw [hn]
    exact this
  · obtain ⟨b, x, pl, h1, h2, h3, h4⟩ := hoo
    obtain ⟨y, g1, g2⟩ := ho b x h1
    exact hs.owned cb hc ⟨b, y, pl, g1, g2.trans h2, h3, h4⟩

end
end Go.Sh
