/-
  THE SHADOW MACHINE: code and calls. Own work.
-/
import Derived.Test.YtnlhpiieihnbiaaDoorShO
import Derived.Scope
namespace Go.Sh

def dstOk (N : Nat) : Option Nat → Bool
  | some d => Nat.blt d N
  | none => true

def cIOp (P : Program) (N : Nat) (ops : Array Oper) (o : Oper) : Option IOp :=
  match cGuard ops o.guard with
  | some g => if dstOk N o.dst then some ⟨o.dst, (cOp P o).getD .bad, g, [], false⟩ else none
  | none => none

theorem cIOp_spec {P : Program} {N : Nat} {ops : Array Oper} {o : Oper} {x : IOp} (h : cIOp P N ops o = some x) : IOk P N ops o x := by
  unfold cIOp at h
  split at h
  · rename_i g hg
    split at h
    · rename_i hd
      simp only [Option.some.injEq] at h
      subst h
      refine ⟨?_, rfl, fun d hdd => ?_, hg⟩
      · cases hc : cOp P o with
        | none => exact .inr rfl
        | some k => exact .inl rfl
      · rw [hdd] at hd
        simpa [dstOk] using hd
    · cases h
  · cases h

def addAll : List Nat → List Nat → List Nat
  | l, [] => l
  | l, j :: r => addAll (if l.contains j then l else j :: l) r

def ancOne (acc : List (List Nat)) : List Edge → List Nat → List Nat
  | [], l => l
  | e :: r, l => ancOne acc r (if Region.binds .any e then addAll l (e.on :: (acc[e.on]?).getD []) else l)

def ancAll : List Oper → List (List Nat) → List (List Nat)
  | [], acc => acc
  | o :: r, acc => ancAll r (acc ++ [ancOne acc o.after.toList []])

def deco : List IOp → List (List Nat) → List IOp
  | x :: r, a :: s => { x with anc := a } :: deco r s
  | _, _ => []

def freeOf (xs : List IOp) (i : Nat) (x : IOp) : Bool := !x.op.isPure && allI (fun j y => Nat.beq i j || y.op.isPure || x.anc.contains j || y.anc.contains i) 0 xs

def decoF (xs : List IOp) : Nat → List IOp → List IOp
  | i, x :: r => { x with free := freeOf xs i x } :: decoF xs (i + 1) r
  | _, [] => []

theorem deco_get : ∀ (l : List IOp) (a : List (List Nat)) (i : Nat) (x : IOp), (deco l a)[i]? = some x → ∃ y, l[i]? = some y ∧ x.op = y.op ∧ x.dst = y.dst ∧ x.guard = y.guard := by
  intro l
  induction l with
  | nil => intro a i x h; simp [deco] at h
  | cons y r ih =>
    intro a i x h
    cases a with
    | nil => simp [deco] at h
    | cons b s =>
      simp only [deco] at h
      cases i with
      | zero => simp at h; subst h; exact ⟨y, rfl, rfl, rfl, rfl⟩
      | succ i => simp at h; exact ih s i x h

theorem decoF_get (xs : List IOp) : ∀ (l : List IOp) (k i : Nat) (x : IOp), (decoF xs k l)[i]? = some x → ∃ y, l[i]? = some y ∧ x.op = y.op ∧ x.dst = y.dst ∧ x.guard = y.guard := by
  intro l
  induction l with
  | nil => intro k i x h; simp [decoF] at h
  | cons y r ih =>
    intro k i x h
    simp only [decoF] at h
    cases i with
    | zero => simp at h; subst h; exact ⟨y, rfl, rfl, rfl, rfl⟩
    | succ i => simp at h; exact ih (k + 1) i x h

def drawn (ops : Array Oper) (l : List IOp) : List IOp := let m := deco l (ancAll ops.toList []); decoF m 0 m

def cReg (P : Program) (N : Nat) (ops : Array Oper) (draw : Bool) : Option IC :=
  match mapO (cIOp P N ops) ops.toList with
  | none => none
  | some l =>
    if draw then (if okD (drawn ops l) && okE ops (drawn ops l) then some (.draw (drawn ops l)) else none)
    else some (.reg l)

def cCode (P : Program) (N : Nat) : Code → Option IC
  | .skip => some .skip
  | .region _ ops draw => cReg P N ops draw
  | .seq a b => match cCode P N a, cCode P N b with | some a, some b => some (.seq a b) | _, _ => none
  | .cond c a b => match cO c, cCode P N a, cCode P N b with | some c, some a, some b => some (.cond c a b) | _, _, _ => none
  | .block id a => (cCode P N a).map (.block id)
  | .loop a => (cCode P N a).map .loop
  | .exit id => some (.exit id)
  | .scope a => (cCode P N a).map .scope
  | .label _ => some .skip
  | .ret => some .ret
  | _ => some .bad

section
variable {ν : Nat → Int} {F : Facts} {P : Program} {call : CallFn} {N : Nat}

inductive ExR : Ex → Exit → Prop
  | normal : ExR .normal .normal
  | exit (i : Nat) : ExR (.exit i) (.exit i)
  | ret : ExR .ret .ret

theorem fold_keeps (hc : ∀ f args H r H', call f args H = some (r, H') → Keeps H H') {l : List IOp} {e e' : Tr AV} {H H' : AH} {sp : Spans} (hl : H.low ≤ H.next) {L : Lone} (h : foldD F call L 0 l (e, H, []) = some (e', H', sp)) : Keeps H H' := by
  obtain ⟨st, h0, h1, h2⟩ := fold_trace l 0 _ _ h
  have hT : Trace F call L l st := ⟨fun i x hx => stepD_kd (by have := h2 i x hx; rwa [Nat.zero_add] at this), hc, by rw [h0]; exact hl⟩
  have key : ∀ i, i ≤ l.length → Keeps (st 0).2.1 (st i).2.1 := by
    intro i
    induction i with
    | zero => intro _; exact Keeps.refl _
    | succ i ih =>
      intro hi
      have k := ih (by omega)
      have hi' : i < l.length := by omega
      obtain ⟨r, _, hk⟩ := hT.step i l[i] (by simp [hi'])
      cases hk with
      | skip hw hs => rw [hs]; exact k
      | pure r hw hp hv hs => rw [hs]; exact k
      | free r hw hp hf hv hs => exact k.trans (opA_keeps hc hv)
      | lone r b off n p q hw hop hf hlo hb hok hh hv hs => exact k.trans (opA_keeps hc hv)
      | mono r H1 hw hp hf hlo hv hs hs2 =>
        have k1 := opA_keeps hc hv
        rw [hs]
        have hlow := hT.low
        refine k.trans ⟨rfl, rfl, k1.next, fun b hb => k1.old b ?_, fun q => ?_⟩
        · have := (hT.facts i (by omega)).1
          have := (hT.facts i (by omega)).2.2
          show b < (st i).2.1.next
          omega
        · have := k1.next
          simp only at this ⊢
          omega
  have := key l.length (Nat.le_refl _)
  rw [h0, h1] at this
  exact this

theorem code_keeps (hc : ∀ f args H r H', call f args H = some (r, H') → Keeps H H') : ∀ (n : Nat) (c : IC) (e : Tr AV) (H : AH) (ex : Ex) (e' : Tr AV) (H' : AH), codeA F call n c e H = some (ex, e', H') → Keeps H H' := by
  intro n
  induction n with
  | zero => intro c e H ex e' H' h; simp [codeA] at h
  | succ n ih =>
    intro c e H ex e' H' h
    cases c with
    | skip => simp only [codeA, Option.some.injEq, Prod.mk.injEq] at h; obtain ⟨_, _, rfl⟩ := h; exact Keeps.refl _
    | reg ops =>
      simp only [codeA, Option.map_eq_some_iff, Prod.mk.injEq] at h
      obtain ⟨r, hr, _, _, rfl⟩ := h
      exact reg_keeps hc _ _ _ _ _ hr
    | draw ops =>
      simp only [codeA] at h
      split at h
      · rename_i hl
        split at h
        case h_2 => cases h
        simp only [Option.map_eq_some_iff, Prod.mk.injEq] at h
        obtain ⟨r, hr, _, _, rfl⟩ := h
        obtain ⟨e1, H1, sp⟩ := r
        exact fold_keeps hc (by simpa using hl) hr
      · cases h
    | seq a b =>
      simp only [codeA] at h
      split at h
      · rename_i e1 H1 h1
        exact (ih _ _ _ _ _ _ h1).trans (ih _ _ _ _ _ _ h)
      · exact ih _ _ _ _ _ _ h
    | cond c a b =>
      simp only [codeA] at h
      split at h
      · exact ih _ _ _ _ _ _ h
      · exact ih _ _ _ _ _ _ h
      · cases h
    | block id a =>
      simp only [codeA] at h
      split at h
      · rename_i i e1 H1 h1
        simp only [Option.some.injEq, Prod.mk.injEq] at h
        obtain ⟨_, _, rfl⟩ := h
        exact ih _ _ _ _ _ _ h1
      · exact ih _ _ _ _ _ _ h
    | loop a =>
      simp only [codeA] at h
      split at h
      · rename_i e1 H1 h1
        exact (ih _ _ _ _ _ _ h1).trans (ih _ _ _ _ _ _ h)
      · exact ih _ _ _ _ _ _ h
    | scope a => exact ih _ _ _ _ _ _ (by simpa only [codeA] using h)
    | exit id => simp only [codeA, Option.some.injEq, Prod.mk.injEq] at h; obtain ⟨_, _, rfl⟩ := h; exact Keeps.refl _
    | ret => simp only [codeA, Option.some.injEq, Prod.mk.injEq] at h; obtain ⟨_, _, rfl⟩ := h; exact Keeps.refl _
    | bad => simp [codeA] at h

/-- What a piece of code comes to. -/
def Post (ν : Nat → Int) (N : Nat) (ds : List Deferred) (ρ : Emb) (H : AH) (w : World) (ex : Ex) (e' : Tr AV) (H' : AH) : Exit → Act → World → Prop := fun E a' w' =>
  ExR ex E ∧ ∃ ρ', ER ν ρ' e' a'.tmps ∧ HR ν ρ' H' w' ∧ Stp ρ H w ρ' H' w' ∧ a'.tmps.size = N ∧ a'.defers = ds

theorem Fresh.later {ρ ρ' : Emb} {H H1 H' : AH} {w w1 : World} (hfr : Fresh ρ H H') (hs : Stp ρ H w ρ' H1 w1) (k : H.next ≤ H1.next) : Fresh ρ' H1 H' := by
  intro b h1 h2
  cases hb : ρ' b with
  | none => rfl
  | some q =>
    have := hs.fresh b (hfr b (Nat.le_trans k h1) h2) (by rw [hb]; simp)
    omega

theorem Fresh.sub {ρ : Emb} {H H1 H' : AH} (hfr : Fresh ρ H H') (k : H1.next ≤ H'.next) : Fresh ρ H H1 := fun b h1 h2 => hfr b h1 (Nat.lt_of_lt_of_le h2 k)

theorem Post.after {ds : List Deferred} {ρ ρ1 : Emb} {H H1 : AH} {w w1 : World} {ex : Ex} {e' : Tr AV} {H' : AH} (hs : Stp ρ H w ρ1 H1 w1) (k1 : H.next ≤ H1.next) (k2 : H1.next ≤ H'.next) {E : Exit} {a' : Act} {w' : World}
    (h : Post ν N ds ρ1 H1 w1 ex e' H' E a' w') : Post ν N ds ρ H w ex e' H' E a' w' := by
  obtain ⟨hE, ρ', g1, g2, g3, g4, g5⟩ := h
  exact ⟨hE, ρ', g1, g2, hs.trans g3 k1 k2, g4, g5⟩

theorem code_sim (hF : F.Hold ν) (hc : CallSim ν P call) (hm : P.follows .mixedOrders = true) : ∀ (n : Nat),
    (∀ (c : Code) (ic : IC) (e : Tr AV) (H : AH) (ex : Ex) (e' : Tr AV) (H' : AH) (ρ : Emb) (a : Act) (w : World), cCode P N c = some ic → codeA F call n ic e H = some (ex, e', H') → ER ν ρ e a.tmps → HR ν ρ H w → Fresh ρ H H' → a.tmps.size = N →
      c.wp P (Post ν N a.defers ρ H w ex e' H') a w) ∧
    (∀ (c : Code) (ic : IC) (e : Tr AV) (H : AH) (ex : Ex) (e' : Tr AV) (H' : AH) (ρ : Emb) (a : Act) (w : World), cCode P N c = some ic → codeA F call n (.loop ic) e H = some (ex, e', H') → ER ν ρ e a.tmps → HR ν ρ H w → Fresh ρ H H' → a.tmps.size = N →
      Code.rounds P c (Post ν N a.defers ρ H w ex e' H') n a w) := by
  intro n
  induction n with
  | zero => exact ⟨fun c ic e H ex e' H' ρ a w _ h => by simp [codeA] at h, fun c ic e H ex e' H' ρ a w _ h => by simp [codeA] at h⟩
  | succ n ih =>
    obtain ⟨ih1, ih2⟩ := ih
    have loopStep : ∀ (c : Code) (ic : IC) (e : Tr AV) (H : AH) (ex : Ex) (e' : Tr AV) (H' : AH) (ρ : Emb) (a : Act) (w : World), cCode P N c = some ic → codeA F call (n + 1) (.loop ic) e H = some (ex, e', H') → ER ν ρ e a.tmps → HR ν ρ H w → Fresh ρ H H' → a.tmps.size = N →
        Code.rounds P c (Post ν N a.defers ρ H w ex e' H') (n + 1) a w := by
      intro c ic e H ex e' H' ρ a w hcc h he hh hfr hN
      rw [rounds_succ]
      simp only [codeA] at h
      split at h
      · rename_i e1 H1 h1
        have k1 := code_keeps hc.keeps _ _ _ _ _ _ _ h1
        have k2 := code_keeps hc.keeps _ _ _ _ _ _ _ h
        refine wp_mono (ih1 c ic e H .normal e1 H1 ρ a w hcc h1 he hh (hfr.sub k2.next) hN) ?_
        rintro E a1 w1 ⟨hE, ρ1, g1, g2, g3, g4, g5⟩
        cases hE
        show Code.rounds P c (Post ν N a.defers ρ H w ex e' H') n a1 w1
        have := ih2 c ic e1 H1 ex e' H' ρ1 a1 w1 hcc h g1 g2 (hfr.later g3 k1.next) g4
        rw [g5] at this
        have mono : ∀ (m : Nat) (a2 : Act) (w2 : World), Code.rounds P c (Post ν N a.defers ρ1 H1 w1 ex e' H') m a2 w2 → Code.rounds P c (Post ν N a.defers ρ H w ex e' H') m a2 w2 := by
          intro m
          induction m with
          | zero => intro a2 w2 hq; exact hq.elim
          | succ m ihm =>
            intro a2 w2 hq
            rw [rounds_succ] at hq ⊢
            refine wp_mono hq ?_
            intro E a3 w3 hE
            cases E <;> first
              | exact ihm _ _ hE
              | exact Post.after g3 k1.next k2.next hE
        exact mono n a1 w1 this
      · rename_i hne
        refine wp_mono (ih1 c ic e H ex e' H' ρ a w hcc h he hh hfr hN) ?_
        rintro E a1 w1 hE
        have hE' := hE.1
        cases hE' with
        | normal => exact (hne e' H' h).elim
        | exit i => exact hE
        | ret => exact hE
    refine ⟨?_, loopStep⟩
    intro c ic e H ex e' H' ρ a w hcc h he hh hfr hN
    cases c with
    | skip =>
      simp only [cCode, Option.some.injEq] at hcc
      subst hcc
      simp only [codeA, Option.some.injEq, Prod.mk.injEq] at h
      obtain ⟨rfl, rfl, rfl⟩ := h
      exact wp_skip ⟨.normal, ρ, he, hh, Stp.refl _ _ _, hN, rfl⟩
    | label l =>
      simp only [cCode, Option.some.injEq] at hcc
      subst hcc
      simp only [codeA, Option.some.injEq, Prod.mk.injEq] at h
      obtain ⟨rfl, rfl, rfl⟩ := h
      exact wp_label ⟨.normal, ρ, he, hh, Stp.refl _ _ _, hN, rfl⟩
    | exit id =>
      simp only [cCode, Option.some.injEq] at hcc
      subst hcc
      simp only [codeA, Option.some.injEq, Prod.mk.injEq] at h
      obtain ⟨rfl, rfl, rfl⟩ := h
      exact wp_exit ⟨.exit id, ρ, he, hh, Stp.refl _ _ _, hN, rfl⟩
    | ret =>
      simp only [cCode, Option.some.injEq] at hcc
      subst hcc
      simp only [codeA, Option.some.injEq, Prod.mk.injEq] at h
      obtain ⟨rfl, rfl, rfl⟩ := h
      exact wp_ret ⟨.ret, ρ, he, hh, Stp.refl _ _ _, hN, rfl⟩
    | goto l =>
      simp only [cCode, Option.some.injEq] at hcc
      subst hcc
      simp [codeA] at h
    | refuse why =>
      simp only [cCode, Option.some.injEq] at hcc
      subst hcc
      simp [codeA] at h
    | rangeFunc f ps as b =>
      simp only [cCode, Option.some.injEq] at hcc
      subst hcc
      simp [codeA] at h
    | region id ops draw =>
      simp only [cCode, cReg] at hcc
      split at hcc
      · cases hcc
      · rename_i l hl
        obtain ⟨q1, q2⟩ := mapO_spec _ _ _ hl
        have hok : ∀ (i : Nat) x, l[i]? = some x → ∃ o, ops[i]? = some o ∧ IOk P N ops o x := by
          intro i x hx
          have hi : i < ops.toList.length := by rw [q1]; exact (List.getElem?_eq_some_iff.1 hx).1
          have hi' : i < ops.size := by simpa using hi
          exact ⟨ops[i], by simp, cIOp_spec (q2 i ops[i] x (by simp [hi']) hx)⟩
        split at hcc
        · rename_i hd
          subst hd
          split at hcc
          · rename_i hck
            simp only [Bool.and_eq_true] at hck
            simp only [Option.some.injEq] at hcc
            subst hcc
            simp only [codeA] at h
            split at h
            · rename_i hlow
              split at h
              case h_2 => cases h
              rename_i L hL
              simp only [Option.map_eq_some_iff, Prod.mk.injEq] at h
              obtain ⟨⟨e1, H1, sp⟩, hr, rfl, rfl, rfl⟩ := h
              refine draw_sim hF hc hm (okD_spec hck.1) (okE_spec hck.2) ?_ hr (loneD_ok hL) (by simpa using hlow) he hh hfr hN (fun ρ' a' w' g1 g2 g3 g4 g5 => ⟨.normal, ρ', g1, g2, g3, g4, g5⟩)
              intro i x hx
              obtain ⟨y, hy, e1, e2, e3⟩ := decoF_get _ _ _ _ _ hx
              obtain ⟨z, hz, f1, f2, f3⟩ := deco_get _ _ _ _ hy
              obtain ⟨o, ho, hok'⟩ := hok i z hz
              refine ⟨o, ho, ⟨?_, (e2.trans f2).trans hok'.dst, hok'.lt, by rw [e3, f3]; exact hok'.guard⟩⟩
              rw [e1, f1]
              exact hok'.op
            · cases h
          · cases hcc
        · rename_i hd
          have hd : draw = false := by simpa using hd
          subst hd
          simp only [Option.some.injEq] at hcc
          subst hcc
          simp only [codeA, Option.map_eq_some_iff, Prod.mk.injEq] at h
          obtain ⟨⟨e1, H1⟩, hr, rfl, rfl, rfl⟩ := h
          refine wp_region ?_
          have hlen : ops.size = l.length := by simpa using q1
          rw [List.range_eq_range', hlen]
          exact reg_sim hF hc l 0 e H e1 H1 ρ a w (fun i x hx => by rw [Nat.zero_add]; exact hok i x hx) hr he hh hfr hN (fun ρ' a' w' g1 g2 g3 g4 g5 => ⟨.normal, ρ', g1, g2, g3, g4, g5⟩)
    | seq x y =>
      simp only [cCode] at hcc
      split at hcc
      · rename_i ix iy hx hy
        simp only [Option.some.injEq] at hcc
        subst hcc
        simp only [codeA] at h
        refine wp_seq ?_
        split at h
        · rename_i e1 H1 h1
          have k1 := code_keeps hc.keeps _ _ _ _ _ _ _ h1
          have k2 := code_keeps hc.keeps _ _ _ _ _ _ _ h
          refine wp_mono (ih1 x ix e H .normal e1 H1 ρ a w hx h1 he hh (hfr.sub k2.next) hN) ?_
          rintro E a1 w1 ⟨hE, ρ1, g1, g2, g3, g4, g5⟩
          cases hE
          show y.wp P (Post ν N a.defers ρ H w ex e' H') a1 w1
          have := ih1 y iy e1 H1 ex e' H' ρ1 a1 w1 hy h g1 g2 (hfr.later g3 k1.next) g4
          rw [g5] at this
          exact wp_mono this fun E a2 w2 hq => Post.after g3 k1.next k2.next hq
        · rename_i hne
          refine wp_mono (ih1 x ix e H ex e' H' ρ a w hx h he hh hfr hN) ?_
          intro E a1 w1 hE
          have hE' := hE.1
          cases hE' with
          | normal => exact (hne e' H' h).elim
          | exit i => exact hE
          | ret => exact hE
      · cases hcc
    | cond c x y =>
      simp only [cCode] at hcc
      split at hcc
      · rename_i oc ix iy hoc hx hy
        simp only [Option.some.injEq] at hcc
        subst hcc
        have hv := cO_sim he hoc
        simp only [codeA] at h
        split at h
        · rename_i hb
          rw [hb] at hv
          generalize hcv : a.eval c = cv at hv
          cases hv
          exact wp_cond_true hcv (ih1 x ix e H ex e' H' ρ a w hx h he hh hfr hN)
        · rename_i hb
          rw [hb] at hv
          generalize hcv : a.eval c = cv at hv
          cases hv
          exact wp_cond_false hcv (ih1 y iy e H ex e' H' ρ a w hy h he hh hfr hN)
        · cases h
      · cases hcc
    | block id b =>
      simp only [cCode, Option.map_eq_some_iff] at hcc
      obtain ⟨ib, hb, rfl⟩ := hcc
      simp only [codeA] at h
      refine wp_block ?_
      split at h
      · rename_i i e1 H1 h1
        simp only [Option.some.injEq, Prod.mk.injEq] at h
        obtain ⟨rfl, rfl, rfl⟩ := h
        refine wp_mono (ih1 b ib e H (.exit i) e1 H1 ρ a w hb h1 he hh hfr hN) ?_
        rintro E a1 w1 ⟨hE, rest⟩
        cases hE
        show if i = id then _ else _
        by_cases hid : i = id
        · subst hid
          rw [if_pos rfl]
          simp only [Nat.beq_refl, if_true]
          exact ⟨.normal, rest⟩
        · rw [if_neg hid]
          have : Nat.beq i id = false := by rw [Bool.eq_false_iff]; intro hq; exact hid (Nat.eq_of_beq_eq_true hq)
          rw [this]
          simp only [Bool.false_eq_true, if_false]
          exact ⟨.exit i, rest⟩
      · rename_i hne
        refine wp_mono (ih1 b ib e H ex e' H' ρ a w hb h he hh hfr hN) ?_
        intro E a1 w1 hE
        have hE' := hE.1
        cases hE' with
        | normal => exact hE
        | exit i => exact (hne i e' H' h).elim
        | ret => exact hE
    | loop b =>
      simp only [cCode, Option.map_eq_some_iff] at hcc
      obtain ⟨ib, hb, rfl⟩ := hcc
      exact wp_loop_rounds (n + 1) (loopStep b ib e H ex e' H' ρ a w hb h he hh hfr hN)
    | scope b =>
      simp only [cCode, Option.map_eq_some_iff] at hcc
      obtain ⟨ib, hb, rfl⟩ := hcc
      simp only [codeA] at h
      refine wp_scope_straight (wp_mono (ih1 b ib e H ex e' H' ρ a w hb h he hh hfr hN) ?_)
      intro E a1 w1 hE
      have hE' := hE.1
      cases hE' <;> exact hE

end
end Go.Sh
