/-
  THE SHADOW MACHINE, MADE QUICK: regions, code, calls; all of it answers as the plain one. Own work.
-/
import Derived.Test.YtnlhpiieihnbiaaDoorShU
namespace Go.Sh

section
variable {X : Type}

/-- Is it wanted? -/
noncomputable def wantK (e : Tr AV) (g : Option (Nat × Bool)) (y n : Option X) : Option X :=
  @Option.rec (Nat × Bool) (fun _ => Option X) y (fun p => @Prod.rec Nat Bool (fun _ => Option X) (fun t want => optK (getF e t) none fun v =>
    @AV.rec (fun _ => Option X) (fun _ => Option X) none (fun x => br (br want x (br x false true)) y n) (fun _ _ => none) (fun _ => none) (fun _ => none) (fun _ _ => none) none (fun _ _ _ _ => none) none (fun _ => none) (fun _ _ _ => none) none (fun _ _ _ => none) none none (fun _ => none) (fun _ _ => none) (fun _ _ => n) none (fun _ _ _ _ => none) v) p) g

theorem wantK_eq (e : Tr AV) (g : Option (Nat × Bool)) (y n : Option X) : wantK e g y n = (match wantedA e g with | some true => y | some false => n | none => none) := by
  cases g with
  | none => rfl
  | some p =>
    obtain ⟨t, want⟩ := p
    show optK (getF e t) none _ = _
    have ew : wantedA e (some (t, want)) = (match e.get t with | some (.b x) => some (x == want) | some (.tp _) => some false | _ => none) := rfl
    rw [getF_eq, ew]
    cases e.get t with
    | none => rfl
    | some v =>
      cases v
      case b x => cases x <;> cases want <;> rfl
      all_goals rfl

/-- A slot is laid. -/
noncomputable def layK (e : Tr AV) (d : Option Nat) (v : AV) (k : Tr AV → Option X) : Option X :=
  @Option.rec Nat (fun _ => Option X) (k e) (fun d => br (Nat.blt d room) (avK v fun v => putK e (some v) d k) none) d

theorem layK_eq (e : Tr AV) (d : Option Nat) (v : AV) (k : Tr AV → Option X) : layK e d v k = (putE e d v).bind k := by
  cases d with
  | none => rfl
  | some d =>
    show br (Nat.blt d room) (avK v fun v => putK e (some v) d k) none = (if Nat.blt d room = true then some (Tr.put depth e d (some v)) else none).bind k
    cases h : Nat.blt d room
    · rfl
    · rw [br_t, avK_eq, putK_eq, put_eq _ _ _ h]
      rfl

noncomputable def regS (F : Facts) (c : CallK X) (o : IOp) (ih : Tr AV → AH → (Tr AV → AH → Option X) → Option X) (e : Tr AV) (H : AH) (k : Tr AV → AH → Option X) : Option X :=
  @IOp.rec (fun _ => Option X) (fun dst op guard _ _ => wantK e guard (opK op F c e H fun v H' => layK e dst v fun e' => ih e' H' k) (layK e dst (.tp []) fun e' => ih e' H k)) o

/-- A region in the text's order. -/
noncomputable def regK (F : Facts) (c : CallK X) (l : List IOp) : Tr AV → AH → (Tr AV → AH → Option X) → Option X :=
  @List.rec IOp (fun _ => Tr AV → AH → (Tr AV → AH → Option X) → Option X) (fun e H k => k e H) (fun o _ ih => regS F c o ih) l

variable (F : Facts) (ck : CallK X) (call : CallFn) (hc : ∀ f l H k, ck f l H k = (call f l H).bind (onto k))
include hc

theorem regK_eq (l : List IOp) : ∀ (e : Tr AV) (H : AH) (k : Tr AV → AH → Option X), regK F ck l e H k = (regA F call l e H).bind fun r => k r.1 r.2 := by
  induction l with
  | nil => intro e H k; rfl
  | cons o r ih =>
    intro e H k
    show wantK e o.guard (opK o.op F ck e H fun v H' => layK e o.dst v fun e' => regK F ck r e' H' k) (layK e o.dst (.tp []) fun e' => regK F ck r e' H k) = _
    rw [wantK_eq, opK_eq F ck call hc]
    simp only [regA]
    cases wantedA e o.guard with
    | none => rfl
    | some t =>
      cases t
      · show layK e o.dst (.tp []) _ = _
        rw [layK_eq]
        show _ = (match putE e o.dst (.tp []) with | some e' => regA F call r e' H | none => none : Option (Tr AV × AH)).bind _
        cases putE e o.dst (.tp []) with
        | none => rfl
        | some e' => exact ih e' H k
      · show _ = (match opA F call e H o.op with | some (v, H') => (match putE e o.dst v with | some e' => regA F call r e' H' | none => none) | none => none : Option (Tr AV × AH)).bind _
        cases opA F call e H o.op with
        | none => rfl
        | some q =>
          obtain ⟨v, H'⟩ := q
          show layK e o.dst v (fun e' => regK F ck r e' H' k) = (match putE e o.dst v with | some e' => regA F call r e' H' | none => none : Option (Tr AV × AH)).bind fun r => k r.1 r.2
          rw [layK_eq]
          cases putE e o.dst v with
          | none => rfl
          | some e' => exact ih e' H' k
omit hc

noncomputable def isPureF (o : K) : Bool :=
  @K.rec (fun _ => Bool) (fun _ => true) (fun _ _ _ => true) (fun _ _ => true) (fun _ => true) (fun _ _ _ => true) (fun _ _ _ => true) (fun _ _ _ _ => true) (fun _ _ _ _ => true) (fun _ _ => true) (fun _ _ => true) (fun _ _ => true) (fun _ _ => true) (fun _ _ _ _ _ => true) (fun _ _ _ _ _ _ => true)
    (fun _ _ => true) (fun _ _ _ => true) (fun _ _ _ _ => true) (fun _ _ _ _ _ => true) (fun _ _ _ _ => true) (fun _ _ => true) (fun _ => true) (fun _ => true) (fun _ => true) (fun _ _ _ => true) (fun _ _ => false) (fun _ _ => false) (fun _ _ => false) (fun _ _ _ _ _ => false) (fun _ _ _ _ _ _ => false)
    (fun _ _ _ _ _ => false) (fun _ _ _ => false) (fun _ _ _ => false) false (fun _ _ _ _ _ => false) (fun _ _ _ _ => false) (fun _ => false) (fun _ _ => false) (fun _ _ => false) true o
theorem isPureF_eq (o : K) : isPureF o = o.isPure := by cases o <;> rfl

noncomputable def memF (l : List Nat) (i : Nat) : Bool := @List.rec Nat (fun _ => Bool) false (fun j _ ih => br (Nat.beq i j) true ih) l
theorem memF_eq (i : Nat) (l : List Nat) : memF l i = l.contains i := by
  induction l with
  | nil => rfl
  | cons j r ih =>
    show br (Nat.beq i j) true (memF r i) = ((i == j) || r.contains i)
    rw [ih]
    have e : (i == j) = Nat.beq i j := by rw [Bool.eq_iff_iff, Nat.beq_eq, beq_iff_eq]
    rw [e]
    cases Nat.beq i j <;> rfl

noncomputable def spansF (anc : List Nat) (l : Spans) (r0 : List (Nat × Nat)) : List (Nat × Nat) :=
  @List.rec (Nat × Nat × Nat) (fun _ => List (Nat × Nat)) r0 (fun p _ ih => @Prod.rec Nat (Nat × Nat) (fun _ => List (Nat × Nat)) (fun i q => br (memF anc i) ih (q :: ih)) p) l
theorem spansF_eq (anc : List Nat) (r0 : List (Nat × Nat)) (l : Spans) : spansF anc l r0 = spansBut anc l ++ r0 := by
  induction l with
  | nil => rfl
  | cons p r ih =>
    obtain ⟨i, q⟩ := p
    show br (memF anc i) (spansF anc r r0) (q :: spansF anc r r0) = _
    rw [ih, memF_eq]
    simp only [spansBut]
    cases anc.contains i <;> rfl

abbrev KD (X : Type) := Tr AV → AH → Spans → Option X

noncomputable def monoK (F : Facts) (c : CallK X) (L : Lone) (i : Nat) (dst : Option Nat) (op : K) (anc : List Nat) (e : Tr AV) (H : AH) (sp : Spans) (k : KD X) : Option X :=
  @AH.rec (fun _ => Option X) (fun tr next low hid => opK op F c e ⟨tr, next, next, spansF anc sp (hidL next i anc L ++ hid)⟩ fun v H' =>
    @AH.rec (fun _ => Option X) (fun tr' next' _ _ => layK e dst v fun e' => br (Nat.beq next' next) (k e' ⟨tr', next', low, hid⟩ sp) (k e' ⟨tr', next', low, hid⟩ ((i, next, next') :: sp))) H') H

/-- A store that is not free. -/
def loneS (F : Facts) (L : Lone) (i : Nat) (dst : Option Nat) (op : K) (anc : List Nat) (e : Tr AV) (H : AH) (sp : Spans) (b : Nat) : Option (Tr AV × AH × Spans) :=
  match op with
  | .st n a x => match a.ev e with
    | .p b' _ =>
      if Nat.beq b' b && loneOk i anc b L && !(hidden (spansBut anc sp) b) then
        match opA F (fun _ _ _ => none) e H (.st n a x) with
        | some (v, H') => (putE e dst v).map fun e' => (e', H', sp)
        | none => none
      else none
    | _ => none
  | _ => none

noncomputable def drawS (F : Facts) (c : CallK X) (L : Lone) (i : Nat) (o : IOp) (e : Tr AV) (H : AH) (sp : Spans) (k : KD X) : Option X :=
  @IOp.rec (fun _ => Option X) (fun dst op guard anc free => wantK e guard
    (br (isPureF op) (opK op F c e H fun v _ => layK e dst v fun e' => k e' H sp)
      (br free (opK op F c e H fun v H' => layK e dst v fun e' => k e' H' [])
        (@Option.rec Nat (fun _ => Option X) (monoK F c L i dst op anc e H sp k) (fun b => optK (loneS F L i dst op anc e H sp b) none fun s => k s.1 s.2.1 s.2.2) (loneAt L i))))
    (layK e dst (.tp []) fun e' => k e' H sp)) o

noncomputable def drawK (F : Facts) (c : CallK X) (L : Lone) (l : List IOp) : Nat → KD X → KD X :=
  @List.rec IOp (fun _ => Nat → KD X → KD X) (fun _ k e H sp => k e H sp) (fun o _ ih i k e H sp => drawS F c L i o e H sp (ih (Nat.succ i) k)) l

noncomputable def stF (o : IOp) : Bool := @IOp.rec (fun _ => Bool) (fun _ op _ _ free => br free false (br (isPureF op) false (match op with | .st .. => true | _ => false))) o
noncomputable def anySt (l : List IOp) : Bool := @List.rec IOp (fun _ => Bool) false (fun o _ ih => br (stF o) true ih) l
noncomputable def scanK (F : Facts) (c : CallK X) (l : List IOp) : Nat → Tr AV → AH → (List (Nat × Nat) → Option X) → Option X :=
  @List.rec IOp (fun _ => Nat → Tr AV → AH → (List (Nat × Nat) → Option X) → Option X) (fun _ _ _ k => k []) (fun o _ ih i e H k =>
    wantK e o.guard (opK o.op F c e H fun v H' => layK e o.dst v fun e' => ih (Nat.succ i) e' H' fun l => k (stTo i o e ++ l)) (layK e o.dst (.tp []) fun e' => ih (Nat.succ i) e' H k)) l
noncomputable def loneK (F : Facts) (c : CallK X) (ops : List IOp) (e : Tr AV) (H : AH) (k : Lone → Option X) : Option X := br (anySt ops) (scanK F c ops Nat.zero e H fun l => k (attach ops l)) (k [])
theorem stF_eq (o : IOp) : stF o = o.isSt := by
  obtain ⟨d, op, g, an, f⟩ := o
  show br f false (br (isPureF op) false _) = _
  rw [isPureF_eq]
  unfold IOp.isSt
  cases f <;> cases op <;> rfl
theorem anySt_eq (ops : List IOp) : anySt ops = ops.any IOp.isSt := by
  induction ops with
  | nil => rfl
  | cons o r ih =>
    show br (stF o) true (anySt r) = _
    rw [ih, stF_eq, List.any_cons]
    cases o.isSt <;> rfl

include hc

theorem scanK_eq (l : List IOp) : ∀ (i : Nat) (e : Tr AV) (H : AH) (k : List (Nat × Nat) → Option X), scanK F ck l i e H k = (scanA F call i l e H).bind k := by
  induction l with
  | nil => intro i e H k; rfl
  | cons o r ih =>
    intro i e H k
    show wantK e o.guard (opK o.op F ck e H fun v H' => layK e o.dst v fun e' => scanK F ck r (Nat.succ i) e' H' fun l => k (stTo i o e ++ l)) (layK e o.dst (.tp []) fun e' => scanK F ck r (Nat.succ i) e' H k) = _
    rw [wantK_eq, opK_eq F ck call hc]
    simp only [scanA]
    cases wantedA e o.guard with
    | none => rfl
    | some t =>
      cases t
      · show layK e o.dst (.tp []) _ = (match putE e o.dst (.tp []) with | some e' => scanA F call (i + 1) r e' H | none => none : Option (List (Nat × Nat))).bind k
        rw [layK_eq]
        cases putE e o.dst (.tp []) with
        | none => rfl
        | some e' => exact ih (i + 1) e' H k
      · show _ = (match opA F call e H o.op with | some (v, H') => (match putE e o.dst v with | some e' => (scanA F call (i + 1) r e' H').map fun l => stTo i o e ++ l | none => none) | none => none : Option (List (Nat × Nat))).bind k
        cases opA F call e H o.op with
        | none => rfl
        | some q =>
          obtain ⟨v, H'⟩ := q
          show layK e o.dst v (fun e' => scanK F ck r (Nat.succ i) e' H' fun l => k (stTo i o e ++ l)) = (match putE e o.dst v with | some e' => (scanA F call (i + 1) r e' H').map fun l => stTo i o e ++ l | none => none : Option (List (Nat × Nat))).bind k
          rw [layK_eq]
          cases putE e o.dst v with
          | none => rfl
          | some e' =>
            show scanK F ck r (i + 1) e' H' (fun l => k (stTo i o e ++ l)) = ((scanA F call (i + 1) r e' H').map fun l => stTo i o e ++ l).bind k
            rw [ih]
            cases scanA F call (i + 1) r e' H' <;> rfl

theorem loneK_eq (ops : List IOp) (e : Tr AV) (H : AH) (k : Lone → Option X) : loneK F ck ops e H k = (loneD F call ops e H).bind k := by
  show br (anySt ops) (scanK F ck ops 0 e H fun l => k (attach ops l)) (k []) = _
  rw [anySt_eq, scanK_eq F ck call hc]
  unfold loneD
  cases ops.any IOp.isSt
  · rfl
  · show _ = ((scanA F call 0 ops e H).map (attach ops)).bind k
    cases scanA F call 0 ops e H <;> rfl

theorem drawS_eq (L : Lone) (i : Nat) (o : IOp) (e : Tr AV) (H : AH) (sp : Spans) (k : KD X) : drawS F ck L i o e H sp k = (stepD F call L i o (e, H, sp)).bind fun s => k s.1 s.2.1 s.2.2 := by
  have opp := opK_eq F ck call hc
  show wantK e o.guard (br (isPureF o.op) (opK o.op F ck e H fun v _ => layK e o.dst v fun e' => k e' H sp)
      (br o.free (opK o.op F ck e H fun v H' => layK e o.dst v fun e' => k e' H' [])
        (@Option.rec Nat (fun _ => Option X) (monoK F ck L i o.dst o.op o.anc e H sp k) (fun b => optK (loneS F L i o.dst o.op o.anc e H sp b) none fun s => k s.1 s.2.1 s.2.2) (loneAt L i))))
    (layK e o.dst (.tp []) fun e' => k e' H sp) = _
  rw [wantK_eq]
  simp only [stepD]
  cases wantedA e o.guard with
  | none => rfl
  | some t =>
    cases t
    · show layK e o.dst (.tp []) _ = ((putE e o.dst (.tp [])).map fun e' => (e', H, sp)).bind _
      rw [layK_eq]
      cases putE e o.dst (.tp []) <;> rfl
    · rw [isPureF_eq]
      cases hp : o.op.isPure
      · rw [br_f]
        cases hf : o.free
        · rw [br_f]
          cases hlo : loneAt L i with
          | some b =>
            show optK (loneS F L i o.dst o.op o.anc e H sp b) none (fun s => k s.1 s.2.1 s.2.2) = _
            rw [opt_bind]
            cases hop : o.op
            case st n a x => rfl
            all_goals rfl
          | none =>
            show opK o.op F ck e ⟨H.tr, H.next, H.next, spansF o.anc sp (hidL H.next i o.anc L ++ H.hid)⟩ (fun v H' => layK e o.dst v fun e' => br (Nat.beq H'.next H.next) (k e' ⟨H'.tr, H'.next, H.low, H.hid⟩ sp) (k e' ⟨H'.tr, H'.next, H.low, H.hid⟩ ((i, H.next, H'.next) :: sp))) =
              (match opA F call e { H with low := H.next, hid := spansBut o.anc sp ++ (hidL H.next i o.anc L ++ H.hid) } o.op with
                | some (v, H') => (putE e o.dst v).map fun e' => (e', { H' with low := H.low, hid := H.hid }, if Nat.beq H'.next H.next then sp else (i, H.next, H'.next) :: sp)
                | none => none : Option (Tr AV × AH × Spans)).bind _
            rw [opp, spansF_eq]
            cases opA F call e { H with low := H.next, hid := spansBut o.anc sp ++ (hidL H.next i o.anc L ++ H.hid) } o.op with
            | none => rfl
            | some q =>
              obtain ⟨v, H'⟩ := q
              show layK e o.dst v (fun e' => br (Nat.beq H'.next H.next) (k e' ⟨H'.tr, H'.next, H.low, H.hid⟩ sp) (k e' ⟨H'.tr, H'.next, H.low, H.hid⟩ ((i, H.next, H'.next) :: sp))) = ((putE e o.dst v).map fun e' => (e', ({ H' with low := H.low, hid := H.hid } : AH), if Nat.beq H'.next H.next then sp else (i, H.next, H'.next) :: sp)).bind fun s => k s.1 s.2.1 s.2.2
              rw [layK_eq]
              cases putE e o.dst v with
              | none => rfl
              | some e' =>
                show br (Nat.beq H'.next H.next) _ _ = k e' { H' with low := H.low, hid := H.hid } (if Nat.beq H'.next H.next then sp else (i, H.next, H'.next) :: sp)
                cases Nat.beq H'.next H.next <;> rfl
        · rw [br_t, opp]
          show _ = (match opA F call e H o.op with | some (v, H') => (putE e o.dst v).map fun e' => (e', H', ([] : Spans)) | none => none : Option (Tr AV × AH × Spans)).bind _
          cases opA F call e H o.op with
          | none => rfl
          | some q =>
            obtain ⟨v, H'⟩ := q
            show layK e o.dst v (fun e' => k e' H' []) = ((putE e o.dst v).map fun e' => (e', H', ([] : Spans))).bind fun s => k s.1 s.2.1 s.2.2
            rw [layK_eq]
            cases putE e o.dst v <;> rfl
      · rw [br_t, opp]
        have hop : opA F call e H o.op = (pureA F e o.op).map fun v => (v, H) := by
          cases h : o.op <;> rw [h] at hp <;> first | rfl | (cases hp)
        rw [hop]
        show _ = (match pureA F e o.op with | some v => (putE e o.dst v).map fun e' => (e', H, sp) | none => none : Option (Tr AV × AH × Spans)).bind _
        cases pureA F e o.op with
        | none => rfl
        | some v =>
          show layK e o.dst v (fun e' => k e' H sp) = ((putE e o.dst v).map fun e' => (e', H, sp)).bind fun s => k s.1 s.2.1 s.2.2
          rw [layK_eq]
          cases putE e o.dst v <;> rfl

theorem drawK_eq (L : Lone) (l : List IOp) : ∀ (i : Nat) (e : Tr AV) (H : AH) (sp : Spans) (k : KD X), drawK F ck L l i k e H sp = (foldD F call L i l (e, H, sp)).bind fun s => k s.1 s.2.1 s.2.2 := by
  induction l with
  | nil => intro i e H sp k; rfl
  | cons o r ih =>
    intro i e H sp k
    show drawS F ck L i o e H sp (drawK F ck L r (Nat.succ i) k) = _
    rw [drawS_eq F ck call hc]
    simp only [foldD]
    cases stepD F call L i o (e, H, sp) with
    | none => rfl
    | some s =>
      obtain ⟨e', H', sp'⟩ := s
      exact ih (i + 1) e' H' sp' k
omit hc

/-! Code. -/

abbrev KE (X : Type) := Ex → Tr AV → AH → Option X
abbrev Run (X : Type) := IC → Tr AV → AH → KE X → Option X

noncomputable def exK (ex : Ex) (n : Option X) (x : Nat → Option X) (r : Option X) : Option X := @Ex.rec (fun _ => Option X) n x r ex

noncomputable def rSkip : Run X → Tr AV → AH → KE X → Option X := fun _ e H k => k .normal e H
noncomputable def rReg (F : Facts) (c : CallK X) (ops : List IOp) : Run X → Tr AV → AH → KE X → Option X := fun _ e H k => regK F c ops e H fun e' H' => k .normal e' H'
noncomputable def rDraw (F : Facts) (c : CallK X) (ops : List IOp) : Run X → Tr AV → AH → KE X → Option X := fun _ e H k => br (Nat.ble H.low H.next) (loneK F c ops e H fun L => drawK F c L ops Nat.zero (fun e' H' _ => k .normal e' H') e H []) none
noncomputable def rSeq (a b : IC) : Run X → Tr AV → AH → KE X → Option X := fun run e H k => run a e H fun ex e' H' => exK ex (run b e' H' k) (fun i => k (.exit i) e' H') (k .ret e' H')
noncomputable def rCond (c : O) (a b : IC) : Run X → Tr AV → AH → KE X → Option X := fun run e H k => selB none (fun t => br t (run a e H k) (run b e H k)) (evF e c)
noncomputable def rBlock (id : Nat) (a : IC) : Run X → Tr AV → AH → KE X → Option X := fun run e H k => run a e H fun ex e' H' => exK ex (k .normal e' H') (fun i => br (Nat.beq i id) (k .normal e' H') (k (.exit i) e' H')) (k .ret e' H')
noncomputable def rLoop (a : IC) : Run X → Tr AV → AH → KE X → Option X := fun run e H k => run a e H fun ex e' H' => exK ex (run (.loop a) e' H' k) (fun i => k (.exit i) e' H') (k .ret e' H')
noncomputable def rScope (a : IC) : Run X → Tr AV → AH → KE X → Option X := fun run e H k => run a e H k
noncomputable def rExit (id : Nat) : Run X → Tr AV → AH → KE X → Option X := fun _ e H k => k (.exit id) e H
noncomputable def rRet : Run X → Tr AV → AH → KE X → Option X := fun _ e H k => k .ret e H
noncomputable def rBad : Run X → Tr AV → AH → KE X → Option X := fun _ _ _ _ => none

noncomputable def stepC (F : Facts) (c : CallK X) (run : Run X) (p : IC) : Tr AV → AH → KE X → Option X :=
  @IC.rec (fun _ => Run X → Tr AV → AH → KE X → Option X) rSkip (fun l => rReg F c l) (fun l => rDraw F c l) (fun a b _ _ => rSeq a b) (fun c a b _ _ => rCond c a b) (fun i a _ => rBlock i a) (fun a _ => rLoop a) (fun a _ => rScope a) rExit rRet rBad p run

noncomputable def codeK (F : Facts) (c : CallK X) (n : Nat) : Run X :=
  @Nat.rec (fun _ => Run X) (fun _ _ _ _ => none) (fun _ run p => stepC F c run p) n

include hc
theorem codeK_eq : ∀ (n : Nat) (p : IC) (e : Tr AV) (H : AH) (k : KE X), codeK F ck n p e H k = (codeA F call n p e H).bind fun r => k r.1 r.2.1 r.2.2 := by
  intro n
  induction n with
  | zero => intro p e H k; rfl
  | succ n ih =>
    intro p e H k
    cases p
    case skip => rfl
    case reg ops =>
      show regK F ck ops e H _ = ((regA F call ops e H).map fun r => (Ex.normal, r.1, r.2)).bind _
      rw [regK_eq F ck call hc]
      cases regA F call ops e H <;> rfl
    case draw ops =>
      show br (Nat.ble H.low H.next) (loneK F ck ops e H fun L => drawK F ck L ops Nat.zero (fun e' H' _ => k .normal e' H') e H []) none = (if Nat.ble H.low H.next = true then (match loneD F call ops e H with | some L => (foldD F call L 0 ops (e, H, [])).map fun r => (Ex.normal, r.1, r.2.1) | none => none) else none : Option (Ex × Tr AV × AH)).bind _
      rw [loneK_eq F ck call hc]
      cases Nat.ble H.low H.next
      · rfl
      · show _ = (match loneD F call ops e H with | some L => (foldD F call L 0 ops (e, H, [])).map fun r => (Ex.normal, r.1, r.2.1) | none => none : Option (Ex × Tr AV × AH)).bind _
        cases loneD F call ops e H with
        | none => rfl
        | some L =>
          show drawK F ck L ops Nat.zero (fun e' H' _ => k .normal e' H') e H [] = _
          rw [drawK_eq F ck call hc]
          show (foldD F call L 0 ops (e, H, [])).bind _ = ((foldD F call L 0 ops (e, H, [])).map fun r => (Ex.normal, r.1, r.2.1)).bind _
          cases foldD F call L 0 ops (e, H, []) <;> rfl
    case seq a b =>
      show codeK F ck n a e H _ = _
      rw [ih]
      simp only [codeA]
      cases codeA F call n a e H with
      | none => rfl
      | some r =>
        obtain ⟨ex, e', H'⟩ := r
        cases ex
        case normal => exact ih b e' H' k
        all_goals rfl
    case cond c a b =>
      show selB none (fun t => br t (codeK F ck n a e H k) (codeK F ck n b e H k)) (evF e c) = _
      rw [evF_eq]
      simp only [codeA]
      cases c.ev e
      case b t =>
        cases t
        · exact ih b e H k
        · exact ih a e H k
      all_goals rfl
    case block id a =>
      show codeK F ck n a e H _ = _
      rw [ih]
      simp only [codeA]
      cases codeA F call n a e H with
      | none => rfl
      | some r =>
        obtain ⟨ex, e', H'⟩ := r
        cases ex
        case exit i =>
          show br (Nat.beq i id) (k .normal e' H') (k (.exit i) e' H') = k (if Nat.beq i id = true then .normal else .exit i) e' H'
          cases Nat.beq i id <;> rfl
        all_goals rfl
    case loop a =>
      show codeK F ck n a e H _ = _
      rw [ih]
      simp only [codeA]
      cases codeA F call n a e H with
      | none => rfl
      | some r =>
        obtain ⟨ex, e', H'⟩ := r
        cases ex
        case normal => exact ih (.loop a) e' H' k
        all_goals rfl
    case scope a =>
      show codeK F ck n a e H k = _
      rw [ih]
      rfl
    all_goals rfl
omit hc

/-! Functions, calls. -/

noncomputable def argsK (l : List AV) : Nat → (Tr AV → Option X) → Option X :=
  @List.rec AV (fun _ => Nat → (Tr AV → Option X) → Option X) (fun _ k => k .l) (fun x _ ih i k => ih (Nat.succ i) fun e => layK e (some i) x k) l
theorem argsK_eq (l : List AV) : ∀ (i : Nat) (k : Tr AV → Option X), argsK l i k = (argsE i l).bind k := by
  induction l with
  | nil => intro i k; rfl
  | cons x r ih =>
    intro i k
    show argsK r (i + 1) (fun e => layK e (some i) x k) = _
    rw [ih]
    simp only [argsE]
    cases argsE (i + 1) r with
    | none => rfl
    | some e => exact layK_eq e (some i) x k

noncomputable def slotF (e : Tr AV) (t : Nat) : AV := optK (getF e t) .u fun v => v
theorem slotF_eq (e : Tr AV) (t : Nat) : slotF e t = (e.get t).getD .u := by
  unfold slotF
  rw [getF_eq]
  cases e.get t <;> rfl
noncomputable def oneResK (e : Tr AV) (H : AH) (x : IRes) (k : AV → Option X) : Option X :=
  @IRes.rec (fun _ => Option X) (fun i => k (slotF e i)) (fun i n => selP none (fun b o => rdK H b o n k) (slotF e i)) x
theorem oneResK_eq (e : Tr AV) (H : AH) (x : IRes) (k : AV → Option X) : oneResK e H x k = (oneRes e H x).bind k := by
  cases x with
  | t i => exact congrArg k (slotF_eq e i)
  | c i n =>
    show selP none (fun b o => rdK H b o n k) (slotF e i) = (match (e.get i).getD .u with | .p b o => H.rd b o n | _ => none : Option AV).bind k
    rw [slotF_eq]
    cases (e.get i).getD .u
    case p b o => exact rdK_eq H b o n k
    all_goals rfl

noncomputable def allResK (e : Tr AV) (H : AH) (l : List IRes) : (List AV → Option X) → Option X :=
  @List.rec IRes (fun _ => (List AV → Option X) → Option X) (fun k => k []) (fun x _ ih k => oneResK e H x fun v => ih fun r => k (v :: r)) l
theorem allResK_eq (e : Tr AV) (H : AH) (l : List IRes) : ∀ k : List AV → Option X, allResK e H l k = (allRes e H l).bind k := by
  induction l with
  | nil => intro k; rfl
  | cons x r ih =>
    intro k
    show oneResK e H x (fun v => allResK e H r fun r' => k (v :: r')) = _
    rw [oneResK_eq]
    simp only [allRes]
    cases oneRes e H x with
    | none => rfl
    | some v =>
      show allResK e H r (fun r' => k (v :: r')) = _
      rw [ih]
      cases allRes e H r <;> rfl

noncomputable def packF (l : List AV) : AV :=
  @List.rec AV (fun _ => AV) (.tp []) (fun v r _ => @List.rec AV (fun _ => AV) v (fun _ _ _ => .tp l) r) l
noncomputable def resK (e : Tr AV) (H : AH) (l : List IRes) (k : AV → Option X) : Option X := allResK e H l fun vs => avK (packF vs) k
theorem resK_eq (e : Tr AV) (H : AH) (l : List IRes) (k : AV → Option X) : resK e H l k = (resA e H l).bind k := by
  unfold resK resA
  rw [allResK_eq]
  cases allRes e H l with
  | none => rfl
  | some vs =>
    show avK (packF vs) k = _
    rw [avK_eq]
    match vs with
    | [] => rfl
    | [v] => rfl
    | v :: w :: r => rfl

noncomputable def runK (F : Facts) (c : CallK X) (n : Nat) (f : IFn) (args : List AV) (H : AH) (k : Kn X) : Option X :=
  @IFn.rec (fun _ => Option X) (fun body results slots => br (Nat.ble (lenF args) slots) (argsK args Nat.zero fun e => codeK F c n body e H fun ex e' H' =>
    exK ex (resK e' H' results fun v => k v H') (fun _ => none) (resK e' H' results fun v => k v H')) none) f

include hc
theorem runK_eq (n : Nat) (f : IFn) (args : List AV) (H : AH) (k : Kn X) : runK F ck n f args H k = (runFn F call n f args H).bind (onto k) := by
  show br (Nat.ble (lenF args) f.slots) (argsK args Nat.zero fun e => codeK F ck n f.body e H fun ex e' H' =>
    exK ex (resK e' H' f.results fun v => k v H') (fun _ => none) (resK e' H' f.results fun v => k v H')) none = _
  rw [lenF_eq, argsK_eq]
  have fin : ∀ (e' : Tr AV) (H' : AH), (resK e' H' f.results fun v => k v H') = (match resA e' H' f.results with | some v => some (v, H') | none => none : Option (AV × AH)).bind (onto k) := fun e' H' => by
    rw [resK_eq]
    cases resA e' H' f.results <;> rfl
  unfold runFn
  cases Nat.ble args.length f.slots
  · rfl
  · rw [br_t, if_pos rfl]
    show (argsE 0 args).bind _ = _
    cases argsE 0 args with
    | none => rfl
    | some e =>
      show codeK F ck n f.body e H _ = (match codeA F call n f.body e H with | some (.exit _, _, _) => none | some (_, e', H') => (match resA e' H' f.results with | some v => some (v, H') | none => none) | none => none : Option (AV × AH)).bind (onto k)
      rw [codeK_eq F ck call hc]
      cases codeA F call n f.body e H with
      | none => rfl
      | some r =>
        obtain ⟨ex, e', H'⟩ := r
        cases ex
        case normal => exact fin e' H'
        case exit i => rfl
        case ret => exact fin e' H'
omit hc

/-- A table: the functions by number. -/
noncomputable def callK (F : Facts) (tab : Tr IFn) (fuel : Nat) (d : Nat) : CallK X :=
  @Nat.rec (fun _ => CallK X) (fun _ _ _ _ => none) (fun _ c f args H k => optK (getF tab f) none fun fn => runK F c fuel fn args H k) d

theorem callK_eq (tab : Tr IFn) (fuel : Nat) : ∀ (d f : Nat) (args : List AV) (H : AH) (k : Kn X), callK F tab fuel d f args H k = (callA F (fun f => tab.get f) fuel d f args H).bind (onto k) := by
  intro d
  induction d with
  | zero => intro f args H k; rfl
  | succ d ih =>
    intro f args H k
    show optK (getF tab f) none (fun fn => runK F (callK F tab fuel d) fuel fn args H k) = _
    rw [getF_eq]
    simp only [callA]
    cases tab.get f with
    | none => rfl
    | some fn => exact runK_eq F (callK F tab fuel d) (callA F (fun f => tab.get f) fuel d) ih fuel fn args H k
end

/-- Does the call answer true? -/
noncomputable def trueK (F : Facts) (tab : Tr IFn) (fuel d f : Nat) (args : List AV) (H : AH) : Bool :=
  optK (callK (X := Bool) F tab fuel d f args H fun v _ => some (selB false (fun t => t) v)) false fun t => t

theorem trueK_says {F : Facts} {tab : Tr IFn} {fuel d f : Nat} {args : List AV} {H : AH} (h : trueK F tab fuel d f args H = true) : ∃ H', callA F (fun f => tab.get f) fuel d f args H = some (.b true, H') := by
  unfold trueK at h
  rw [callK_eq] at h
  cases hr : callA F (fun f => tab.get f) fuel d f args H with
  | none => rw [hr] at h; cases h
  | some r =>
    rw [hr] at h
    obtain ⟨v, H'⟩ := r
    have h' : selB false (fun t => t) v = true := h
    cases v
    case b t => exact ⟨H', by rw [show t = true from h']⟩
    all_goals cases h'

/-! Tables as trees. -/

def treeOf {α : Type} : List (Nat × α) → Tr α
  | [] => .l
  | p :: r => if Nat.blt p.1 room then Tr.put depth (treeOf r) p.1 (some p.2) else treeOf r

theorem treeOf_get {α : Type} : ∀ (l : List (Nat × α)) (b : Nat) (x : α), (treeOf l).get b = some x → (b, x) ∈ l := by
  intro l
  induction l with
  | nil => intro b x h; simp [treeOf, Tr.get] at h
  | cons p r ih =>
    intro b x h
    simp only [treeOf] at h
    split at h
    · rename_i hb
      simp only [Nat.blt_eq] at hb
      rw [Tr.get_put _ _ _ _ _ (by unfold room at hb; show p.1 + 1 < 2 ^ 24; omega)] at h
      split at h
      · rename_i e
        cases h
        subst e
        exact List.mem_cons_self
      · exact List.mem_cons_of_mem _ (ih b x h)
    · exact List.mem_cons_of_mem _ (ih b x h)

def RowsOk (P : Program) (l : List (Nat × IFn)) : Prop := ∀ f x, (f, x) ∈ l → ∃ fn, P.funcs[f]? = some fn ∧ cFn P fn = some x
theorem rows_nil {P : Program} : RowsOk P [] := fun f x h => by cases h
theorem rows_cons {P : Program} {f : Nat} {fn : Func} {x : IFn} {r : List (Nat × IFn)} (hf : P.funcs[f]? = some fn) (hx : cFn P fn = some x) (hr : RowsOk P r) : RowsOk P ((f, x) :: r) := by
  intro g y h
  rcases List.mem_cons.1 h with h | h
  · cases h
    exact ⟨fn, hf, hx⟩
  · exact hr g y h
theorem rows_tab {P : Program} {l : List (Nat × IFn)} {t : Tr IFn} (ht : t = treeOf l) (h : RowsOk P l) : TabOk P (fun f => t.get f) := by
  subst ht
  exact fun f x hx => h f x (treeOf_get l f x hx)

end Go.Sh
