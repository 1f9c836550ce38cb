/-
  THE SHADOW MACHINE, MADE QUICK: its operations. Own work.
-/
import Derived.Test.YtnlhpiieihnbiaaDoorShT
namespace Go.Sh

noncomputable def evF (e : Tr AV) (x : O) : AV := @O.rec (fun _ => AV) (fun i => optK (getF e i) .u fun v => v) (fun v => v) x
theorem evF_eq (e : Tr AV) (x : O) : evF e x = x.ev e := by
  cases x with
  | t i =>
    show optK (getF e i) .u (fun v => v) = (e.get i).getD .u
    rw [getF_eq]
    cases e.get i <;> rfl
  | k v => rfl

/-- What follows, on an answer. -/
abbrev Kn (X : Type) := AV → AH → Option X
def onto {X : Type} (k : Kn X) (r : AV × AH) : Option X := k r.1 r.2

abbrev CallK (X : Type) := Nat → List AV → AH → Kn X → Option X

section
variable {X : Type}

/-- One binary operation. -/
noncomputable def sameK (F : Facts) (op : BinOp) (ka : IntKind) (a : AI) (kb : IntKind) (b : AI) (k : AV → Option X) : Option X :=
  br (Nat.beq (kindF ka) (kindF kb)) (k (.i ka (mkEF F op ka a b))) none
noncomputable def quotK (F : Facts) (op : BinOp) (ka : IntKind) (a : AI) (kb : IntKind) (b : AI) (k : AV → Option X) : Option X :=
  br (Nat.beq (kindF ka) (kindF kb)) (selC none (fun n => br (eqF n 0) none (k (.i ka (mkEF F op ka a b)))) b) none
noncomputable def shiftK (F : Facts) (op : BinOp) (ka : IntKind) (a : AI) (_ : IntKind) (b : AI) (k : AV → Option X) : Option X :=
  selC none (fun n => br (ltF n 0) none (k (.i ka (mkEF F op ka a b)))) b
noncomputable def testK (F : Facts) (op : BinOp) (ka : IntKind) (a : AI) (kb : IntKind) (b : AI) (k : AV → Option X) : Option X :=
  br (Nat.beq (kindF ka) (kindF kb)) (cmpK F op a b fun t => k (.b t)) none

abbrev BinK (X : Type) := Facts → BinOp → IntKind → AI → IntKind → AI → (AV → Option X) → Option X
noncomputable def binK (F : Facts) (op : BinOp) (ka : IntKind) (a : AI) (kb : IntKind) (b : AI) (k : AV → Option X) : Option X :=
  @BinOp.rec (fun _ => BinK X) sameK sameK sameK quotK quotK sameK sameK sameK shiftK shiftK sameK testK testK testK testK testK testK op F op ka a kb b k

theorem sameK_eq (F : Facts) (op : BinOp) (ka : IntKind) (a : AI) (kb : IntKind) (b : AI) (k : AV → Option X) : sameK F op ka a kb b k = (if ka = kb then some (.i ka (mkE F op ka a b)) else none : Option AV).bind k := by
  unfold sameK
  rw [kindF_eq, br_if, mkEF_eq]
  by_cases h : ka = kb <;> simp [h]

theorem quotK_eq (F : Facts) (op : BinOp) (ka : IntKind) (a : AI) (kb : IntKind) (b : AI) (k : AV → Option X) :
    quotK F op ka a kb b k = (if ka = kb then (match b with | .c n => if n = 0 then none else some (.i ka (mkE F op ka a b)) | _ => none) else none : Option AV).bind k := by
  unfold quotK
  rw [kindF_eq, br_if, mkEF_eq]
  by_cases h : ka = kb
  · simp only [h, decide_true, if_true]
    cases b
    case c n =>
      show br (eqF n 0) none _ = _
      rw [eqF_eq, br_if]
      by_cases h0 : n = 0 <;> simp [h0]
    all_goals rfl
  · simp [h]

theorem shiftK_eq (F : Facts) (op : BinOp) (ka : IntKind) (a : AI) (kb : IntKind) (b : AI) (k : AV → Option X) :
    shiftK F op ka a kb b k = (match b with | .c n => if n < 0 then none else some (.i ka (mkE F op ka a b)) | _ => none : Option AV).bind k := by
  unfold shiftK
  cases b
  case c n =>
    show br (ltF n 0) none _ = _
    rw [ltF_eq, br_if, mkEF_eq]
    by_cases h0 : n < 0 <;> simp [h0]
  all_goals rfl

theorem testK_eq (F : Facts) (op : BinOp) (ka : IntKind) (a : AI) (kb : IntKind) (b : AI) (k : AV → Option X) :
    testK F op ka a kb b k = (if ka = kb then (cmpI F op a b).map .b else none : Option AV).bind k := by
  unfold testK
  rw [kindF_eq, br_if, cmpK_eq]
  by_cases h : ka = kb
  · simp only [h, decide_true, if_true]
    cases cmpI F op a b <;> rfl
  · simp [h]

theorem binK_eq (F : Facts) (op : BinOp) (ka : IntKind) (a : AI) (kb : IntKind) (b : AI) (k : AV → Option X) : binK F op ka a kb b k = (binA F op (.i ka a) (.i kb b)).bind k := by
  cases op
  case quo => exact quotK_eq _ _ _ _ _ _ _
  case rem => exact quotK_eq _ _ _ _ _ _ _
  case shl => exact shiftK_eq F _ ka a kb b k
  case shr => exact shiftK_eq F _ ka a kb b k
  case eql => exact testK_eq _ _ _ _ _ _ _
  case neq => exact testK_eq _ _ _ _ _ _ _
  case lss => exact testK_eq _ _ _ _ _ _ _
  case leq => exact testK_eq _ _ _ _ _ _ _
  case gtr => exact testK_eq _ _ _ _ _ _ _
  case geq => exact testK_eq _ _ _ _ _ _ _
  all_goals exact sameK_eq _ _ _ _ _ _ _

/-- The arms. Each: what it has, the facts, calls, the slots, the heap, what follows. -/
abbrev Arm (X : Type) := Facts → CallK X → Tr AV → AH → Kn X → Option X

noncomputable def aMv (x : O) : Arm X := fun _ _ e H k => k (evF e x) H
noncomputable def aPick (c a b : O) : Arm X := fun _ _ e H k => selB none (fun t => br t (k (evF e a) H) (k (evF e b) H)) (evF e c)
noncomputable def aNck (x : O) : Arm X := fun _ _ e H k => selK none (k (evF e x) H) (evF e x)
noncomputable def aBin (op : BinOp) (x y : O) : Arm X := fun F _ e H k => selI none (fun ka a => selI none (fun kb b => binK F op ka a kb b fun v => k v H) (evF e y)) (evF e x)
noncomputable def eqB (neg a b : Bool) : Bool := br neg (br a (br b false true) b) (br a b (br b false true))
noncomputable def aEqb (neg : Bool) (x y : O) : Arm X := fun _ _ e H k => selB none (fun a => selB none (fun b => k (.b (eqB neg a b)) H) (evF e y)) (evF e x)
noncomputable def aEqn (neg : Bool) (kind : Nat) (x y : O) : Arm X := fun _ _ e H k => optK (nilEq kind (evF e x) (evF e y)) none fun t => k (.b (t != neg)) H
noncomputable def aCv (d : IntKind) (x : O) : Arm X := fun F _ e H k => selI none (fun _ n => k (.i d (mkWF F d n)) H) (evF e x)
noncomputable def aIfc (t : Nat) (x : O) : Arm X := fun _ _ e H k => k (.ifc t (evF e x)) H
noncomputable def aFa (off : Nat) (x : O) : Arm X := fun _ _ e H k => selP none (fun b o => k (.p b (Nat.add o off)) H) (evF e x)
noncomputable def partK (n : Option Nat) (cs : List AV) (off : Nat) (k : AV → Option X) : Option X := @Option.rec Nat (fun _ => Option X) (optK (nthF cs off) none k) (fun m => optK (AV.part (some m) cs off) none k) n
noncomputable def aFl (off : Nat) (n : Option Nat) (x : O) : Arm X := fun _ _ e H k => selG none (fun cs => partK n cs off fun v => k v H) (evF e x)
noncomputable def aIa (size : Nat) (arr : Option Nat) (x i : O) : Arm X := fun _ _ e H k => selI none (fun _ j => selN none (fun j => @Option.rec Nat (fun _ => Option X)
    (selS none none (fun b o len _ => selN none (fun n => br (Nat.blt j n) (k (.p b (Nat.add o (Nat.mul j size))) H) none) len) (evF e x))
    (fun n => selP none (fun b o => br (Nat.blt j n) (k (.p b (Nat.add o (Nat.mul j size))) H) none) (evF e x)) arr) j) (evF e i)
noncomputable def aIx (n : Option Nat) (size len : Nat) (x i : O) : Arm X := fun _ _ e H k => selI none (fun _ j => selN none (fun j => selG none (fun cs => br (Nat.blt j len) (partK n cs (Nat.mul j size) fun v => k v H) none) (evF e x)) j) (evF e i)
noncomputable def aExt (x : O) (i : Nat) : Arm X := fun _ _ e H k => selT none (fun vs => optK (nthF vs i) none fun v => k v H) (evF e x)
noncomputable def aLen (x : O) : Arm X := fun _ _ e H k => selS none (k (.i .i64 (.c (.ofNat Nat.zero))) H) (fun _ _ n _ => k (.i .i64 n) H) (evF e x)
noncomputable def aLenk (n : Nat) : Arm X := fun _ _ _ H k => k (.i .i64 (.c (.ofNat n))) H
noncomputable def rdK (H : AH) (b o : Nat) (n : Option Nat) (k : AV → Option X) : Option X := optK (getH H b) none fun x => br (Nat.beq x.elem mapTag) none (partK n x.cells o k)
noncomputable def aLd (n : Option Nat) (a : O) : Arm X := fun _ _ e H k => selP none (fun b o => rdK H b o n fun v => k v H) (evF e a)
noncomputable def oneF (v : AV) : Bool :=
  @AV.rec (fun _ => Bool) (fun _ => Bool) false (fun _ => true) (fun _ _ => true) (fun _ => true) (fun _ => true) (fun _ _ => true) true (fun _ _ _ _ => true) true (fun _ => true) (fun _ _ _ => true) true (fun _ _ _ => true) true true (fun _ => true) (fun _ _ => false) (fun _ _ => false) true (fun _ _ _ _ => true) v
noncomputable def aSt (n : Nat) (a x : O) : Arm X := fun F _ e H k =>
  br (Nat.beq n 1) (avK (evF e x) fun v => br (oneF v) (selP none (fun b o => wr1K H b o v fun H' => k .u H') (evF e a)) (optK (opA F (fun _ _ _ => none) e H (.st n a x)) none fun r => k r.1 r.2))
    (optK (opA F (fun _ _ _ => none) e H (.st n a x)) none fun r => k r.1 r.2)
noncomputable def aAlloc (t : Nat) (z : List AV) : Arm X := fun _ _ _ H k => br (z.all AV.one) (br (Nat.beq t mapTag) none (allocK H ⟨z, t, true⟩ fun b H' => k (.p b 0) H')) none
noncomputable def aBox (t : Nat) (x : O) : Arm X := fun _ _ e H k => optK (evF e x).cells none fun cs => br (Nat.beq t mapTag) none (allocK H ⟨cs, t, true⟩ fun b H' => k (.p b 0) H')
noncomputable def aCall (f : Nat) (args : List O) : Arm X := fun _ c e H k => c f (mapF (evF e) args) H k
noncomputable def aCallv (x : O) (args : List O) : Arm X := fun _ c e H k => selF none (fun f caps => c f (catF (mapF (evF e) args) caps) H k) (evF e x)
/-- The rest, as ever. -/
noncomputable def aAny (o : K) : Arm X := fun F _ e H k => optK (opA F (fun _ _ _ => none) e H o) none fun r => k r.1 r.2

noncomputable def opK (o : K) : Arm X :=
  @K.rec (fun _ => Arm X) aMv aPick (fun z ps => aAny (.bld z ps)) aNck aBin aEqb aEqn (fun n l x y => aAny (.eqa n l x y)) (fun op x => aAny (.una op x)) aCv aIfc (fun f l => aAny (.mkf f l)) (fun s x a b c => aAny (.slc s x a b c)) (fun n s x a b c => aAny (.sla n s x a b c))
    aFa aFl aIa aIx (fun t z ok x => aAny (.tas t z ok x)) aExt aLen (fun x => aAny (.lens x)) aLenk (fun m x y => aAny (.mm m x y)) aLd aAlloc aBox (fun a b c d f => aAny (.bsl a b c d f)) (fun a b c d f g => aAny (.msl a b c d f g))
    (fun a b c x y => aAny (.app a b c x y)) aSt (fun n x y => aAny (.cpy n x y)) (aAny .mkm) (fun s z o m k => aAny (.lku s z o m k)) (fun s m k v => aAny (.mup s m k v)) (fun x => aAny (.bts x)) aCall aCallv (aAny .bad) o

theorem opt_bind {α β : Type} (x : Option α) (f : α → Option β) : optK x none f = x.bind f := optK_eq x f

theorem partK_eq (n : Option Nat) (cs : List AV) (off : Nat) (k : AV → Option X) : partK n cs off k = (AV.part n cs off).bind k := by
  cases n with
  | none =>
    show optK (nthF cs off) none k = _
    rw [nthF_eq, optK_eq]
    rfl
  | some m => exact optK_eq _ _

theorem rdK_eq (H : AH) (b o : Nat) (n : Option Nat) (k : AV → Option X) : rdK H b o n k = (H.rd b o n).bind k := by
  unfold rdK AH.rd
  rw [getH_eq]
  cases H.get b with
  | none => rfl
  | some x =>
    show br (Nat.beq x.elem mapTag) none (partK n x.cells o k) = (if Nat.beq x.elem mapTag = true then none else AV.part n x.cells o).bind k
    rw [partK_eq]
    cases Nat.beq x.elem mapTag <;> rfl

theorem eqB_eq (neg a b : Bool) : eqB neg a b = ((a == b) != neg) := by cases neg <;> cases a <;> cases b <;> rfl

theorem oneF_eq (v : AV) : oneF v = v.one := by cases v <;> rfl

theorem cells_one (v : AV) (h : v.one = true) : v.cells = some [v] := by
  cases v <;> first | rfl | (cases h)

theorem opK_eq (F : Facts) (ck : CallK X) (call : CallFn) (hc : ∀ f l H k, ck f l H k = (call f l H).bind (onto k)) (e : Tr AV) (H : AH) (k : Kn X) (o : K) : opK o F ck e H k = (opA F call e H o).bind (onto k) := by
  have any : ∀ o : K, (opA F (fun _ _ _ => none) e H o = opA F call e H o) → aAny o F ck e H k = (opA F call e H o).bind (onto k) := fun o h => by
    unfold aAny
    rw [h]
    exact optK_eq _ _
  have pur : ∀ (o : K) (x : Option AV), pureA F e o = x → (pureA F e o).map (fun v => (v, H)) = opA F call e H o → (opA F call e H o).bind (onto k) = x.bind (fun v => k v H) := fun o x h h' => by
    rw [← h', h]
    cases x <;> rfl
  cases o
  case mv x => exact (congrArg (fun v => k v H) (evF_eq e x)).trans (pur (.mv x) _ rfl rfl).symm
  case pick c a b =>
    refine Eq.trans ?_ (pur (.pick c a b) _ rfl rfl).symm
    show selB none (fun t => br t (k (evF e a) H) (k (evF e b) H)) (evF e c) = (match c.ev e with | .b t => some (if t then a.ev e else b.ev e) | _ => none : Option AV).bind _
    rw [evF_eq, evF_eq, evF_eq]
    cases c.ev e
    case b t => cases t <;> rfl
    all_goals rfl
  case nck x =>
    refine Eq.trans ?_ (pur (.nck x) _ rfl rfl).symm
    show selK none (k (evF e x) H) (evF e x) = (match x.ev e with | .p a b => some (.p a b) | .ifc t v => some (.ifc t v) | .fn f c => some (.fn f c) | _ => none : Option AV).bind _
    rw [evF_eq]
    cases x.ev e <;> rfl
  case bin op x y =>
    refine Eq.trans ?_ (pur (.bin op x y) _ rfl rfl).symm
    show selI none (fun ka a => selI none (fun kb b => binK F op ka a kb b fun v => k v H) (evF e y)) (evF e x) = (binA F op (x.ev e) (y.ev e)).bind _
    rw [evF_eq, evF_eq]
    cases x.ev e
    case i ka a =>
      cases y.ev e
      case i kb b => exact binK_eq _ _ _ _ _ _ _
      all_goals rfl
    all_goals rfl
  case eqb neg x y =>
    refine Eq.trans ?_ (pur (.eqb neg x y) _ rfl rfl).symm
    show selB none (fun a => selB none (fun b => k (.b (eqB neg a b)) H) (evF e y)) (evF e x) = (match x.ev e, y.ev e with | .b a, .b b => some (.b ((a == b) != neg)) | _, _ => none : Option AV).bind _
    rw [evF_eq, evF_eq]
    cases x.ev e
    case b a =>
      cases y.ev e
      case b b => exact congrArg (fun t => k (.b t) H) (eqB_eq neg a b)
      all_goals rfl
    all_goals rfl
  case eqn neg kind x y =>
    refine Eq.trans ?_ (pur (.eqn neg kind x y) _ rfl rfl).symm
    show optK (nilEq kind (evF e x) (evF e y)) none _ = ((nilEq kind (x.ev e) (y.ev e)).map fun t => AV.b (t != neg)).bind _
    rw [evF_eq, evF_eq]
    cases nilEq kind (x.ev e) (y.ev e) <;> rfl
  case cv d x =>
    refine Eq.trans ?_ (pur (.cv d x) _ rfl rfl).symm
    show selI none (fun _ n => k (.i d (mkWF F d n)) H) (evF e x) = (match x.ev e with | .i _ n => some (.i d (mkW F d n)) | _ => none : Option AV).bind _
    rw [evF_eq]
    cases x.ev e
    case i c n => exact congrArg (fun t => k (.i d t) H) (mkWF_eq F d n)
    all_goals rfl
  case ifc t x =>
    refine Eq.trans ?_ (pur (.ifc t x) _ rfl rfl).symm
    exact congrArg (fun v => k (.ifc t v) H) (evF_eq e x)
  case fa off x =>
    refine Eq.trans ?_ (pur (.fa off x) _ rfl rfl).symm
    show selP none (fun b o => k (.p b (Nat.add o off)) H) (evF e x) = (match x.ev e with | .p b o => some (.p b (o + off)) | _ => none : Option AV).bind _
    rw [evF_eq]
    cases x.ev e <;> rfl
  case fl off n x =>
    refine Eq.trans ?_ (pur (.fl off n x) _ rfl rfl).symm
    show selG none (fun cs => partK n cs off fun v => k v H) (evF e x) = (match x.ev e with | .ag cs => AV.part n cs off | _ => none : Option AV).bind _
    rw [evF_eq]
    cases x.ev e
    case ag cs => exact partK_eq _ _ _ _
    all_goals rfl
  case ia size arr x i =>
    refine Eq.trans ?_ (pur (.ia size arr x i) _ rfl rfl).symm
    show selI none (fun _ j => selN none (fun j => @Option.rec Nat (fun _ => Option X)
      (selS none none (fun b o len _ => selN none (fun n => br (Nat.blt j n) (k (.p b (Nat.add o (Nat.mul j size))) H) none) len) (evF e x))
      (fun n => selP none (fun b o => br (Nat.blt j n) (k (.p b (Nat.add o (Nat.mul j size))) H) none) (evF e x)) arr) j) (evF e i) =
      (match asNat (i.ev e), arr, x.ev e with
        | some j, some n, .p b o => if Nat.blt j n then some (.p b (o + j * size)) else none
        | some j, none, .sl b o (.c (.ofNat n)) _ => if Nat.blt j n then some (.p b (o + j * size)) else none
        | _, _, _ => none : Option AV).bind _
    rw [evF_eq, evF_eq]
    cases i.ev e
    case i d j =>
      cases j
      case c j =>
        cases j
        case ofNat j =>
          cases arr with
          | none =>
            cases x.ev e
            case sl b o len cap =>
              cases len
              case c n =>
                cases n
                case ofNat n =>
                  show br (Nat.blt j n) (k (.p b (o + j * size)) H) none = (if Nat.blt j n = true then some (AV.p b (o + j * size)) else none).bind _
                  cases Nat.blt j n <;> rfl
                case negSucc n => rfl
              all_goals rfl
            all_goals rfl
          | some n =>
            cases x.ev e
            case p b o =>
              show br (Nat.blt j n) (k (.p b (o + j * size)) H) none = (if Nat.blt j n = true then some (AV.p b (o + j * size)) else none).bind _
              cases Nat.blt j n <;> rfl
            all_goals rfl
        case negSucc j => cases arr <;> cases x.ev e <;> rfl
      all_goals (cases arr <;> cases x.ev e <;> rfl)
    all_goals (cases arr <;> cases x.ev e <;> rfl)
  case ix n size len x i =>
    refine Eq.trans ?_ (pur (.ix n size len x i) _ rfl rfl).symm
    show selI none (fun _ j => selN none (fun j => selG none (fun cs => br (Nat.blt j len) (partK n cs (Nat.mul j size) fun v => k v H) none) (evF e x)) j) (evF e i) =
      (match asNat (i.ev e), x.ev e with
        | some j, .ag cs => if Nat.blt j len then AV.part n cs (j * size) else none
        | _, _ => none : Option AV).bind _
    rw [evF_eq, evF_eq]
    cases i.ev e
    case i d j =>
      cases j
      case c j =>
        cases j
        case ofNat j =>
          cases x.ev e
          case ag cs =>
            show br (Nat.blt j len) (partK n cs (j * size) fun v => k v H) none = (if Nat.blt j len = true then AV.part n cs (j * size) else none).bind _
            rw [partK_eq]
            cases Nat.blt j len <;> rfl
          all_goals rfl
        case negSucc j => rfl
      all_goals rfl
    all_goals rfl
  case ext x i =>
    refine Eq.trans ?_ (pur (.ext x i) _ rfl rfl).symm
    show selT none (fun vs => optK (nthF vs i) none fun v => k v H) (evF e x) = (match x.ev e with | .tp vs => vs[i]? | _ => none : Option AV).bind _
    rw [evF_eq]
    cases x.ev e
    case tp vs => show optK (nthF vs i) none _ = _; rw [nthF_eq, optK_eq]
    all_goals rfl
  case len x =>
    refine Eq.trans ?_ (pur (.len x) _ rfl rfl).symm
    show selS none (k (.i .i64 (.c (.ofNat Nat.zero))) H) (fun _ _ n _ => k (.i .i64 n) H) (evF e x) = (match x.ev e with | .sl _ _ n _ => some (.i .i64 n) | .nsl | .sle _ => some (.i .i64 (.c 0)) | _ => none : Option AV).bind _
    rw [evF_eq]
    cases x.ev e <;> rfl
  case lenk n => rfl
  case ld n a =>
    show selP none (fun b o => rdK H b o n fun v => k v H) (evF e a) = (match a.ev e with | .p b o => (H.rd b o n).map fun v => (v, H) | _ => none : Option (AV × AH)).bind _
    rw [evF_eq]
    cases a.ev e
    case p b o =>
      show optK (getH H b) none (fun x => br (Nat.beq x.elem mapTag) none (partK n x.cells o fun v => k v H)) = ((H.rd b o n).map fun v => (v, H)).bind (onto k)
      rw [getH_eq]
      unfold AH.rd
      cases H.get b with
      | none => rfl
      | some x =>
        show br (Nat.beq x.elem mapTag) none (partK n x.cells o fun v => k v H) = ((if Nat.beq x.elem mapTag = true then none else AV.part n x.cells o).map fun v => (v, H)).bind (onto k)
        rw [partK_eq]
        cases Nat.beq x.elem mapTag
        · cases AV.part n x.cells o <;> rfl
        · rfl
    all_goals rfl
  case st n a x =>
    have back : (optK (opA F (fun _ _ _ => none) e H (.st n a x)) none fun r => k r.1 r.2) = (opA F call e H (.st n a x)).bind (onto k) := any (.st n a x) rfl
    show br (Nat.beq n 1) (avK (evF e x) fun v => br (oneF v) (selP none (fun b o => wr1K H b o v fun H' => k .u H') (evF e a)) (optK (opA F (fun _ _ _ => none) e H (.st n a x)) none fun r => k r.1 r.2)) (optK (opA F (fun _ _ _ => none) e H (.st n a x)) none fun r => k r.1 r.2) = _
    rw [back]
    cases h1 : Nat.beq n 1
    · rfl
    · have hn : n = 1 := Nat.eq_of_beq_eq_true h1
      subst hn
      rw [br_t, avK_eq, oneF_eq, evF_eq, evF_eq]
      cases h2 : (x.ev e).one
      · rfl
      · rw [br_t]
        have hcs := cells_one _ h2
        show _ = (match a.ev e, (x.ev e).cells with | .p b o, some cs => if Nat.beq cs.length 1 then (H.wr b o cs).map fun H' => (AV.u, H') else none | _, _ => none : Option (AV × AH)).bind (onto k)
        rw [hcs]
        cases a.ev e
        case p b o =>
          show wr1K H b o (x.ev e) (fun H' => k .u H') = ((H.wr b o [x.ev e]).map fun H' => (AV.u, H')).bind (onto k)
          rw [wr1K_eq _ _ _ _ _ h2]
          cases H.wr b o [x.ev e] <;> rfl
        all_goals rfl
  case alloc t z =>
    show br (z.all AV.one) (br (Nat.beq t mapTag) none (allocK H ⟨z, t, true⟩ fun b H' => k (.p b 0) H')) none = (if z.all AV.one = true then (newRowA H t z).map fun r => (AV.p r.1 0, r.2) else none : Option (AV × AH)).bind (onto k)
    rw [allocK_eq]
    unfold newRowA
    cases z.all AV.one
    · rfl
    · cases Nat.beq t mapTag
      · show _ = ((H.alloc ⟨z, t, true⟩).map fun r => (AV.p r.1 0, r.2)).bind (onto k)
        cases H.alloc ⟨z, t, true⟩ <;> rfl
      · rfl
  case box t x =>
    show optK (evF e x).cells none (fun cs => br (Nat.beq t mapTag) none (allocK H ⟨cs, t, true⟩ fun b H' => k (.p b 0) H')) = (match (x.ev e).cells with | some cs => (newRowA H t cs).map fun r => (AV.p r.1 0, r.2) | none => none : Option (AV × AH)).bind (onto k)
    rw [evF_eq]
    cases (x.ev e).cells with
    | none => rfl
    | some cs =>
      show br (Nat.beq t mapTag) none (allocK H ⟨cs, t, true⟩ fun b H' => k (.p b 0) H') = ((if Nat.beq t mapTag = true then none else H.alloc ⟨cs, t, true⟩).map fun r => (AV.p r.1 0, r.2)).bind (onto k)
      rw [allocK_eq]
      cases Nat.beq t mapTag
      · cases H.alloc ⟨cs, t, true⟩ <;> rfl
      · rfl
  case call f args =>
    show ck f (mapF (evF e) args) H k = (call f (args.map (O.ev e)) H).bind (onto k)
    rw [hc, mapF_eq, funext (evF_eq e)]
  case callv x args =>
    show selF none (fun f caps => ck f (catF (mapF (evF e) args) caps) H k) (evF e x) = (match x.ev e with | .fn f caps => call f (args.map (O.ev e) ++ caps) H | _ => none : Option (AV × AH)).bind (onto k)
    rw [evF_eq]
    cases x.ev e
    case fn f caps =>
      show ck f (catF (mapF (evF e) args) caps) H k = _
      rw [hc, mapF_eq, catF_eq, funext (evF_eq e)]
    all_goals rfl
  all_goals exact any _ rfl
end
end Go.Sh
