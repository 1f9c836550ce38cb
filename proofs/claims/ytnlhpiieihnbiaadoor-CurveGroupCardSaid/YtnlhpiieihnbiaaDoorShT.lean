/-
  THE SHADOW MACHINE, MADE QUICK: values, numbers, the heap; all that follows is handed on to, and is handed what is known. Own work.
-/
import Derived.Test.YtnlhpiieihnbiaaDoorShS
namespace Go.Sh

/-! Values. -/

section
variable {R : Type}

noncomputable def natK (m : Nat) (k : Nat → R) : R := @Nat.rec (fun _ => R) (k Nat.zero) (fun p _ => k (Nat.succ p)) m
theorem natK_eq (m : Nat) (k : Nat → R) : natK m k = k m := by cases m <;> rfl

noncomputable def intK (n : Int) (k : Int → R) : R := @Int.rec (fun _ => R) (fun m => natK m fun m => k (.ofNat m)) (fun m => natK m fun m => k (.negSucc m)) n
theorem intK_eq (n : Int) (k : Int → R) : intK n k = k n := by
  cases n with
  | ofNat m => exact natK_eq m fun m => k (.ofNat m)
  | negSucc m => exact natK_eq m fun m => k (.negSucc m)

noncomputable def aiK (n : AI) (k : AI → R) : R := @AI.rec (fun _ => R) (fun c => intK c fun c => k (.c c)) (fun s => k (.s s)) (fun o d x y _ _ => k (.e o d x y)) (fun d x _ => k (.w d x)) n
theorem aiK_eq (n : AI) (k : AI → R) : aiK n k = k n := by
  cases n
  case c m => exact intK_eq m fun m => k (.c m)
  all_goals rfl

noncomputable def boolK (b : Bool) (k : Bool → R) : R := @Bool.rec (fun _ => R) (k false) (k true) b
theorem boolK_eq (b : Bool) (k : Bool → R) : boolK b k = k b := by cases b <;> rfl

noncomputable def avK (v : AV) (k : AV → R) : R :=
  @AV.rec (fun _ => R) (fun _ => R) (k .u) (fun x => boolK x fun x => k (.b x)) (fun d n => aiK n fun n => k (.i d n)) (fun s => k (.str s)) (fun l => k (.bs l)) (fun b o => natK b fun b => natK o fun o => k (.p b o)) (k .np)
    (fun b o n c => natK b fun b => natK o fun o => aiK n fun n => k (.sl b o n c)) (k .nsl) (fun z => k (.sle z)) (fun f l _ => k (.fn f l)) (k .nfn) (fun t x _ => k (.ifc t x)) (k .nif) (k .nmp) (fun b => natK b fun b => k (.mp b)) (fun l _ => k (.ag l)) (fun l _ => k (.tp l)) (k .u) (fun _ _ _ _ => k .u) v
theorem avK_eq (v : AV) (k : AV → R) : avK v k = k v := by
  cases v
  case b x => exact boolK_eq x fun x => k (.b x)
  case i d n => exact aiK_eq n fun n => k (.i d n)
  case p b o =>
    have e : avK (.p b o) k = natK b fun b => natK o fun o => k (.p b o) := rfl
    rw [e, natK_eq, natK_eq]
  case mp b => exact natK_eq b fun b => k (.mp b)
  case sl b o n c =>
    have e : avK (.sl b o n c) k = natK b fun b => natK o fun o => aiK n fun n => k (.sl b o n c) := rfl
    rw [e, natK_eq, natK_eq, aiK_eq]
  all_goals rfl

noncomputable def selB (d : R) (f : Bool → R) (v : AV) : R :=
  @AV.rec (fun _ => R) (fun _ => R) d f (fun _ _ => d) (fun _ => d) (fun _ => d) (fun _ _ => d) d (fun _ _ _ _ => d) d (fun _ => d) (fun _ _ _ => d) d (fun _ _ _ => d) d d (fun _ => d) (fun _ _ => d) (fun _ _ => d) d (fun _ _ _ _ => d) v
noncomputable def selI (d : R) (f : IntKind → AI → R) (v : AV) : R :=
  @AV.rec (fun _ => R) (fun _ => R) d (fun _ => d) f (fun _ => d) (fun _ => d) (fun _ _ => d) d (fun _ _ _ _ => d) d (fun _ => d) (fun _ _ _ => d) d (fun _ _ _ => d) d d (fun _ => d) (fun _ _ => d) (fun _ _ => d) d (fun _ _ _ _ => d) v
noncomputable def selP (d : R) (f : Nat → Nat → R) (v : AV) : R :=
  @AV.rec (fun _ => R) (fun _ => R) d (fun _ => d) (fun _ _ => d) (fun _ => d) (fun _ => d) f d (fun _ _ _ _ => d) d (fun _ => d) (fun _ _ _ => d) d (fun _ _ _ => d) d d (fun _ => d) (fun _ _ => d) (fun _ _ => d) d (fun _ _ _ _ => d) v
noncomputable def selS (d z : R) (f : Nat → Nat → AI → Cap → R) (v : AV) : R :=
  @AV.rec (fun _ => R) (fun _ => R) d (fun _ => d) (fun _ _ => d) (fun _ => d) (fun _ => d) (fun _ _ => d) d f z (fun _ => z) (fun _ _ _ => d) d (fun _ _ _ => d) d d (fun _ => d) (fun _ _ => d) (fun _ _ => d) d (fun _ _ _ _ => d) v
noncomputable def selG (d : R) (f : List AV → R) (v : AV) : R :=
  @AV.rec (fun _ => R) (fun _ => R) d (fun _ => d) (fun _ _ => d) (fun _ => d) (fun _ => d) (fun _ _ => d) d (fun _ _ _ _ => d) d (fun _ => d) (fun _ _ _ => d) d (fun _ _ _ => d) d d (fun _ => d) (fun l _ => f l) (fun _ _ => d) d (fun _ _ _ _ => d) v
noncomputable def selT (d : R) (f : List AV → R) (v : AV) : R :=
  @AV.rec (fun _ => R) (fun _ => R) d (fun _ => d) (fun _ _ => d) (fun _ => d) (fun _ => d) (fun _ _ => d) d (fun _ _ _ _ => d) d (fun _ => d) (fun _ _ _ => d) d (fun _ _ _ => d) d d (fun _ => d) (fun _ _ => d) (fun l _ => f l) d (fun _ _ _ _ => d) v
noncomputable def selF (d : R) (f : Nat → List AV → R) (v : AV) : R :=
  @AV.rec (fun _ => R) (fun _ => R) d (fun _ => d) (fun _ _ => d) (fun _ => d) (fun _ => d) (fun _ _ => d) d (fun _ _ _ _ => d) d (fun _ => d) (fun g l _ => f g l) d (fun _ _ _ => d) d d (fun _ => d) (fun _ _ => d) (fun _ _ => d) d (fun _ _ _ _ => d) v
noncomputable def selK (d z : R) (v : AV) : R :=
  @AV.rec (fun _ => R) (fun _ => R) d (fun _ => d) (fun _ _ => d) (fun _ => d) (fun _ => d) (fun _ _ => z) d (fun _ _ _ _ => d) d (fun _ => d) (fun _ _ _ => z) d (fun _ _ _ => z) d d (fun _ => d) (fun _ _ => d) (fun _ _ => d) d (fun _ _ _ _ => d) v

noncomputable def selM (d z : R) (f : Nat → R) (v : AV) : R :=
  @AV.rec (fun _ => R) (fun _ => R) d (fun _ => d) (fun _ _ => d) (fun _ => d) (fun _ => d) (fun _ _ => d) d (fun _ _ _ _ => d) d (fun _ => d) (fun _ _ _ => d) d (fun _ _ _ => d) d z f (fun _ _ => d) (fun _ _ => d) d (fun _ _ _ _ => d) v

noncomputable def optK {α : Type} (x : Option α) (d : R) (k : α → R) : R := @Option.rec α (fun _ => R) d k x
theorem optK_eq {α β : Type} (x : Option α) (k : α → Option β) : optK x none k = x.bind k := by cases x <;> rfl

noncomputable def selN (d : R) (f : Nat → R) (n : AI) : R :=
  @AI.rec (fun _ => R) (fun c => @Int.rec (fun _ => R) f (fun _ => d) c) (fun _ => d) (fun _ _ _ _ _ _ => d) (fun _ _ _ => d) n
noncomputable def selC (d : R) (f : Int → R) (n : AI) : R := @AI.rec (fun _ => R) f (fun _ => d) (fun _ _ _ _ _ _ => d) (fun _ _ _ => d) n
end

/-! Lists. -/

noncomputable def nthF (l : List AV) : Nat → Option AV :=
  @List.rec AV (fun _ => Nat → Option AV) (fun _ => none) (fun a _ ih i => @Nat.rec (fun _ => Option AV) (some a) (fun j _ => ih j) i) l
theorem nthF_eq (l : List AV) : ∀ i, nthF l i = l[i]? := by
  induction l with
  | nil => intro i; simp; rfl
  | cons a t ih =>
    intro i
    cases i with
    | zero => rfl
    | succ j => exact (ih j).trans (by simp)

noncomputable def lenF {α : Type} (l : List α) : Nat := @List.rec α (fun _ => Nat) Nat.zero (fun _ _ ih => Nat.succ ih) l
theorem lenF_eq {α : Type} (l : List α) : lenF l = l.length := by
  induction l with
  | nil => rfl
  | cons a t ih => exact congrArg Nat.succ ih

noncomputable def mapF {α β : Type} (f : α → β) (l : List α) : List β := @List.rec α (fun _ => List β) [] (fun a _ ih => f a :: ih) l
theorem mapF_eq {α β : Type} (f : α → β) (l : List α) : mapF f l = l.map f := by
  induction l with
  | nil => rfl
  | cons a t ih => exact congrArg (f a :: ·) ih

noncomputable def catF {α : Type} (l r : List α) : List α := @List.rec α (fun _ => List α) r (fun a _ ih => a :: ih) l
theorem catF_eq {α : Type} (l r : List α) : catF l r = l ++ r := by
  induction l with
  | nil => rfl
  | cons a t ih => exact congrArg (a :: ·) ih

section
variable {R : Type}

/-- One place of a list is laid anew. -/
noncomputable def setK (l : List AV) (v : AV) : Nat → (List AV → R) → R :=
  @List.rec AV (fun _ => Nat → (List AV → R) → R) (fun _ k => k []) (fun a t ih i k => @Nat.rec (fun _ => R) (k (v :: t)) (fun j _ => ih j fun t' => k (a :: t')) i) l
theorem setK_eq (v : AV) (l : List AV) : ∀ (i : Nat) (k : List AV → R), i < l.length → setK l v i k = k (splice l i [v]) := by
  induction l with
  | nil => intro i k h; simp at h
  | cons a t ih =>
    intro i k h
    cases i with
    | zero => simp only [splice, List.take_zero, List.nil_append, List.length_cons, List.length_nil, Nat.zero_add, List.drop_succ_cons, List.drop_zero, List.cons_append]; rfl
    | succ j =>
      have e : setK (R := R) (a :: t) v (j + 1) k = setK t v j (fun t' => k (a :: t')) := rfl
      rw [e, ih j _ (by simpa using h)]
      simp only [splice, List.take_succ_cons, List.cons_append, List.length_cons, List.length_nil, Nat.zero_add, List.drop_succ_cons]

noncomputable def putKN {α : Type} (x : Option α) (a : Tr α) (v : Option α) (b : Tr α) (pa pb : Nat → (Tr α → R) → R) (i : Nat) (k : Tr α → R) : R :=
  br (Nat.beq i 0) (k (.n a x b)) (br (Nat.beq (Nat.mod i 2) 1) (pa (Nat.div i 2) fun a' => k (.n a' v b)) (pb (Nat.pred (Nat.div i 2)) fun b' => k (.n a v b')))

noncomputable def putKZ {α : Type} (x : Option α) (ih : Nat → (Tr α → R) → R) (i : Nat) (k : Tr α → R) : R :=
  br (Nat.beq i 0) (k (.n .l x .l)) (br (Nat.beq (Nat.mod i 2) 1) (ih (Nat.div i 2) fun a => k (.n a none .l)) (ih (Nat.pred (Nat.div i 2)) fun b => k (.n .l none b)))

noncomputable def putK0 {α : Type} (x : Option α) (f : Nat) : Nat → (Tr α → R) → R :=
  @Nat.rec (fun _ => Nat → (Tr α → R) → R) (fun _ k => k .l) (fun _ ih => putKZ x ih) f

noncomputable def putK {α : Type} (t : Tr α) (x : Option α) : Nat → (Tr α → R) → R :=
  @Tr.rec α (fun _ => Nat → (Tr α → R) → R) (putK0 x 24) (fun a v b pa pb => putKN x a v b pa pb) t

theorem putK0_eq {α : Type} (x : Option α) : ∀ (f i : Nat) (k : Tr α → R), putK0 x f i k = k (putF0 x f i) := by
  intro f
  induction f with
  | zero => intro i k; rfl
  | succ f ih =>
    intro i k
    have e : putK0 x (f + 1) i k = br (Nat.beq i 0) (k (.n .l x .l)) (br (Nat.beq (Nat.mod i 2) 1) (putK0 x f (Nat.div i 2) fun a => k (.n a none .l)) (putK0 x f (Nat.pred (Nat.div i 2)) fun b => k (.n .l none b))) := rfl
    have e' : putF0 x (f + 1) i = br (Nat.beq i 0) (.n .l x .l) (br (Nat.beq (Nat.mod i 2) 1) (.n (putF0 x f (Nat.div i 2)) none .l) (.n .l none (putF0 x f (Nat.pred (Nat.div i 2))))) := rfl
    rw [e, e', ih, ih]
    cases Nat.beq i 0 <;> cases Nat.beq (Nat.mod i 2) 1 <;> rfl

theorem putK_eq {α : Type} (x : Option α) (t : Tr α) : ∀ (i : Nat) (k : Tr α → R), putK t x i k = k (putF t x i) := by
  induction t with
  | l => intro i k; exact putK0_eq x 24 i k
  | n a v b iha ihb =>
    intro i k
    have e : putK (.n a v b) x i k = br (Nat.beq i 0) (k (.n a x b)) (br (Nat.beq (Nat.mod i 2) 1) (putK a x (Nat.div i 2) fun a' => k (.n a' v b)) (putK b x (Nat.pred (Nat.div i 2)) fun b' => k (.n a v b'))) := rfl
    have e' : putF (.n a v b) x i = br (Nat.beq i 0) (.n a x b) (br (Nat.beq (Nat.mod i 2) 1) (.n (putF a x (Nat.div i 2)) v b) (.n a v (putF b x (Nat.pred (Nat.div i 2))))) := rfl
    rw [e, e', iha, ihb]
    cases Nat.beq i 0 <;> cases Nat.beq (Nat.mod i 2) 1 <;> rfl

theorem put_eq {α : Type} (t : Tr α) (x : Option α) (i : Nat) (h : Nat.blt i room = true) : putF t x i = Tr.put depth t i x := by
  refine putF_eq x t 24 i (by omega) ?_
  simp only [Nat.blt_eq] at h
  unfold room at h
  show i + 1 < 2 ^ 24
  omega
end

/-! The heap. -/

noncomputable def hiddenF (l : List (Nat × Nat)) (b : Nat) : Bool :=
  @List.rec (Nat × Nat) (fun _ => Bool) false (fun p _ ih => @Prod.rec Nat Nat (fun _ => Bool) (fun x y => br (Nat.ble x b) (br (Nat.blt b y) true ih) ih) p) l
theorem hiddenF_eq (b : Nat) (l : List (Nat × Nat)) : hiddenF l b = hidden l b := by
  induction l with
  | nil => rfl
  | cons p r ih =>
    obtain ⟨x, y⟩ := p
    have e : hiddenF ((x, y) :: r) b = br (Nat.ble x b) (br (Nat.blt b y) true (hiddenF r b)) (hiddenF r b) := rfl
    rw [e, ih]
    simp only [hidden]
    cases Nat.ble x b <;> cases Nat.blt b y <;> rfl

noncomputable def getH (H : AH) (b : Nat) : Option ABlk :=
  @AH.rec (fun _ => Option ABlk) (fun tr next low hid => br (hiddenF hid b) none (br (Nat.blt b low) (optK (getF tr b) none fun x => some x.shut) (br (Nat.blt b next) (getF tr b) none))) H
theorem getH_eq (H : AH) (b : Nat) : getH H b = H.get b := by
  have e : getH H b = br (hiddenF H.hid b) none (br (Nat.blt b H.low) (optK (getF H.tr b) none fun x => some x.shut) (br (Nat.blt b H.next) (getF H.tr b) none)) := rfl
  rw [e, hiddenF_eq, getF_eq]
  unfold AH.get
  cases hidden H.hid b
  · cases Nat.blt b H.low
    · cases Nat.blt b H.next <;> rfl
    · cases H.tr.get b <;> rfl
  · rfl

section
variable {X : Type}

/-- A new block. -/
noncomputable def allocK (H : AH) (x : ABlk) (k : Nat → AH → Option X) : Option X :=
  @AH.rec (fun _ => Option X) (fun tr next low hid => br (Nat.blt next room) (br (Nat.ble low next) (br (hiddenF hid next) none (putK tr (some x) next fun tr' => natK next fun n => k n ⟨tr', Nat.succ n, low, hid⟩)) none) none) H
theorem allocK_eq (H : AH) (x : ABlk) (k : Nat → AH → Option X) : allocK H x k = (H.alloc x).bind fun r => k r.1 r.2 := by
  have e : allocK H x k = br (Nat.blt H.next room) (br (Nat.ble H.low H.next) (br (hiddenF H.hid H.next) none (putK H.tr (some x) H.next fun tr' => natK H.next fun n => k n ⟨tr', Nat.succ n, H.low, H.hid⟩)) none) none := rfl
  rw [e, hiddenF_eq, putK_eq, natK_eq]
  unfold AH.alloc
  cases h1 : Nat.blt H.next room
  · rfl
  · rw [put_eq _ _ _ h1]
    cases h2 : Nat.ble H.low H.next
    · rfl
    · cases h3 : hidden H.hid H.next <;> rfl

/-- One cell of an own block is laid anew. -/
noncomputable def wr1K (H : AH) (b off : Nat) (v : AV) (k : AH → Option X) : Option X :=
  @AH.rec (fun _ => Option X) (fun tr next low hid => optK (getH ⟨tr, next, low, hid⟩ b) none fun x => @ABlk.rec (fun _ => Option X) (fun cells elem own =>
    br (Nat.beq elem mapTag) none (br (Nat.blt off (lenF cells)) (br own (br (Nat.blt b room) (setK cells v off fun cells' => putK tr (some ⟨cells', elem, own⟩) b fun tr' => k ⟨tr', next, low, hid⟩) none) none) none)) x) H
theorem wr1K_eq (H : AH) (b off : Nat) (v : AV) (k : AH → Option X) (hv : v.one = true) : wr1K H b off v k = (H.wr b off [v]).bind k := by
  have e : wr1K H b off v k = optK (getH H b) none fun x =>
    br (Nat.beq x.elem mapTag) none (br (Nat.blt off (lenF x.cells)) (br x.own (br (Nat.blt b room) (setK x.cells v off fun cells' => putK H.tr (some ⟨cells', x.elem, x.own⟩) b fun tr' => k ⟨tr', H.next, H.low, H.hid⟩) none) none) none) := rfl
  rw [e, getH_eq]
  unfold AH.wr AH.lay
  cases hg : H.get b with
  | none => rfl
  | some x =>
    simp only [optK]
    cases h0 : Nat.beq x.elem mapTag
    case true => rfl
    rw [br_f, lenF_eq]
    simp only [Bool.false_eq_true, if_false]
    simp only [List.length_cons, List.length_nil, Nat.zero_add, List.all_cons, List.all_nil, hv, Bool.and_true]
    show _ = (if Nat.ble (off + 1) x.cells.length = true then _ else _ : Option AH).bind k
    have e2 : Nat.ble (off + 1) x.cells.length = Nat.blt off x.cells.length := rfl
    rw [e2]
    cases h1 : Nat.blt off x.cells.length
    · rfl
    · rw [br_t, if_pos rfl]
      cases h2 : x.own
      · rfl
      · cases h3 : Nat.blt b room
        · rfl
        · rw [br_t, br_t, setK_eq _ _ _ _ (by simpa using h1), putK_eq, put_eq _ _ _ h3]
          rfl
end

/-! Numbers. -/

noncomputable def addF (a b : Int) : Int := @Int.rec (fun _ => Int) (fun m => @Int.rec (fun _ => Int) (fun n => .ofNat (Nat.add m n)) (fun n => Int.add (.ofNat m) (.negSucc n)) b) (fun m => Int.add (.negSucc m) b) a
theorem addF_eq (a b : Int) : addF a b = a + b := by cases a <;> cases b <;> rfl
noncomputable def subF (a b : Int) : Int := @Int.rec (fun _ => Int) (fun m => @Int.rec (fun _ => Int) (fun n => br (Nat.ble n m) (.ofNat (Nat.sub m n)) (.negSucc (Nat.pred (Nat.sub n m)))) (fun n => Int.sub (.ofNat m) (.negSucc n)) b) (fun m => Int.sub (.negSucc m) b) a
theorem subF_eq (a b : Int) : subF a b = a - b := by
  cases a with
  | ofNat m =>
    cases b with
    | ofNat n =>
      show br (Nat.ble n m) (Int.ofNat (m - n)) (.negSucc (n - m - 1)) = (m : Int) - n
      cases h : Nat.ble n m
      · rw [br_f, Int.negSucc_eq]
        have : ¬ n ≤ m := fun hh => by rw [Nat.ble_eq_true_of_le hh] at h; cases h
        omega
      · rw [br_t]
        have := Nat.le_of_ble_eq_true h
        show ((m - n : Nat) : Int) = _
        omega
    | negSucc n => rfl
  | negSucc m => rfl
noncomputable def mulF (a b : Int) : Int := @Int.rec (fun _ => Int) (fun m => @Int.rec (fun _ => Int) (fun n => .ofNat (Nat.mul m n)) (fun n => Int.mul (.ofNat m) (.negSucc n)) b) (fun m => Int.mul (.negSucc m) b) a
theorem mulF_eq (a b : Int) : mulF a b = a * b := by cases a <;> cases b <;> rfl
noncomputable def quoF (a b : Int) : Int := @Int.rec (fun _ => Int) (fun m => @Int.rec (fun _ => Int) (fun n => .ofNat (Nat.div m n)) (fun n => Int.tdiv (.ofNat m) (.negSucc n)) b) (fun m => Int.tdiv (.negSucc m) b) a
theorem quoF_eq (a b : Int) : quoF a b = a.tdiv b := by cases a <;> cases b <;> rfl
noncomputable def remF (a b : Int) : Int := @Int.rec (fun _ => Int) (fun m => @Int.rec (fun _ => Int) (fun n => .ofNat (Nat.mod m n)) (fun n => Int.tmod (.ofNat m) (.negSucc n)) b) (fun m => Int.tmod (.negSucc m) b) a
theorem remF_eq (a b : Int) : remF a b = a.tmod b := by cases a <;> cases b <;> rfl

noncomputable def bitsF (k : IntKind) : Nat := @IntKind.rec (fun _ => Nat) 8 16 32 64 8 16 32 64 k
theorem bitsF_eq (k : IntKind) : bitsF k = k.bits := by cases k <;> rfl
noncomputable def kindF (k : IntKind) : Nat := @IntKind.rec (fun _ => Nat) 0 1 2 3 4 5 6 7 k
theorem kindF_eq (a b : IntKind) : Nat.beq (kindF a) (kindF b) = decide (a = b) := by cases a <;> cases b <;> rfl

noncomputable def landF (k : IntKind) (a b : Int) : Int := @Int.rec (fun _ => Int) (fun m => @Int.rec (fun _ => Int) (fun n => wrapF k (.ofNat (Nat.land m n))) (fun n => arith .and k (.ofNat m) (.negSucc n)) b) (fun m => arith .and k (.negSucc m) b) a
noncomputable def lorF (k : IntKind) (a b : Int) : Int := @Int.rec (fun _ => Int) (fun m => @Int.rec (fun _ => Int) (fun n => wrapF k (.ofNat (Nat.lor m n))) (fun n => arith .or k (.ofNat m) (.negSucc n)) b) (fun m => arith .or k (.negSucc m) b) a
noncomputable def xorF (k : IntKind) (a b : Int) : Int := @Int.rec (fun _ => Int) (fun m => @Int.rec (fun _ => Int) (fun n => wrapF k (.ofNat (Nat.xor m n))) (fun n => arith .xor k (.ofNat m) (.negSucc n)) b) (fun m => arith .xor k (.negSucc m) b) a

theorem wrap_mod (k : IntKind) (m : Nat) : k.wrap (.ofNat (m % 2 ^ k.bits)) = k.wrap (.ofNat m) := by
  cases k <;> simp [IntKind.wrap, IntKind.signed, IntKind.bits] <;> omega

theorem ofInt_nat (k : IntKind) (m : Nat) : (BitVec.ofInt k.bits (.ofNat m)).toNat = m % 2 ^ k.bits := by
  have : BitVec.ofInt k.bits (.ofNat m) = BitVec.ofNat k.bits m := by
    show BitVec.ofInt k.bits (m : Int) = _
    exact BitVec.ofInt_natCast k.bits m
  rw [this, BitVec.toNat_ofNat]

theorem landF_eq (k : IntKind) (a b : Int) : landF k a b = arith .and k a b := by
  cases a with
  | negSucc m => rfl
  | ofNat m =>
    cases b with
    | negSucc n => rfl
    | ofNat n =>
      show wrapF k (.ofNat (m &&& n)) = k.wrap (((BitVec.ofInt k.bits (.ofNat m) &&& BitVec.ofInt k.bits (.ofNat n)).toNat : Nat) : Int)
      rw [wrapF_eq, BitVec.toNat_and, ofInt_nat, ofInt_nat, ← Nat.and_mod_two_pow]
      exact (wrap_mod k _).symm
theorem lorF_eq (k : IntKind) (a b : Int) : lorF k a b = arith .or k a b := by
  cases a with
  | negSucc m => rfl
  | ofNat m =>
    cases b with
    | negSucc n => rfl
    | ofNat n =>
      show wrapF k (.ofNat (m ||| n)) = k.wrap (((BitVec.ofInt k.bits (.ofNat m) ||| BitVec.ofInt k.bits (.ofNat n)).toNat : Nat) : Int)
      rw [wrapF_eq, BitVec.toNat_or, ofInt_nat, ofInt_nat, ← Nat.or_mod_two_pow]
      exact (wrap_mod k _).symm
theorem xorF_eq (k : IntKind) (a b : Int) : xorF k a b = arith .xor k a b := by
  cases a with
  | negSucc m => rfl
  | ofNat m =>
    cases b with
    | negSucc n => rfl
    | ofNat n =>
      show wrapF k (.ofNat (m ^^^ n)) = k.wrap (((BitVec.ofInt k.bits (.ofNat m) ^^^ BitVec.ofInt k.bits (.ofNat n)).toNat : Nat) : Int)
      rw [wrapF_eq, BitVec.toNat_xor, ofInt_nat, ofInt_nat, ← Nat.xor_mod_two_pow]
      exact (wrap_mod k _).symm

noncomputable def minF (a b : Nat) : Nat := br (Nat.ble a b) a b
theorem minF_eq (a b : Nat) : minF a b = min a b := by
  unfold minF
  rw [br_if]
  simp only [Nat.ble_eq]
  rw [Nat.min_def]

noncomputable def shlF (k : IntKind) (a b : Int) : Int := @Int.rec (fun _ => Int) (fun m => @Int.rec (fun _ => Int) (fun n => wrapF k (.ofNat (Nat.mul m (Nat.pow 2 (minF n (bitsF k)))))) (fun n => arith .shl k (.ofNat m) (.negSucc n)) b) (fun m => arith .shl k (.negSucc m) b) a
noncomputable def shrF (k : IntKind) (a b : Int) : Int := @Int.rec (fun _ => Int) (fun m => @Int.rec (fun _ => Int) (fun n => .ofNat (Nat.div m (Nat.pow 2 (minF n (bitsF k))))) (fun n => arith .shr k (.ofNat m) (.negSucc n)) b) (fun m => arith .shr k (.negSucc m) b) a
theorem pow_cast (n : Nat) : (2 : Int) ^ n = ((2 ^ n : Nat) : Int) := by
  rw [Int.natCast_pow]; rfl
theorem shlF_eq (k : IntKind) (a b : Int) : shlF k a b = arith .shl k a b := by
  cases a with
  | negSucc m => rfl
  | ofNat m =>
    cases b with
    | negSucc n => rfl
    | ofNat n =>
      show wrapF k (.ofNat (m * 2 ^ (minF n (bitsF k)))) = k.wrap ((m : Int) * 2 ^ (min n k.bits))
      rw [wrapF_eq, minF_eq, bitsF_eq, pow_cast, ← Int.natCast_mul]
      rfl
theorem shrF_eq (k : IntKind) (a b : Int) : shrF k a b = arith .shr k a b := by
  cases a with
  | negSucc m => rfl
  | ofNat m =>
    cases b with
    | negSucc n => rfl
    | ofNat n =>
      show Int.ofNat (m / 2 ^ (minF n (bitsF k))) = (m : Int).fdiv (2 ^ (min n k.bits))
      rw [minF_eq, bitsF_eq, pow_cast, Int.fdiv_eq_ediv_of_nonneg _ (Int.natCast_nonneg _)]
      rfl

noncomputable def arithF (op : BinOp) (k : IntKind) (a b : Int) : Int :=
  @BinOp.rec (fun _ => IntKind → Int → Int → Int) (fun k a b => wrapF k (addF a b)) (fun k a b => wrapF k (subF a b)) (fun k a b => wrapF k (mulF a b)) (fun k a b => wrapF k (quoF a b)) (fun _ a b => remF a b) landF lorF xorF shlF shrF (fun k a b => arith .andNot k a b)
    (fun _ _ _ => 0) (fun _ _ _ => 0) (fun _ _ _ => 0) (fun _ _ _ => 0) (fun _ _ _ => 0) (fun _ _ _ => 0) op k a b
theorem arithF_eq (op : BinOp) (k : IntKind) (a b : Int) : arithF op k a b = arith op k a b := by
  cases op
  · show wrapF k (addF a b) = _; rw [wrapF_eq, addF_eq]; rfl
  · show wrapF k (subF a b) = _; rw [wrapF_eq, subF_eq]; rfl
  · show wrapF k (mulF a b) = _; rw [wrapF_eq, mulF_eq]; rfl
  · show wrapF k (quoF a b) = _; rw [wrapF_eq, quoF_eq]; rfl
  · show remF a b = _; rw [remF_eq]; rfl
  · exact landF_eq k a b
  · exact lorF_eq k a b
  · exact xorF_eq k a b
  · exact shlF_eq k a b
  · exact shrF_eq k a b
  all_goals rfl

noncomputable def compareF (op : BinOp) (a b : Int) : Bool :=
  @BinOp.rec (fun _ => Int → Int → Bool) (fun _ _ => false) (fun _ _ => false) (fun _ _ => false) (fun _ _ => false) (fun _ _ => false) (fun _ _ => false) (fun _ _ => false) (fun _ _ => false) (fun _ _ => false) (fun _ _ => false) (fun _ _ => false)
    (fun a b => eqF a b) (fun a b => br (eqF a b) false true) (fun a b => ltF a b) (fun a b => br (ltF b a) false true) (fun a b => ltF b a) (fun a b => br (ltF a b) false true) op a b
theorem not_lt_le (a b : Int) : br (ltF b a) false true = decide (a ≤ b) := by
  rw [ltF_eq, br_if]
  by_cases h : b < a
  · have : ¬ a ≤ b := by omega
    simp [h, this]
  · have : a ≤ b := by omega
    simp [h, this]
theorem compareF_eq (op : BinOp) (a b : Int) : compareF op a b = compare op a b := by
  cases op
  case eql => exact eqF_eq a b
  case neq =>
    show br (eqF a b) false true = (a != b)
    rw [eqF_eq]
    show br (a == b) false true = !(a == b)
    cases (a == b) <;> rfl
  case lss => exact ltF_eq a b
  case leq => exact not_lt_le a b
  case gtr => exact (ltF_eq b a)
  case geq => exact not_lt_le b a
  all_goals rfl

noncomputable def mkEF (F : Facts) (op : BinOp) (k : IntKind) (x y : AI) : AI :=
  @AI.rec (fun _ => AI) (fun a => @AI.rec (fun _ => AI) (fun b => .c (arithF op k a b)) (fun _ => mkE F op k x y) (fun _ _ _ _ _ _ => mkE F op k x y) (fun _ _ _ => mkE F op k x y) y) (fun _ => mkE F op k x y) (fun _ _ _ _ _ _ => mkE F op k x y) (fun _ _ _ => mkE F op k x y) x
theorem mkEF_eq (F : Facts) (op : BinOp) (k : IntKind) (x y : AI) : mkEF F op k x y = mkE F op k x y := by
  cases x
  case c a =>
    cases y
    case c b => show AI.c (arithF op k a b) = _; rw [arithF_eq]; rfl
    all_goals rfl
  all_goals rfl

noncomputable def mkWF (F : Facts) (k : IntKind) (x : AI) : AI := @AI.rec (fun _ => AI) (fun a => .c (wrapF k a)) (fun _ => mkW F k x) (fun _ _ _ _ _ _ => mkW F k x) (fun _ _ _ => mkW F k x) x
theorem mkWF_eq (F : Facts) (k : IntKind) (x : AI) : mkWF F k x = mkW F k x := by
  cases x
  case c a => show AI.c (wrapF k a) = _; rw [wrapF_eq]; rfl
  all_goals rfl

section
variable {X : Type}
noncomputable def cmpK (F : Facts) (op : BinOp) (x y : AI) (k : Bool → Option X) : Option X :=
  selC (optK (cmpI F op x y) none k) (fun a => selC (optK (cmpI F op x y) none k) (fun b => k (compareF op a b)) y) x
theorem cmpK_eq (F : Facts) (op : BinOp) (x y : AI) (k : Bool → Option X) : cmpK F op x y k = (cmpI F op x y).bind k := by
  cases x
  case c a =>
    cases y
    case c b => show k (compareF op a b) = _; rw [compareF_eq]; rfl
    all_goals exact optK_eq _ _
  all_goals exact optK_eq _ _
end
end Go.Sh
