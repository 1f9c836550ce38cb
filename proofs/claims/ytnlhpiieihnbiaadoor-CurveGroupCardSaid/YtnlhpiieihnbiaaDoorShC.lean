/-
  THE SHADOW MACHINE: what a function's code is made to; and that each operation without a heap says what the real one does. Own work.
-/
import Derived.Test.YtnlhpiieihnbiaaDoorShB
import Derived.Laws.Sem
import Derived.Laws.Entries
import Derived.Laws.CopyRow
import Derived.Laws.AppendOwn
import Derived.Laws.Tables
import Derived.Laws.MakeOwn
import Derived.Laws.Small
namespace Go.Sh

def mapO {α β : Type} (f : α → Option β) : List α → Option (List β)
  | [] => some []
  | x :: r => match f x with
    | some y => match mapO f r with | some l => some (y :: l) | none => none
    | none => none

theorem mapO_spec {α β : Type} (f : α → Option β) : ∀ (l : List α) (m : List β), mapO f l = some m → l.length = m.length ∧ ∀ (j : Nat) (x : α) (y : β), l[j]? = some x → m[j]? = some y → f x = some y := by
  intro l
  induction l with
  | nil => intro m h; simp [mapO] at h; subst h; simp
  | cons a r ih =>
    intro m h
    simp only [mapO] at h
    split at h
    · rename_i y hy
      split at h
      · rename_i l' hl
        simp at h
        subst h
        obtain ⟨h1, h2⟩ := ih l' hl
        refine ⟨by simp [h1], fun j x y' hx hy' => ?_⟩
        cases j with
        | zero => simp at hx hy'; subst hx; subst hy'; exact hy
        | succ j => simp at hx hy'; exact h2 j x y' hx hy'
      · cases h
    · cases h

def cAV : Nat → Value → Option AV
  | 0, _ => none
  | n + 1, v => match v with
    | .bool b => some (.b b)
    | .int k z => some (.i k (.c z))
    | .string s => some (.str s)
    | .pointer none => some .np
    | .slice none 0 0 => some .nsl
    | .nilFunc => some .nfn
    | .nilIface => some .nif
    | .map none => some .nmp
    | .agg vs => (mapO (cAV n) vs.toList).map .ag
    | .tuple vs => (mapO (cAV n) vs.toList).map .tp
    | _ => none

theorem cAV_sim (ν : Nat → Int) (ρ : Emb) : ∀ (n : Nat) (v : Value) (x : AV), cAV n v = some x → VR ν ρ x v := by
  intro n
  induction n with
  | zero => intro v x h; cases h
  | succ n ih =>
    intro v x h
    unfold cAV at h
    split at h <;> first
      | (simp only [Option.some.injEq] at h; subst h; first | exact .b _ | exact .i _ (.c _) | exact .str _ | exact .np | exact .nsl | exact .nfn | exact .nif | exact .nmp)
      | (simp only [Option.map_eq_some_iff] at h
         obtain ⟨l, hl, rfl⟩ := h
         obtain ⟨h1, h2⟩ := mapO_spec _ _ _ hl
         first
           | exact .ag _ _ (by simpa using h1.symm) (fun j x v hx hv => ih _ _ (h2 j v x (by simpa using hv) hx))
           | exact .tp _ _ (by simpa using h1.symm) (fun j x v hx hv => ih _ _ (h2 j v x (by simpa using hv) hx)))
      | cases h

def cO : Operand → Option O
  | .tmp t => some (.t t)
  | .const v => (cAV 8 v).map .k
  | .func f => some (.k (.fn f []))
  | .global g => if Nat.blt g gmax then some (.k (.p g 0)) else none

theorem cO_sim {ν : Nat → Int} {ρ : Emb} {e : Tr AV} {a : Act} (he : ER ν ρ e a.tmps) {x : Operand} {y : O} (h : cO x = some y) : VR ν ρ (y.ev e) (a.eval x) := by
  cases x with
  | tmp t =>
    simp [cO] at h; subst h
    simp only [O.ev, Act.eval]
    cases hg : e.get t with
    | none => exact .u _
    | some z => exact he t z hg
  | const v =>
    simp [cO] at h
    obtain ⟨z, hz, rfl⟩ := h
    exact cAV_sim ν ρ _ _ _ hz
  | func f =>
    simp [cO] at h; subst h
    exact .fn f [] #[] rfl (by simp)
  | global g =>
    simp only [cO] at h
    split at h
    · rename_i hg
      simp only [Option.some.injEq] at h
      subst h
      obtain ⟨tot, ht⟩ := ρ.glob g (by simpa using hg)
      exact .p g 0 ⟨g, 0, tot⟩ ht
    · cases h

def cOs (xs : Array Operand) : Option (List O) := mapO cO xs.toList

theorem cOs_sim {ν : Nat → Int} {ρ : Emb} {e : Tr AV} {a : Act} (he : ER ν ρ e a.tmps) {xs : Array Operand} {ys : List O} (h : cOs xs = some ys) : LR ν ρ (ys.map (O.ev e)) (xs.map a.eval) := by
  obtain ⟨h1, h2⟩ := mapO_spec _ _ _ h
  refine ⟨by simpa using h1.symm, fun j x v hx hv => ?_⟩
  simp only [List.getElem?_map, Option.map_eq_some_iff] at hx
  obtain ⟨y, hy, rfl⟩ := hx
  simp only [Array.getElem?_map, Option.map_eq_some_iff] at hv
  obtain ⟨z, hz, rfl⟩ := hv
  exact cO_sim he (h2 j z y (by simpa using hz) hy)

def cOpt : Option Operand → Option (Option O)
  | none => some none
  | some x => (cO x).map some

/-- Is it of many cells, and of how many? -/
def cAgg (P : Program) (t : TypeId) : Option (Option Nat) :=
  match P.underlying t, P.info? t with
  | some (.struct _), some i => some (some i.size)
  | some (.array _ _), some i => some (some i.size)
  | some _, some _ => some none
  | _, _ => none

def cSize (P : Program) (t : TypeId) : Option Nat := (P.info? t).map (·.size)

def cZero (P : Program) (t : TypeId) : Option AV :=
  match P.info? t with
  | some i => match i.zero with | some z => cAV 8 z | none => none
  | none => none

def cParts (places : Nat → Option (Nat × Nat)) : List (Nat × Operand) → Option (List (Nat × Nat × O))
  | [] => some []
  | p :: r => match places p.1, cO p.2, cParts places r with
    | some pl, some x, some l => some ((pl.1, pl.2, x) :: l)
    | _, _, _ => none

def nilKind (d : TypeDesc) : Option Nat :=
  match d with
  | .pointer _ => some 0
  | .slice _ => some 1
  | .interface _ => some 2
  | .func _ _ _ => some 3
  | .map _ _ => some 4
  | _ => none

def intType (P : Program) (u : TypeId) : Bool := match P.underlying u with | some (.int _) => true | _ => false
def oneType (P : Program) (u : TypeId) : Bool := match P.info? u with | some i => Nat.beq i.size 1 | none => false

/-- Where the numbers stand of a struct or an array of numbers alone, and its equality is plain. -/
def eqOffs (P : Program) (t : TypeId) (d : TypeDesc) : Option (List Nat) :=
  match d with
  | .array n e => if intType P e && oneType P e && !(P.eqGuardType P.depth t) then some (List.range n) else none
  | .struct fs => if fs.toList.all (fun f => f.name != "_" && intType P f.type) && !(P.stoodInHeld t) && !(P.eqGuardType P.depth t) then some (fs.toList.map (·.offset)) else none
  | _ => none

def constO : Operand → Bool
  | .const _ => true
  | _ => false

def cOp (P : Program) (o : Oper) : Option K :=
  match o.op with
  | .move x => (cO x).map .mv
  | .assign x => (cO x).map .mv
  | .pick c a b => (cO c).bind fun c => (cO a).bind fun a => (cO b).map fun b => .pick c a b
  | .alloc t => (cZero P t).bind fun z => z.cells.map fun z => .alloc t z
  | .box t x => (cO x).map fun x => .box t x
  | .build t ps => match P.underlying t with
    | some (.struct fields) => (cZero P t).bind fun z => z.cells.bind fun z =>
        (fields.toList.mapM (fun f => (P.info? f.type).map fun i => (f.offset, i.size))).bind fun places => (cParts (fun i => places[i]?) ps.toList).map fun l => .bld z l
    | some (.array _ t') => (cZero P t).bind fun z => z.cells.bind fun z => (cSize P t').bind fun s => (cParts (fun i => some (i * s, s)) ps.toList).map fun l => .bld z l
    | _ => none
  | .buildSlice t n ps => match P.underlying t with
    | some (.slice t') => (cZero P t').bind fun z => z.cells.bind fun z => (cSize P t').bind fun s => (cParts (fun i => some (i * s, s)) ps.toList).map fun l => .bsl t' s n z l
    | _ => none
  | .load t x => (cO x).bind fun x => (cAgg P t).map fun n => .ld n x
  | .store t x v => (cO x).bind fun x => (cO v).bind fun v => (cSize P t).map fun n => .st n x v
  | .nilCheck x => (cO x).map .nck
  | .binOp op t x y _ => (cO x).bind fun x' => (cO y).bind fun y' =>
      match P.underlying t with
      | some (.int _) => some (.bin op x' y')
      | some .bool => match op with | .eql => some (.eqb false x' y') | .neq => some (.eqb true x' y') | _ => none
      | some d => if constO x || constO y then (match op with | .eql => (nilKind d).map fun k => .eqn false k x' y' | .neq => (nilKind d).map fun k => .eqn true k x' y' | _ => none)
        else (match op with | .eql => (eqOffs P t d).map fun l => .eqa false l x' y' | .neq => (eqOffs P t d).map fun l => .eqa true l x' y' | _ => none)
      | none => none
  | .unOp op _ x => (cO x).map fun x => .una op x
  | .convert s t x => (cO x).bind fun x => match P.underlying s, P.underlying t with
    | some (.int _), some (.int k) => some (.cv k x)
    | some (.slice e), some .string => match P.underlying e with | some (.int .u8) => (cSize P e).bind fun s => if s = 1 then some (.bts x) else none | _ => none
    | _, _ => none
  | .makeMap _ none => some .mkm
  | .lookup t m k ok => (cO m).bind fun m => (cO k).bind fun k => match P.underlying t with
    | some (.map kt et) => match P.underlying kt with
      | some .string => (cZero P et).map fun z => .lku true z ok m k
      | some (.int _) => (cZero P et).map fun z => .lku false z ok m k
      | _ => none
    | _ => none
  | .mapUpdate t m k v => (cO m).bind fun m => (cO k).bind fun k => (cO v).bind fun v => match P.underlying t with
    | some (.map kt _) => match P.underlying kt with
      | some .string => some (.mup true m k v)
      | some (.int _) => some (.mup false m k v)
      | _ => none
    | _ => none
  | .makeInterface t x => (cO x).bind fun x => match P.underlying t with
    | some (.interface _) => none
    | some _ => some (.ifc t x)
    | none => none
  | .makeFunc (.func f) first caps => if first.isEmpty then (cOs caps).map fun l => .mkf f l else none
  | .makeSlice t l c => match P.underlying t with
    | some (.slice t') => (cO l).bind fun l => (cO c).bind fun c => (cZero P t').bind fun z => z.cells.bind fun z => (P.info? t').map fun i => .msl t' i.size i.bytes z l c
    | _ => none
  | .slice t x lo hi mx => (cO x).bind fun x => (cOpt lo).bind fun lo => (cOpt hi).bind fun hi => (cOpt mx).bind fun mx =>
      match P.underlying t with
      | some (.slice t') => (cSize P t').map fun s => .slc s x lo hi mx
      | some (.array n t') => (cSize P t').map fun s => .sla n s x lo hi mx
      | _ => none
  | .fieldAddr t x i => (cO x).bind fun x => match P.underlying t with
    | some (.struct fs) => (fs[i]?).bind fun f => (cSize P f.type).bind fun s => if s = 0 then none else some (.fa f.offset x)
    | _ => none
  | .field t x i => (cO x).bind fun x => match P.underlying t with
    | some (.struct fs) => (fs[i]?).bind fun f => (cAgg P f.type).map fun n => .fl f.offset n x
    | _ => none
  | .indexAddr t x i => (cO x).bind fun x => (cO i).bind fun i => match P.underlying t with
    | some (.slice t') => (cSize P t').map fun s => .ia s none x i
    | some (.array n t') => (cSize P t').map fun s => .ia s (some n) x i
    | _ => none
  | .index t x i => (cO x).bind fun x => (cO i).bind fun i => match P.underlying t with
    | some (.array n t') => (cSize P t').bind fun s => (cAgg P t').map fun m => .ix m s n x i
    | _ => none
  | .typeAssert x _ t ok => (cO x).bind fun x => match P.underlying t with
    | some (.interface _) => none
    | some _ => (cZero P t).map fun z => .tas t z ok x
    | none => none
  | .extract x i => (cO x).map fun x => .ext x i
  | .call c => match c.callee with
    | .value (.func f) => (cOs c.args).map fun l => .call f l
    | .value x => (cO x).bind fun x => (cOs c.args).map fun l => .callv x l
    | .builtin b => (cOs c.args).bind fun l =>
      match b, l with
      | .len, [x] => (c.argTypes[0]?).bind fun t => match P.underlying t with
        | some (.slice _) => some (.len x)
        | some .string => some (.lens x)
        | some (.array n _) => some (.lenk n)
        | _ => none
      | .min, [x, y] => some (.mm false x y)
      | .max, [x, y] => some (.mm true x y)
      | .append, [x, y] => (c.argTypes[0]?).bind fun t => (c.argTypes[1]?).bind fun t2 => match P.underlying t with
        | some (.slice e) => (P.info? e).bind fun i => (cZero P e).bind fun z => z.cells.bind fun zc => if t2 = t ∧ zc.length = i.size ∧ c.argTypes.size = 2 then some (.app e i.size i.bytes x y) else none
        | _ => none
      | .copy, [x, y] => (c.argTypes[0]?).bind fun t => match P.underlying t with
        | some (.slice e) => (cSize P e).map fun s => .cpy s x y
        | _ => none
      | _, _ => none
    | .invoke _ _ => none
  | _ => none

section
variable {ν : Nat → Int} {ρ : Emb} {F : Facts} {P : Program} {w : World}

theorem binA_sim (hF : F.Hold ν) {op : BinOp} {x y r : AV} {vx vy : Value} (t : TypeId) (ox oy : Operand) (hx : VR ν ρ x vx) (hy : VR ν ρ y vy) (h : binA F op x y = some r) :
    ∃ v, (do eqGuard op t ox oy vx vy; binOp op t vx vy : Sem Value).run P w = .ok v w ∧ VR ν ρ r v := by
  unfold binA at h
  split at h
  · rename_i k a k' b
    cases hx
    cases hy
    have hg : (eqGuard op t ox oy (.int k (a.val ν)) (.int k' (b.val ν))).run P w = .ok () w := by
      unfold eqGuard
      cases op <;> rfl
    rw [Sem.run_bind, hg, Result.andThen_ok]
    split at h
    all_goals try (
      split at h
      · rename_i hk
        subst hk
        simp only [Option.some.injEq] at h
        subst h
        refine ⟨_, ?_, VR.i _ _⟩
        rw [mkE_val hF]
        simp [binOp, Op.intArith, Op.intBits, arith]
      · cases h)
    · split at h
      · rename_i hk
        subst hk
        split at h
        · rename_i n
          split at h
          · cases h
          · rename_i hn
            simp only [Option.some.injEq] at h
            subst h
            refine ⟨_, ?_, VR.i _ _⟩
            rw [mkE_val hF]
            simp [binOp, Op.intDiv, arith, AI.val, hn]
        · cases h
      · cases h
    · split at h
      · rename_i hk
        subst hk
        split at h
        · rename_i n
          split at h
          · cases h
          · rename_i hn
            simp only [Option.some.injEq] at h
            subst h
            refine ⟨_, ?_, VR.i _ _⟩
            rw [mkE_val hF]
            simp [binOp, Op.intDiv, arith, AI.val, hn]
        · cases h
      · cases h
    · split at h
      · rename_i n
        split at h
        · cases h
        · rename_i hn
          simp only [Option.some.injEq] at h
          subst h
          refine ⟨_, ?_, VR.i _ _⟩
          rw [mkE_val hF]
          simp [binOp, Op.shift, arith, AI.val, hn]
      · cases h
    · split at h
      · rename_i n
        split at h
        · cases h
        · rename_i hn
          simp only [Option.some.injEq] at h
          subst h
          refine ⟨_, ?_, VR.i _ _⟩
          rw [mkE_val hF]
          simp [binOp, Op.shift, arith, AI.val, hn]
      · cases h
    · split at h
      · rename_i hk
        subst hk
        simp only [Option.map_eq_some_iff] at h
        obtain ⟨t, ht, rfl⟩ := h
        have hc := cmpI_val hF _ _ _ _ ht
        refine ⟨.bool t, ?_, VR.b _⟩
        rw [← hc]
        cases op <;> first
          | (simp_all; done)
          | (simp [binOp, Op.intCmp, compare]; done)
          | skip
      · cases h
  · cases h

end
end Go.Sh
