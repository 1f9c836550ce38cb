/-
  THE SHADOW MACHINE: its operations, and what they are made of. Own work.
-/
import Derived.Test.YtnlhpiieihnbiaaDoorShA
namespace Go.Sh

inductive O where
  | t (i : Nat)
  | k (v : AV)

inductive K where
  | mv (x : O)
  | pick (c a b : O)
  | bld (z : List AV) (ps : List (Nat × Nat × O))
  | nck (x : O)
  | bin (op : BinOp) (x y : O)
  | eqb (neg : Bool) (x y : O)
  | eqn (neg : Bool) (kind : Nat) (x y : O)
  | eqa (neg : Bool) (offs : List Nat) (x y : O)
  | una (op : UnOp) (x : O)
  | cv (k : IntKind) (x : O)
  | ifc (t : Nat) (x : O)
  | mkf (f : Nat) (caps : List O)
  | slc (size : Nat) (x : O) (lo hi mx : Option O)
  | sla (n size : Nat) (x : O) (lo hi mx : Option O)
  | fa (off : Nat) (x : O)
  | fl (off : Nat) (n : Option Nat) (x : O)
  | ia (size : Nat) (arr : Option Nat) (x i : O)
  | ix (n : Option Nat) (size len : Nat) (x i : O)
  | tas (t : Nat) (z : AV) (ok : Bool) (x : O)
  | ext (x : O) (i : Nat)
  | len (x : O)
  | lens (x : O)
  | lenk (n : Nat)
  | mm (most : Bool) (x y : O)
  | ld (n : Option Nat) (a : O)
  | alloc (e : Nat) (z : List AV)
  | box (e : Nat) (x : O)
  | bsl (e size len : Nat) (z : List AV) (ps : List (Nat × Nat × O))
  | msl (e size bytes : Nat) (z : List AV) (l c : O)
  | app (e size bytes : Nat) (x y : O)
  | st (n : Nat) (a x : O)
  | cpy (size : Nat) (d s : O)
  | mkm
  | lku (s : Bool) (z : AV) (ok : Bool) (m k : O)
  | mup (s : Bool) (m k v : O)
  | bts (x : O)
  | call (f : Nat) (args : List O)
  | callv (x : O) (args : List O)
  | bad

def O.ev (e : Tr AV) : O → AV
  | .t i => (e.get i).getD .u
  | .k v => v

def AV.one : AV → Bool
  | .u | .ag _ | .tp _ => false
  | _ => true

def AV.cells : AV → Option (List AV)
  | .ag cs => if cs.all AV.one then some cs else none
  | .u | .tp _ => none
  | x => some [x]

/-- The cells of what need not be known. -/
def AV.part (n : Option Nat) (cs : List AV) (off : Nat) : Option AV :=
  match n with
  | none => cs[off]?
  | some n => if Nat.ble (off + n) cs.length then some (.ag ((cs.drop off).take n)) else none

def AH.rd (H : AH) (blk off : Nat) (n : Option Nat) : Option AV :=
  match H.get blk with
  | some x => if Nat.beq x.elem mapTag then none else AV.part n x.cells off
  | none => none

def AH.row (H : AH) (blk off n : Nat) : Option (List AV) :=
  match H.get blk with
  | some x => if Nat.beq x.elem mapTag then none else if Nat.ble (off + n) x.cells.length then some ((x.cells.drop off).take n) else none
  | none => none

def splice (l : List AV) (off : Nat) (vs : List AV) : List AV := l.take off ++ vs ++ l.drop (off + vs.length)

def AH.wr (H : AH) (blk off : Nat) (vs : List AV) : Option AH :=
  match H.get blk with
  | some x => if Nat.beq x.elem mapTag then none else if Nat.ble (off + vs.length) x.cells.length && vs.all AV.one then H.lay blk (some { x with cells := splice x.cells off vs }) else none
  | none => none

def asInt : AV → Option Int
  | .i _ (.c n) => some n
  | _ => none

def asNat : AV → Option Nat
  | .i _ (.c (.ofNat n)) => some n
  | _ => none

def fillA (e : Tr AV) (cells : List AV) : List (Nat × Nat × O) → Option (List AV)
  | [] => some cells
  | (off, size, x) :: r =>
    match (x.ev e).cells with
    | some vs => if Nat.beq vs.length size && Nat.ble (off + size) cells.length then fillA e (splice cells off vs) r else none
    | none => none

def optNat (e : Tr AV) : Option O → Option (Option Nat)
  | none => some none
  | some x => match asNat (x.ev e) with | some n => some (some n) | none => none

/-- The bounds of a slice expression, of a slice of that many, of which so many may be reached for sure; the true capacity, where it is known. -/
def bounds (len sure : Nat) (cap : Option Nat) (lo hi mx : Option Nat) : Option (Nat × Nat × Option Nat) :=
  match mx with
  | some m =>
    match hi with
    | some h => if Nat.ble m sure && Nat.ble h m && Nat.ble (lo.getD 0) h then some (lo.getD 0, h, some m) else none
    | none => none
  | none => if Nat.ble (hi.getD len) sure && Nat.ble (lo.getD 0) (hi.getD len) then some (lo.getD 0, hi.getD len, cap) else none

def sliceA (size : Nat) (x : AV) (lo hi mx : Option Nat) : Option AV :=
  match x with
  | .nsl => match bounds 0 0 (some 0) lo hi mx with | some _ => some .nsl | none => none
  | .sle z => match bounds 0 0 (if z then some 0 else none) lo hi mx with
    | some (_, _, some _) => some (.sle true)
    | some (_, _, none) => some (.sle false)
    | none => none
  | .sl blk off (.c (.ofNat len)) (.ex c) =>
    match bounds len c (some c) lo hi mx with
    | some (l, h, some m) => some (.sl blk (if Nat.beq m l then off else off + l * size) (.c (.ofNat (h - l))) (.ex (m - l)))
    | _ => none
  | .sl blk off (.c (.ofNat len)) cap =>
    match bounds len len none lo hi mx with
    | some (l, h, some m) => some (.sl blk (if Nat.beq m l then off else off + l * size) (.c (.ofNat (h - l))) (.ex (m - l)))
    | some (l, h, none) =>
      if Nat.blt l len then
        match cap with
        | .own z => if Nat.beq z size then some (.sl blk (off + l * size) (.c (.ofNat (h - l))) (.own z)) else none
        | _ => some (.sl blk (off + l * size) (.c (.ofNat (h - l))) .any)
      else some (.sle false)
    | none => none
  | _ => none

def slaA (n size : Nat) (x : AV) (lo hi mx : Option Nat) : Option AV :=
  match x with
  | .p blk off =>
    match bounds n n (some n) lo hi mx with
    | some (l, h, some m) => some (.sl blk (if Nat.beq m l then off else off + l * size) (.c (.ofNat (h - l))) (.ex (m - l)))
    | _ => none
  | _ => none

/-- Is it nil, of that kind (a pointer, a slice, an interface, a function, a map)? -/
def isNil (kind : Nat) (x : AV) : Option Bool :=
  match x with
  | .np => if Nat.beq kind 0 then some true else none
  | .p _ _ => if Nat.beq kind 0 then some false else none
  | .nsl => if Nat.beq kind 1 then some true else none
  | .sl _ _ _ _ => if Nat.beq kind 1 then some false else none
  | .sle _ => if Nat.beq kind 1 then some false else none
  | .nif => if Nat.beq kind 2 then some true else none
  | .ifc _ _ => if Nat.beq kind 2 then some false else none
  | .nfn => if Nat.beq kind 3 then some true else none
  | .fn _ _ => if Nat.beq kind 3 then some false else none
  | .nmp => if Nat.beq kind 4 then some true else none
  | .mp _ => if Nat.beq kind 4 then some false else none
  | _ => none

/-- Held against nil: one of both is it. -/
def nilEq (kind : Nat) (x y : AV) : Option Bool :=
  match isNil kind x, isNil kind y with
  | some true, some b => some b
  | some false, some true => some false
  | _, _ => none

def binA (F : Facts) (op : BinOp) (x y : AV) : Option AV :=
  match x, y with
  | .i k a, .i k' b =>
    match op with
    | .add | .sub | .mul | .and | .or | .xor | .andNot => if k = k' then some (.i k (mkE F op k a b)) else none
    | .quo | .rem => if k = k' then (match b with | .c n => if n = 0 then none else some (.i k (mkE F op k a b)) | _ => none) else none
    | .shl | .shr => match b with | .c n => if n < 0 then none else some (.i k (mkE F op k a b)) | _ => none
    | _ => if k = k' then (cmpI F op a b).map .b else none
  | _, _ => none

def eqL : List Nat → List Nat → Bool
  | [], [] => true
  | a :: r, b :: s => Nat.beq a b && eqL r s
  | _, _ => false

/-- Is it the very key? -/
def keyEq (s : Bool) (x y : AV) : Option Bool :=
  match s, x, y with
  | true, .bs a, .bs b => some (eqL a b)
  | false, .i k (.c a), .i k' (.c b) => if k = k' then some (a == b) else none
  | _, _, _ => none

/-- What is at a key: where, and what. -/
def findA (s : Bool) (k : AV) : List AV → Nat → Option (Option (Nat × AV))
  | [], _ => some none
  | a :: v :: r, i => match keyEq s k a with | some true => some (some (i, v)) | some false => findA s k r (i + 1) | none => none
  | [_], _ => none

/-- The bytes of cells. -/
def bytesA : List AV → Option (List Nat)
  | [] => some []
  | .i .u8 (.c (.ofNat n)) :: r => if Nat.blt n 256 then (bytesA r).map (n :: ·) else none
  | _ :: _ => none

/-- Two numbers: the same? -/
def eqI (F : Facts) (a b : AI) : Option Bool := if a.beq b then some true else cmpI F .eql a b

/-- Cells, place by place: are all known to be the same, are some known not to be? -/
def eqPairs (F : Facts) (cs ds : List AV) : List Nat → Option (Bool × Bool)
  | [] => some (true, false)
  | o :: r => match cs[o]?, ds[o]?, eqPairs F cs ds r with
    | some (.i k a), some (.i k' b), some (p, q) => if k = k' then (match eqI F a b with | some true => some (p, q) | some false => some (false, true) | none => some (false, q)) else none
    | _, _, _ => none

/-- All the places at once: a number that is 0 if they are the same. -/
def joint (cs ds : List AV) : List Nat → AI
  | [] => .c 0
  | o :: r => match cs[o]?, ds[o]? with
    | some (.i k a), some (.i _ b) => .e .or k (.e .xor k a b) (joint cs ds r)
    | _, _ => .c 0

def eqA (F : Facts) (offs : List Nat) (x y : AV) : Option Bool :=
  match x, y with
  | .ag cs, .ag ds => match eqPairs F cs ds offs with
    | some (true, _) => some true
    | some (false, true) => some false
    | some (false, false) => match findCmp F.cmp .neq (joint cs ds offs) (.c 0) with | some true => some false | _ => none
    | _ => none
  | _, _ => none

/-- What needs no heap. -/
def pureA (F : Facts) (e : Tr AV) : K → Option AV
  | .mv x => some (x.ev e)
  | .pick c a b => match c.ev e with | .b t => some (if t then a.ev e else b.ev e) | _ => none
  | .bld z ps => (fillA e z ps).map .ag
  | .nck x => match x.ev e with | .p a b => some (.p a b) | .ifc t v => some (.ifc t v) | .fn f c => some (.fn f c) | _ => none
  | .bin op x y => binA F op (x.ev e) (y.ev e)
  | .eqb neg x y => match x.ev e, y.ev e with | .b a, .b b => some (.b ((a == b) != neg)) | _, _ => none
  | .eqn neg kind x y => (nilEq kind (x.ev e) (y.ev e)).map fun t => .b (t != neg)
  | .eqa neg offs x y => (eqA F offs (x.ev e) (y.ev e)).map fun t => .b (t != neg)
  | .una op x => match op, x.ev e with
    | .not, .b t => some (.b !t)
    | .neg, .i k n => some (.i k (mkE F .sub k (.c 0) n))
    | .xor, .i k n => some (.i k (mkE F .xor k (.c (if k.signed then -1 else k.max)) n))
    | _, _ => none
  | .cv k x => match x.ev e with | .i _ n => some (.i k (mkW F k n)) | _ => none
  | .ifc t x => some (.ifc t (x.ev e))
  | .mkf f caps => some (.fn f (caps.map (O.ev e)))
  | .slc size x lo hi mx => match optNat e lo, optNat e hi, optNat e mx with | some l, some h, some m => sliceA size (x.ev e) l h m | _, _, _ => none
  | .sla n size x lo hi mx => match optNat e lo, optNat e hi, optNat e mx with | some l, some h, some m => slaA n size (x.ev e) l h m | _, _, _ => none
  | .fa off x => match x.ev e with | .p b o => some (.p b (o + off)) | _ => none
  | .fl off n x => match x.ev e with | .ag cs => AV.part n cs off | _ => none
  | .ia size arr x i => match asNat (i.ev e), arr, x.ev e with
    | some j, some n, .p b o => if Nat.blt j n then some (.p b (o + j * size)) else none
    | some j, none, .sl b o (.c (.ofNat n)) _ => if Nat.blt j n then some (.p b (o + j * size)) else none
    | _, _, _ => none
  | .ix n size len x i => match asNat (i.ev e), x.ev e with
    | some j, .ag cs => if Nat.blt j len then AV.part n cs (j * size) else none
    | _, _ => none
  | .tas t z ok x => match x.ev e with
    | .ifc t' v => if Nat.beq t' t then some (if ok then .tp [v, .b true] else v) else if ok then some (.tp [z, .b false]) else none
    | .nif => if ok then some (.tp [z, .b false]) else none
    | _ => none
  | .ext x i => match x.ev e with | .tp vs => vs[i]? | _ => none
  | .len x => match x.ev e with
    | .sl _ _ n _ => some (.i .i64 n)
    | .nsl | .sle _ => some (.i .i64 (.c 0))
    | _ => none
  | .lens x => match x.ev e with
    | .str s => some (.i .i64 (.c (.ofNat s.size)))
    | .bs l => some (.i .i64 (.c (.ofNat l.length)))
    | _ => none
  | .lenk n => some (.i .i64 (.c (.ofNat n)))
  | .mm most x y => match x.ev e, y.ev e with
    | .i k a, .i _ b => match cmpI F (if most then .gtr else .lss) b a with | some t => some (.i k (if t then b else a)) | none => none
    | _, _ => none
  | _ => none

def K.isPure : K → Bool
  | .ld .. | .alloc .. | .box .. | .bsl .. | .msl .. | .app .. | .st .. | .cpy .. | .mkm | .lku .. | .mup .. | .bts .. | .call .. | .callv .. => false
  | _ => true

/-- The cells that a slice's first so many elements have. -/
def firstA (H : AH) (size n : Nat) : AV → Option (List AV)
  | .sl blk off _ _ => H.row blk off (n * size)
  | .nsl | .sle _ => if Nat.beq n 0 then some [] else none
  | _ => none

def lenA : AV → Option Nat
  | .sl _ _ (.c (.ofNat n)) _ => some n
  | .nsl | .sle _ => some 0
  | _ => none

def newRowA (H : AH) (e : Nat) (cells : List AV) : Option (Nat × AH) := if Nat.beq e mapTag then none else H.alloc ⟨cells, e, true⟩

def most : Nat := 140737488355328

def grown (H : AH) (e size bytes need : Nat) (old new : List AV) : Option (AV × AH) :=
  if Nat.ble (need * bytes) most && Nat.ble need most && Nat.blt 0 size then
    match newRowA H e (old ++ new) with
    | some (b, H') => some (.sl b 0 (.c (.ofNat need)) (.own size), H')
    | none => none
  else none

def appA (H : AH) (e size bytes : Nat) (x y : AV) : Option (AV × AH) :=
  match lenA x, lenA y with
  | some a, some n =>
    match firstA H size n y with
    | none => none
    | some new =>
      if Nat.beq n 0 then (if Nat.ble (a + n) most then some (x, H) else none) else
      if !(new.all AV.one) then none else
      match x with
      | .nsl | .sle true => grown H e size bytes (a + n) [] new
      | .sl blk off len (.ex c) =>
        if Nat.ble (a + n) c then (match H.wr blk (off + a * size) new with | some H' => some (.sl blk off (.c (.ofNat (a + n))) (.ex c), H') | none => none)
        else (match firstA H size a (.sl blk off len (.ex c)) with | some old => grown H e size bytes (a + n) old new | none => none)
      | .sl blk off len (.own z) =>
        match H.get blk, firstA H size a (.sl blk off len (.own z)) with
        | some b, some old =>
          if b.own && Nat.beq z size && Nat.beq (off + a * size) b.cells.length && !(Nat.beq b.elem mapTag) then
            match H.lay blk none with
            | some H1 => grown H1 e size bytes (a + n) old new
            | none => none
          else none
        | _, _ => none
      | _ => none
  | _, _ => none

def repA : Nat → List AV → List AV
  | 0, _ => []
  | n + 1, z => z ++ repA n z

abbrev CallFn := Nat → List AV → AH → Option (AV × AH)

def opA (F : Facts) (call : CallFn) (e : Tr AV) (H : AH) (k : K) : Option (AV × AH) :=
  match k with
  | .ld n a => match a.ev e with
    | .p b o => (H.rd b o n).map fun v => (v, H)
    | _ => none
  | .alloc t z => if z.all AV.one then (newRowA H t z).map fun r => (.p r.1 0, r.2) else none
  | .box t x => match (x.ev e).cells with
    | some cs => (newRowA H t cs).map fun r => (.p r.1 0, r.2)
    | none => none
  | .bsl t size len z ps =>
    if Nat.ble (len * size) 16777216 && Nat.beq z.length size && Nat.blt 0 size && z.all AV.one then
      match fillA e (repA len z) ps with
      | some cs => (newRowA H t cs).map fun r => (.sl r.1 0 (.c (.ofNat len)) (.ex len), r.2)
      | none => none
    else none
  | .msl t size bytes z l c => match asNat (l.ev e), asNat (c.ev e) with
    | some l, some c =>
      if Nat.ble l c && Nat.ble (c * bytes) most && Nat.ble c most && Nat.beq z.length size && Nat.blt 0 size && z.all AV.one then
        (newRowA H t (repA c z)).map fun r => (.sl r.1 0 (.c (.ofNat l)) (.ex c), r.2)
      else none
    | _, _ => none
  | .app t size bytes x y => appA H t size bytes (x.ev e) (y.ev e)
  | .st n a x => match a.ev e, (x.ev e).cells with
    | .p b o, some cs => if Nat.beq cs.length n then (H.wr b o cs).map fun H' => (.u, H') else none
    | _, _ => none
  | .cpy size d s => match lenA (d.ev e), lenA (s.ev e) with
    | some a, some b =>
      let n := min b a
      match firstA H size n (s.ev e), d.ev e with
      | some cs, .sl blk off _ _ => (H.wr blk off cs).map fun H' => (.i .i64 (.c (.ofNat n)), H')
      | some cs, _ => if cs.isEmpty then some (.i .i64 (.c (.ofNat n)), H) else none
      | _, _ => none
    | _, _ => none
  | .mkm => (H.alloc ⟨[], mapTag, true⟩).map fun r => (.mp r.1, r.2)
  | .lku s z ok m k => match m.ev e with
    | .nmp => some (if ok then .tp [z, .b false] else z, H)
    | .mp b => match H.get b with
      | some x => if Nat.beq x.elem mapTag then (match findA s (k.ev e) x.cells 0 with
          | some (some (_, v)) => some (if ok then .tp [v, .b true] else v, H)
          | some none => some (if ok then .tp [z, .b false] else z, H)
          | none => none) else none
      | none => none
    | _ => none
  | .mup s m k v => match m.ev e with
    | .mp b => match H.get b with
      | some x => if Nat.beq x.elem mapTag then (match findA s (k.ev e) x.cells 0 with
          | some (some (i, _)) => (H.lay b (some { x with cells := x.cells.set (2 * i + 1) (v.ev e) })).map fun H' => (.u, H')
          | some none => (H.lay b (some { x with cells := x.cells ++ [k.ev e, v.ev e] })).map fun H' => (.u, H')
          | none => none) else none
      | none => none
    | _ => none
  | .bts x => match lenA (x.ev e) with
    | some n => match firstA H 1 n (x.ev e) with
      | some cs => (bytesA cs).map fun l => (.bs l, H)
      | none => none
    | none => none
  | .call f args => call f (args.map (O.ev e)) H
  | .callv x args => match x.ev e with
    | .fn f caps => call f (args.map (O.ev e) ++ caps) H
    | _ => none
  | k => (pureA F e k).map fun v => (v, H)

/-- Code. -/
structure IOp where
  dst : Option Nat
  op : K
  guard : Option (Nat × Bool)
  anc : List Nat
  free : Bool

inductive IC where
  | skip
  | reg (ops : List IOp)
  | draw (ops : List IOp)
  | seq (a b : IC)
  | cond (c : O) (a b : IC)
  | block (id : Nat) (a : IC)
  | loop (a : IC)
  | scope (a : IC)
  | exit (id : Nat)
  | ret
  | bad

inductive Ex where
  | normal
  | exit (id : Nat)
  | ret

def putE (e : Tr AV) (d : Option Nat) (v : AV) : Option (Tr AV) :=
  match d with
  | none => some e
  | some d => if Nat.blt d room then some (Tr.put depth e d (some v)) else none

def wantedA (e : Tr AV) : Option (Nat × Bool) → Option Bool
  | none => some true
  | some (t, want) => match e.get t with | some (.b x) => some (x == want) | some (.tp _) => some false | _ => none

def regA (F : Facts) (call : CallFn) : List IOp → Tr AV → AH → Option (Tr AV × AH)
  | [], e, H => some (e, H)
  | o :: r, e, H =>
    match wantedA e o.guard with
    | some true =>
      match opA F call e H o.op with
      | some (v, H') => match putE e o.dst v with | some e' => regA F call r e' H' | none => none
      | none => none
    | some false => match putE e o.dst (.tp []) with | some e' => regA F call r e' H | none => none
    | none => none

def O.slots : O → List Nat
  | .t i => [i]
  | .k _ => []

def oslots : Option O → List Nat
  | none => []
  | some x => x.slots

def K.slots : K → List Nat
  | .mv x | .nck x | .una _ x | .cv _ x | .ifc _ x | .fa _ x | .fl _ _ x | .tas _ _ _ x | .ext x _ | .len x | .lens x | .ld _ x | .box _ x => x.slots
  | .pick c a b => c.slots ++ a.slots ++ b.slots
  | .bld _ ps | .bsl _ _ _ _ ps => ps.flatMap fun p => p.2.2.slots
  | .bin _ x y | .eqb _ x y | .eqn _ _ x y | .eqa _ _ x y | .mm _ x y | .ia _ _ x y | .ix _ _ _ x y | .msl _ _ _ _ x y | .app _ _ _ x y | .st _ x y | .cpy _ x y => x.slots ++ y.slots
  | .lku _ _ _ x y => x.slots ++ y.slots
  | .mup _ x y z => x.slots ++ y.slots ++ z.slots
  | .bts x => x.slots
  | .mkf _ l | .call _ l => l.flatMap O.slots
  | .callv x l => x.slots ++ l.flatMap O.slots
  | .slc _ x lo hi mx | .sla _ _ x lo hi mx => x.slots ++ oslots lo ++ oslots hi ++ oslots mx
  | .lenk _ | .alloc _ _ | .mkm | .bad => []

def IOp.slots (o : IOp) : List Nat := o.op.slots ++ (match o.guard with | some g => [g.1] | none => [])

abbrev Spans := List (Nat × Nat × Nat)

def spansBut (anc : List Nat) : Spans → List (Nat × Nat)
  | [] => []
  | p :: r => if anc.contains p.1 then spansBut anc r else p.2 :: spansBut anc r

/-- Stores that are not free: which operation, which block, what is ahead of it. -/
abbrev Lone := List (Nat × Nat × List Nat)

def IOp.isSt (o : IOp) : Bool := match o.op with | .st .. => !o.free | _ => false

/-- Where such a store goes. -/
def stTo (i : Nat) (o : IOp) (e : Tr AV) : List (Nat × Nat) :=
  match o.op with
  | .st _ a _ => if o.free then [] else (match a.ev e with | .p b _ => [(i, b)] | _ => [])
  | _ => []

/-- Where they go, in the text's order: a first look. -/
def scanA (F : Facts) (call : CallFn) : Nat → List IOp → Tr AV → AH → Option (List (Nat × Nat))
  | _, [], _, _ => some []
  | i, o :: r, e, H =>
    match wantedA e o.guard with
    | some true =>
      match opA F call e H o.op with
      | some (v, H') => match putE e o.dst v with | some e' => (scanA F call (i + 1) r e' H').map fun l => stTo i o e ++ l | none => none
      | none => none
    | some false => match putE e o.dst (.tp []) with | some e' => scanA F call (i + 1) r e' H | none => none
    | none => none

def attach (ops : List IOp) : List (Nat × Nat) → Lone
  | [] => []
  | p :: r => match ops[p.1]? with | some x => (p.1, p.2, x.anc) :: attach ops r | none => attach ops r

def loneD (F : Facts) (call : CallFn) (ops : List IOp) (e : Tr AV) (H : AH) : Option Lone := if ops.any IOp.isSt then (scanA F call 0 ops e H).map (attach ops) else some []

def loneAt : Lone → Nat → Option Nat
  | [], _ => none
  | p :: r, i => if Nat.beq p.1 i then some p.2.1 else loneAt r i

/-- The blocks that are there (below n) and that such a store may go to, where it is not ahead of this one, nor behind it. -/
def hidL (n i : Nat) (anc : List Nat) : Lone → List (Nat × Nat)
  | [] => []
  | p :: r => if anc.contains p.1 || p.2.2.contains i || Nat.ble n p.2.1 then hidL n i anc r else (p.2.1, p.2.1 + 1) :: hidL n i anc r

/-- Whatever else goes to that block is ahead of this one, or behind it. -/
def loneOk (i : Nat) (anc : List Nat) (b : Nat) : Lone → Bool
  | [] => true
  | p :: r => (!(Nat.beq p.2.1 b) || Nat.beq p.1 i || anc.contains p.1 || p.2.2.contains i) && loneOk i anc b r

/-- One operation of a region whose order is open: as if those that need not be ahead of it were not there. -/
def stepD (F : Facts) (call : CallFn) (L : Lone) (i : Nat) (o : IOp) (s : Tr AV × AH × Spans) : Option (Tr AV × AH × Spans) :=
  match s with
  | (e, H, sp) =>
    match wantedA e o.guard with
    | some true =>
      if o.op.isPure then
        match pureA F e o.op with
        | some v => (putE e o.dst v).map fun e' => (e', H, sp)
        | none => none
      else if o.free then
        match opA F call e H o.op with
        | some (v, H') => (putE e o.dst v).map fun e' => (e', H', [])
        | none => none
      else
        match loneAt L i with
        | some b => match o.op with
          | .st n a x => match a.ev e with
            | .p b' _ =>
              if Nat.beq b' b && loneOk i o.anc b L && !(hidden (spansBut o.anc sp) b) then
                match opA F call e H (.st n a x) with
                | some (v, H') => (putE e o.dst v).map fun e' => (e', H', sp)
                | none => none
              else none
            | _ => none
          | _ => none
        | none =>
          match opA F call e { H with low := H.next, hid := spansBut o.anc sp ++ (hidL H.next i o.anc L ++ H.hid) } o.op with
          | some (v, H') => (putE e o.dst v).map fun e' => (e', { H' with low := H.low, hid := H.hid }, if Nat.beq H'.next H.next then sp else (i, H.next, H'.next) :: sp)
          | none => none
    | some false => (putE e o.dst (.tp [])).map fun e' => (e', H, sp)
    | none => none

def foldD (F : Facts) (call : CallFn) (L : Lone) : Nat → List IOp → Tr AV × AH × Spans → Option (Tr AV × AH × Spans)
  | _, [], s => some s
  | i, o :: r, s => match stepD F call L i o s with | some s' => foldD F call L (i + 1) r s' | none => none

/-- Code, with so much fuel. -/
def codeA (F : Facts) (call : CallFn) : Nat → IC → Tr AV → AH → Option (Ex × Tr AV × AH)
  | 0, _, _, _ => none
  | n + 1, c, e, H =>
    match c with
    | .skip => some (.normal, e, H)
    | .reg ops => (regA F call ops e H).map fun r => (.normal, r.1, r.2)
    | .draw ops => if Nat.ble H.low H.next then (match loneD F call ops e H with | some L => (foldD F call L 0 ops (e, H, [])).map fun r => (.normal, r.1, r.2.1) | none => none) else none
    | .seq a b =>
      match codeA F call n a e H with
      | some (.normal, e1, H1) => codeA F call n b e1 H1
      | r => r
    | .cond c a b =>
      match c.ev e with
      | .b true => codeA F call n a e H
      | .b false => codeA F call n b e H
      | _ => none
    | .block id a =>
      match codeA F call n a e H with
      | some (.exit i, e1, H1) => some (if Nat.beq i id then .normal else .exit i, e1, H1)
      | r => r
    | .loop a =>
      match codeA F call n a e H with
      | some (.normal, e1, H1) => codeA F call n (.loop a) e1 H1
      | r => r
    | .scope a => codeA F call n a e H
    | .exit id => some (.exit id, e, H)
    | .ret => some (.ret, e, H)
    | .bad => none

/-- Where a result stands: in a slot, or in the heap. -/
inductive IRes where
  | t (i : Nat)
  | c (i : Nat) (n : Option Nat)

/-- A function: its code, its results, how many slots. -/
structure IFn where
  body : IC
  results : List IRes
  slots : Nat

def argsE : Nat → List AV → Option (Tr AV)
  | _, [] => some .l
  | i, x :: r => match argsE (i + 1) r with | some e => putE e (some i) x | none => none

def oneRes (e : Tr AV) (H : AH) : IRes → Option AV
  | .t i => some ((e.get i).getD .u)
  | .c i n => match (e.get i).getD .u with | .p b o => H.rd b o n | _ => none

def allRes (e : Tr AV) (H : AH) : List IRes → Option (List AV)
  | [] => some []
  | x :: r => match oneRes e H x, allRes e H r with | some v, some l => some (v :: l) | _, _ => none

def resA (e : Tr AV) (H : AH) (l : List IRes) : Option AV :=
  match allRes e H l with
  | some [v] => some v
  | some l => some (.tp l)
  | none => none

def runFn (F : Facts) (call : CallFn) (n : Nat) (f : IFn) (args : List AV) (H : AH) : Option (AV × AH) :=
  if Nat.ble args.length f.slots then
    match argsE 0 args with
    | some e =>
      match codeA F call n f.body e H with
      | some (.exit _, _, _) => none
      | some (_, e', H') => match resA e' H' f.results with | some v => some (v, H') | none => none
      | none => none
    | none => none
  else none

/-- Calls, so deep. -/
def callA (F : Facts) (tab : Nat → Option IFn) (fuel : Nat) : Nat → CallFn
  | 0, _, _, _ => none
  | d + 1, f, args, H => match tab f with | some fn => runFn F (callA F tab fuel d) fuel fn args H | none => none

end Go.Sh
