/-
  A SHADOW MACHINE. Abstract values, an abstract heap, and what they say of a world. Own work.
  THE SHADOW MACHINE: its operations, and what they are made of. Own work.
  THE SHADOW MACHINE: what a function's code is made to; and that each operation without a heap says what the real one does. Own work.
  THE SHADOW MACHINE: each operation without a heap says what the real one does. Own work.
  THE SHADOW MACHINE: each operation without a heap says what the real one does, the rest of them. Own work.
  THE SHADOW MACHINE: the last operations without a heap; how the heap is read, written and grown. Own work.
  THE SHADOW MACHINE: how the heap is read, written and grown. Own work.
-/
import Derived.Calls
import Derived.LoopN
import Derived.Orders
import Derived.Laws.Sem
import Derived.Laws.Entries
import Derived.Laws.CopyRow
import Derived.Laws.AppendOwn
import Derived.Laws.Tables
import Derived.Laws.MakeOwn
import Derived.Laws.Small
import Derived.ChangeKeysEq
namespace Go.Sh

/-- A binary tree, by place: what stands at the places of an environment or a heap. -/
inductive Tr (α : Type) where
  | l : Tr α
  | n : Tr α → Option α → Tr α → Tr α

def Tr.get {α : Type} : Tr α → Nat → Option α
  | .l, _ => none
  | .n a v b, i => if i = 0 then v else if i % 2 = 1 then a.get (i / 2) else b.get (i / 2 - 1)

def Tr.put {α : Type} : Nat → Tr α → Nat → Option α → Tr α
  | 0, t, _, _ => t
  | f + 1, .l, i, x => if i = 0 then .n .l x .l else if i % 2 = 1 then .n (Tr.put f .l (i / 2) x) none .l else .n .l none (Tr.put f .l (i / 2 - 1) x)
  | f + 1, .n a v b, i, x => if i = 0 then .n a x b else if i % 2 = 1 then .n (Tr.put f a (i / 2) x) v b else .n a v (Tr.put f b (i / 2 - 1) x)

theorem Tr.get_put {α : Type} (x : Option α) : ∀ (f : Nat) (t : Tr α) (i j : Nat), i + 1 < 2 ^ f → (Tr.put f t i x).get j = if j = i then x else t.get j := by
  intro f
  induction f with
  | zero => intro t i j h; simp at h
  | succ f ih =>
    intro t i j h
    have hp : 2 ^ (f + 1) = 2 * 2 ^ f := by rw [Nat.pow_succ]; omega
    cases t with
    | l =>
      simp only [Tr.put]
      by_cases h0 : i = 0
      · subst h0
        by_cases hj : j = 0 <;> simp [Tr.get, hj]
      · by_cases h1 : i % 2 = 1
        · simp only [h0, h1, if_true, if_false, Tr.get]
          by_cases hj : j = 0
          · subst hj; simp; omega
          · by_cases hj1 : j % 2 = 1
            · rw [if_neg hj, if_pos hj1, ih _ _ _ (by omega)]
              by_cases e : j = i
              · simp [e]
              · have : j / 2 ≠ i / 2 := by omega
                simp [e, this, Tr.get]
            · have : j ≠ i := by omega
              simp [hj, hj1, this]
        · simp only [h0, h1, if_false, Tr.get]
          by_cases hj : j = 0
          · subst hj; simp; omega
          · by_cases hj1 : j % 2 = 1
            · have : j ≠ i := by omega
              simp [hj, hj1, this]
            · rw [if_neg hj, if_neg hj1, ih _ _ _ (by omega)]
              by_cases e : j = i
              · simp [e]
              · have : j / 2 - 1 ≠ i / 2 - 1 := by omega
                simp [e, this, Tr.get]
    | n a v b =>
      simp only [Tr.put]
      by_cases h0 : i = 0
      · subst h0
        by_cases hj : j = 0 <;> simp [Tr.get, hj]
      · by_cases h1 : i % 2 = 1
        · simp only [h0, h1, if_true, if_false, Tr.get]
          by_cases hj : j = 0
          · subst hj; simp; omega
          · by_cases hj1 : j % 2 = 1
            · rw [if_neg hj, if_pos hj1, ih _ _ _ (by omega)]
              by_cases e : j = i
              · simp [e]
              · have : j / 2 ≠ i / 2 := by omega
                simp [e, this, hj, hj1]
            · have : j ≠ i := by omega
              simp [hj, hj1, this]
        · simp only [h0, h1, if_false, Tr.get]
          by_cases hj : j = 0
          · subst hj; simp; omega
          · by_cases hj1 : j % 2 = 1
            · have : j ≠ i := by omega
              simp [hj, hj1, this]
            · rw [if_neg hj, if_neg hj1, ih _ _ _ (by omega)]
              by_cases e : j = i
              · simp [e]
              · have : j / 2 - 1 ≠ i / 2 - 1 := by omega
                simp [e, this, hj, hj1]

/-- Numbers: known, or named, or worked out of these. -/
inductive AI where
  | c (n : Int)
  | s (k : Nat)
  | e (op : BinOp) (k : IntKind) (x y : AI)
  | w (k : IntKind) (x : AI)

/-- What an operator makes of two numbers. -/
def arith (op : BinOp) (k : IntKind) (a b : Int) : Int :=
  match op with
  | .add => k.wrap (a + b)
  | .sub => k.wrap (a - b)
  | .mul => k.wrap (a * b)
  | .quo => k.wrap (a.tdiv b)
  | .rem => a.tmod b
  | .and => k.wrap ((BitVec.ofInt k.bits a &&& BitVec.ofInt k.bits b).toNat)
  | .or => k.wrap ((BitVec.ofInt k.bits a ||| BitVec.ofInt k.bits b).toNat)
  | .xor => k.wrap ((BitVec.ofInt k.bits a ^^^ BitVec.ofInt k.bits b).toNat)
  | .andNot => k.wrap ((BitVec.ofInt k.bits a &&& ~~~(BitVec.ofInt k.bits b)).toNat)
  | .shl => k.wrap (a * 2 ^ (min b.toNat k.bits))
  | .shr => a.fdiv (2 ^ (min b.toNat k.bits))
  | _ => 0

def compare (op : BinOp) (a b : Int) : Bool :=
  match op with
  | .eql => a == b
  | .neq => a != b
  | .lss => a < b
  | .leq => a ≤ b
  | .gtr => a > b
  | .geq => a ≥ b
  | _ => false

def AI.val (ν : Nat → Int) : AI → Int
  | .c n => n
  | .s k => ν k
  | .e op k x y => arith op k (x.val ν) (y.val ν)
  | .w k x => k.wrap (x.val ν)

def AI.beq : AI → AI → Bool
  | .c a, .c b => a == b
  | .s a, .s b => a == b
  | .e o k x y, .e o' k' x' y' => (o == o') && (k == k') && x.beq x' && y.beq y'
  | .w k x, .w k' x' => (k == k') && x.beq x'
  | _, _ => false

theorem AI.beq_eq : ∀ (x y : AI), x.beq y = true → x = y := by
  intro x
  induction x with
  | c n => intro y h; cases y <;> simp_all [AI.beq]
  | s n => intro y h; cases y <;> simp_all [AI.beq]
  | e o k a b iha ihb =>
    intro y h
    cases y <;> simp_all [AI.beq]
    exact ⟨iha _ h.1.2, ihb _ h.2⟩
  | w k a ih =>
    intro y h
    cases y <;> simp_all [AI.beq]
    exact ih _ h.2

/-- A block that is so marked is a map: its cells are keys and what is at them, in turn. -/
def mapTag : Nat := 1152921504606846976
/-- A block that is so marked (beyond a map's mark) is a row of numbers of which no cell is known by itself: its length and its numbers have names of their own. -/
def pinL (e : Nat) : Nat := (e - mapTag) * 1099511627776
def pinB (e j : Nat) : Nat := (e - mapTag) * 1099511627776 + (j + 1)
def pinK (e : Nat) : IntKind := if (e - mapTag) % 2 = 0 then .u8 else .i64
def pinA (e : Nat) : Nat := (e - mapTag) * 1099511627776 + 1099511627775
/-- The numbers of a row. -/
def lst (ν : Nat → Int) (t : Nat) : List Int := (List.range (ν (pinL t)).toNat).map fun j => ν (pinB t j)
def lst0 (ν : Nat → Int) (t : Nat) : List Int := if t = 0 then [] else if t < mapTag then List.replicate (ν t).toNat 0 else lst ν t
theorem lst0_zero (ν : Nat → Int) : lst0 ν 0 = [] := if_pos rfl
theorem lst0_row (ν : Nat → Int) {t : Nat} (h : mapTag < t) : lst0 ν t = lst ν t := by
  unfold lst0
  rw [if_neg (by omega), if_neg (by omega)]
/-- A name's worth of noughts. -/
theorem lst0_nought (ν : Nat → Int) {t : Nat} (h0 : 0 < t) (h : t < mapTag) : lst0 ν t = List.replicate (ν t).toNat 0 := by
  unfold lst0
  rw [if_neg (by omega), if_pos h]

/-- What is taken to be so of the named numbers: some are known; some comparisons are; some rows are others, side by side. -/
structure Facts where
  val : List (AI × Int)
  cmp : List (BinOp × AI × AI × Bool)
  cat : List (Nat × List AI × Nat × Nat)

structure Facts.Hold (F : Facts) (ν : Nat → Int) : Prop where
  val : ∀ p ∈ F.val, p.1.val ν = p.2
  cmp : ∀ p ∈ F.cmp, compare p.1 (p.2.1.val ν) (p.2.2.1.val ν) = p.2.2.2
  cat : ∀ p ∈ F.cat, 0 ≤ ν (pinL p.2.2.2) ∧ lst ν p.2.2.2 = lst0 ν p.1 ++ p.2.1.map (AI.val ν) ++ lst0 ν p.2.2.1

def findVal : List (AI × Int) → AI → AI
  | [], x => x
  | p :: r, x => if p.1.beq x then .c p.2 else findVal r x

theorem findVal_val {ν : Nat → Int} (x : AI) : ∀ l : List (AI × Int), (∀ p ∈ l, p.1.val ν = p.2) → (findVal l x).val ν = x.val ν := by
  intro l
  induction l with
  | nil => intro _; rfl
  | cons p r ih =>
    intro h
    simp only [findVal]
    split
    · rename_i hb
      have := AI.beq_eq _ _ hb
      subst this
      exact (h p (by simp)).symm
    · exact ih fun q hq => h q (by simp [hq])

def findCmp : List (BinOp × AI × AI × Bool) → BinOp → AI → AI → Option Bool
  | [], _, _, _ => none
  | p :: r, o, x, y => if (p.1 == o) && p.2.1.beq x && p.2.2.1.beq y then some p.2.2.2 else findCmp r o x y

theorem findCmp_val {ν : Nat → Int} (o : BinOp) (x y : AI) (t : Bool) : ∀ l : List (BinOp × AI × AI × Bool), (∀ p ∈ l, compare p.1 (p.2.1.val ν) (p.2.2.1.val ν) = p.2.2.2) →
    findCmp l o x y = some t → compare o (x.val ν) (y.val ν) = t := by
  intro l
  induction l with
  | nil => intro _ h; simp [findCmp] at h
  | cons p r ih =>
    intro h hf
    simp only [findCmp] at hf
    split at hf
    · rename_i hb
      simp only [Bool.and_eq_true, beq_iff_eq] at hb
      have h1 := AI.beq_eq _ _ hb.1.2
      have h2 := AI.beq_eq _ _ hb.2
      rw [← h1, ← h2, ← hb.1.1, h p (by simp)]
      exact Option.some.inj hf
    · exact ih (fun q hq => h q (by simp [hq])) hf

def mkE (F : Facts) (op : BinOp) (k : IntKind) (x y : AI) : AI :=
  match x, y with
  | .c a, .c b => .c (arith op k a b)
  | x, y => findVal F.val (.e op k x y)

theorem mkE_val {F : Facts} {ν : Nat → Int} (h : F.Hold ν) (op : BinOp) (k : IntKind) (x y : AI) : (mkE F op k x y).val ν = arith op k (x.val ν) (y.val ν) := by
  unfold mkE
  split
  · rfl
  · exact findVal_val _ _ h.val

def mkW (F : Facts) (k : IntKind) (x : AI) : AI :=
  match x with
  | .c a => .c (k.wrap a)
  | x => findVal F.val (.w k x)

theorem mkW_val {F : Facts} {ν : Nat → Int} (h : F.Hold ν) (k : IntKind) (x : AI) : (mkW F k x).val ν = k.wrap (x.val ν) := by
  unfold mkW
  split
  · rfl
  · exact findVal_val _ _ h.val

def cmpI (F : Facts) (op : BinOp) (x y : AI) : Option Bool :=
  match x, y with
  | .c a, .c b => some (compare op a b)
  | x, y => findCmp F.cmp op x y

theorem cmpI_val {F : Facts} {ν : Nat → Int} (h : F.Hold ν) (op : BinOp) (x y : AI) (t : Bool) (hc : cmpI F op x y = some t) : compare op (x.val ν) (y.val ν) = t := by
  unfold cmpI at hc
  split at hc
  · exact Option.some.inj hc
  · exact findCmp_val _ _ _ _ _ h.cmp hc

/-- What is known of a slice's capacity: it; that all of it is its own, so many cells an element; nothing. -/
inductive Cap where
  | ex (n : Nat)
  | own (z : Nat)
  | any

/-- Values: 'u' is whatever it is. -/
inductive AV where
  | u
  | b (x : Bool)
  | i (k : IntKind) (n : AI)
  | str (s : ByteArray)
  | bs (l : List AI)
  | p (blk off : Nat)
  | np
  | sl (blk off : Nat) (len : AI) (cap : Cap)
  | nsl
  | sle (z : Bool)
  | fn (f : Nat) (caps : List AV)
  | nfn
  | ifc (t : Nat) (v : AV)
  | nif
  | nmp
  | mp (blk : Nat)
  | ag (cells : List AV)
  | tp (vs : List AV)
  | slw (blk z : Nat) (k : AI) (wd : Nat) (len : AI) (cap : Cap)
  /-- A value that is known outright. -/
  | kv (v : Value)

/-- Where a block lies: a block of the world, the place in it, how many cells that one has. -/
structure Pl where
  cb : Nat
  co : Nat
  tot : Nat

/-- So many of the first abstract blocks are the program's package-level variables. -/
def gmax : Nat := 64

structure Emb where
  f : Nat → Option Pl
  glob : ∀ g, g < gmax → ∃ tot, f g = some ⟨g, 0, tot⟩

instance : CoeFun Emb (fun _ => Nat → Option Pl) := ⟨Emb.f⟩

def CapOk (cap : Cap) (pl : Pl) (off c : Nat) : Prop :=
  match cap with
  | .ex x => x = c
  | .own z => pl.co + off + c * z ≤ pl.tot
  | .any => True

def Emb.le (ρ ρ' : Emb) : Prop := ∀ b x, ρ b = some x → ρ' b = some x

theorem Emb.le_refl (ρ : Emb) : Emb.le ρ ρ := fun _ _ h => h
theorem Emb.le_trans {a b c : Emb} (h : Emb.le a b) (k : Emb.le b c) : Emb.le a c := fun x y e => k x y (h x y e)

/-- A byte, and a string of bytes, known or named. -/
def byteOf (ν : Nat → Int) (n : AI) : UInt8 := UInt8.ofNat (n.val ν).toNat
def bytesOf (ν : Nat → Int) (l : List AI) : ByteArray := ⟨(l.map (byteOf ν)).toArray⟩

inductive VR (ν : Nat → Int) (ρ : Emb) : AV → Value → Prop
  | u (v : Value) : VR ν ρ .u v
  | b (x : Bool) : VR ν ρ (.b x) (.bool x)
  | i (k : IntKind) (n : AI) : VR ν ρ (.i k n) (.int k (n.val ν))
  | str (s : ByteArray) : VR ν ρ (.str s) (.string s)
  | bs (l : List AI) : VR ν ρ (.bs l) (.string (bytesOf ν l))
  | p (blk off : Nat) (pl : Pl) (h : ρ blk = some pl) : VR ν ρ (.p blk off) (.pointer (some ⟨pl.cb, pl.co + off, none⟩))
  | np : VR ν ρ .np (.pointer none)
  | sl (blk off : Nat) (len : AI) (cap : Cap) (pl : Pl) (n c : Nat) (h : ρ blk = some pl) (hn : len.val ν = n) (hc : CapOk cap pl off c) (hl : n ≤ c) :
      VR ν ρ (.sl blk off len cap) (.slice (some ⟨pl.cb, pl.co + off, none⟩) n c)
  | nsl : VR ν ρ .nsl (.slice none 0 0)
  | sle (z : Bool) (a : Addr) (c : Nat) (h : z = true → c = 0) : VR ν ρ (.sle z) (.slice (some a) 0 c)
  | fn (f : Nat) (caps : List AV) (vs : Array Value) (hs : caps.length = vs.size) (h : ∀ (j : Nat) (x : AV) (v : Value), caps[j]? = some x → vs[j]? = some v → VR ν ρ x v) :
      VR ν ρ (.fn f caps) (.func (.func f) #[] vs)
  | nfn : VR ν ρ .nfn .nilFunc
  | ifc (t : Nat) (x : AV) (v : Value) (h : VR ν ρ x v) : VR ν ρ (.ifc t x) (.iface t v)
  | nif : VR ν ρ .nif .nilIface
  | nmp : VR ν ρ .nmp (.map none)
  | mp (blk : Nat) (pl : Pl) (h : ρ blk = some pl) : VR ν ρ (.mp blk) (.map (some pl.cb))
  | ag (cs : List AV) (vs : Array Value) (hs : cs.length = vs.size) (h : ∀ (j : Nat) (x : AV) (v : Value), cs[j]? = some x → vs[j]? = some v → VR ν ρ x v) : VR ν ρ (.ag cs) (.agg vs)
  | tp (cs : List AV) (vs : Array Value) (hs : cs.length = vs.size) (h : ∀ (j : Nat) (x : AV) (v : Value), cs[j]? = some x → vs[j]? = some v → VR ν ρ x v) : VR ν ρ (.tp cs) (.tuple vs)
  /-- A slice of which a window is known: its element k lies where the block does; so many are known from there. -/
  | slw (blk z : Nat) (k : AI) (wd : Nat) (len : AI) (cap : Cap) (pl : Pl) (o a n c : Nat) (h : ρ blk = some pl) (ha : k.val ν = a) (ho : pl.co = o + a * z) (hw : a + wd ≤ n) (hn : len.val ν = n) (hc : CapOk cap ⟨pl.cb, o, pl.tot⟩ 0 c) (hl : n ≤ c) (hb : n < 4611686018427387904) :
      VR ν ρ (.slw blk z k wd len cap) (.slice (some ⟨pl.cb, o, none⟩) n c)
  | kv (v : Value) : VR ν ρ (.kv v) v

/-- Many at once. -/
def LR (ν : Nat → Int) (ρ : Emb) (cs : List AV) (vs : Array Value) : Prop :=
  cs.length = vs.size ∧ ∀ (j : Nat) (x : AV) (v : Value), cs[j]? = some x → vs[j]? = some v → VR ν ρ x v

theorem VR.mono {ν : Nat → Int} {ρ ρ' : Emb} (hρ : Emb.le ρ ρ') {x : AV} {v : Value} (h : VR ν ρ x v) : VR ν ρ' x v := by
  induction h with
  | u v => exact .u v
  | b x => exact .b x
  | i k n => exact .i k n
  | str s => exact .str s
  | bs l => exact .bs l
  | p blk off pl h => exact .p blk off pl (hρ _ _ h)
  | np => exact .np
  | sl blk off len cap pl n c h hn hc hl => exact .sl blk off len cap pl n c (hρ _ _ h) hn hc hl
  | nsl => exact .nsl
  | sle z a c h => exact .sle z a c h
  | fn f caps vs hs h ih => exact .fn f caps vs hs ih
  | nfn => exact .nfn
  | ifc t x v h ih => exact .ifc t x v ih
  | nif => exact .nif
  | nmp => exact .nmp
  | mp blk pl h => exact .mp blk pl (hρ _ _ h)
  | ag cs vs hs h ih => exact .ag cs vs hs ih
  | tp cs vs hs h ih => exact .tp cs vs hs ih
  | slw blk z k wd len cap pl o a n c h ha ho hw hn hc hl hb => exact .slw blk z k wd len cap pl o a n c (hρ _ _ h) ha ho hw hn hc hl hb
  | kv v => exact .kv v

theorem LR.mono {ν : Nat → Int} {ρ ρ' : Emb} (hρ : Emb.le ρ ρ') {cs : List AV} {vs : Array Value} (h : LR ν ρ cs vs) : LR ν ρ' cs vs :=
  ⟨h.1, fun j x v hx hv => (h.2 j x v hx hv).mono hρ⟩

/-- A block of the abstract heap. -/
structure ABlk where
  cells : List AV
  elem : Nat
  own : Bool

def ABlk.shut (x : ABlk) : ABlk := { x with own := false }

def hidden : List (Nat × Nat) → Nat → Bool
  | [], _ => false
  | p :: r, b => (Nat.ble p.1 b && Nat.blt b p.2) || hidden r b

/-- The abstract heap: its blocks, the next one's number; what lies below 'low' is but read, and what is hidden is not even that. -/
structure AH where
  tr : Tr ABlk
  next : Nat
  low : Nat
  hid : List (Nat × Nat)

def AH.get (H : AH) (b : Nat) : Option ABlk :=
  if hidden H.hid b then none else if Nat.blt b H.low then (H.tr.get b).map ABlk.shut else if Nat.blt b H.next then H.tr.get b else none

def depth : Nat := 24
def room : Nat := 16777214

def AH.alloc (H : AH) (x : ABlk) : Option (Nat × AH) :=
  if Nat.blt H.next room && Nat.ble H.low H.next && !(hidden H.hid H.next) then some (H.next, { H with tr := Tr.put depth H.tr H.next (some x), next := H.next + 1 }) else none

/-- An own block is laid anew ('none': it is no more). -/
def AH.lay (H : AH) (b : Nat) (x : Option ABlk) : Option AH :=
  match H.get b with
  | some y => if y.own && Nat.blt b room then some { H with tr := Tr.put depth H.tr b x } else none
  | none => none

/-- What no run turns: the bounds, and what lies below 'low'. -/
structure Keeps (H H' : AH) : Prop where
  low : H'.low = H.low
  hid : H'.hid = H.hid
  next : H.next ≤ H'.next
  old : ∀ b, b < H.low → H'.tr.get b = H.tr.get b
  le : H.low ≤ H.next → H'.low ≤ H'.next
  hide : ∀ b, hidden H.hid b = true → H'.tr.get b = H.tr.get b
  born : ∀ b, b < H.next → H.tr.get b = none → H'.tr.get b = none

theorem Keeps.refl (H : AH) : Keeps H H := ⟨rfl, rfl, Nat.le_refl _, fun _ _ => rfl, fun h => h, fun _ _ => rfl, fun _ _ h => h⟩
theorem Keeps.trans {A B C : AH} (h : Keeps A B) (k : Keeps B C) : Keeps A C :=
  ⟨k.low.trans h.low, k.hid.trans h.hid, Nat.le_trans h.next k.next, fun b hb => (k.old b (by rw [h.low]; exact hb)).trans (h.old b hb), fun x => k.le (h.le x), fun b hb => (k.hide b (by rw [h.hid]; exact hb)).trans (h.hide b hb), fun b hb hn => k.born b (Nat.lt_of_lt_of_le hb h.next) (h.born b hb hn)⟩

theorem AH.get_own {H : AH} {b : Nat} {y : ABlk} (h : H.get b = some y) (ho : y.own = true) : H.low ≤ b ∧ b < H.next ∧ H.tr.get b = some y ∧ hidden H.hid b = false := by
  unfold AH.get at h
  split at h
  · cases h
  · rename_i hh
    by_cases hb : Nat.blt b H.low = true
    · rw [if_pos hb] at h
      cases hx : H.tr.get b with
      | none => rw [hx] at h; cases h
      | some z => rw [hx] at h; simp [ABlk.shut] at h; subst h; cases ho
    · rw [if_neg hb] at h
      split at h
      · rename_i hn
        refine ⟨?_, by simpa [Nat.blt_eq] using hn, h, by simpa using hh⟩
        have : ¬ b < H.low := fun hh => hb (by simpa [Nat.blt_eq] using hh)
        omega
      · cases h

theorem AH.alloc_spec {H : AH} {x : ABlk} {b : Nat} {H' : AH} (h : H.alloc x = some (b, H')) :
    b = H.next ∧ H'.next = H.next + 1 ∧ H'.low = H.low ∧ H'.hid = H.hid ∧ H.low ≤ H.next ∧ (∀ j, H'.tr.get j = if j = b then some x else H.tr.get j) ∧ hidden H.hid H.next = false := by
  unfold AH.alloc at h
  split at h
  · rename_i hr
    simp only [Bool.and_eq_true, Nat.blt_eq, Nat.ble_eq] at hr
    simp only [Option.some.injEq, Prod.mk.injEq] at h
    obtain ⟨rfl, rfl⟩ := h
    refine ⟨rfl, rfl, rfl, rfl, hr.1.2, fun j => ?_, by simpa using hr.2⟩
    refine Tr.get_put _ _ _ _ _ ?_
    have := hr.1.1
    unfold room at this
    show H.next + 1 < 2 ^ 24
    omega
  · cases h

theorem AH.alloc_get {H : AH} {x : ABlk} {b : Nat} {H' : AH} (h : H.alloc x = some (b, H')) (j : Nat) : H'.get j = if j = b then some x else H.get j := by
  obtain ⟨h1, h2, h3, h4, h5, h6, h7⟩ := H.alloc_spec h
  unfold AH.get
  rw [h3, h4, h2, h6 j]
  by_cases e : j = b
  · subst e
    have a1 : Nat.blt j H.low = false := by rw [Bool.eq_false_iff]; simp; omega
    have a2 : Nat.blt j (H.next + 1) = true := by simp; omega
    rw [← h1] at h7
    simp [a1, a2, h7]
  · simp only [e, if_false]
    by_cases a1 : Nat.blt j H.low = true
    · simp [a1]
    · by_cases a2 : Nat.blt j H.next = true
      · have a3 : Nat.blt j (H.next + 1) = true := by simp at a2 ⊢; omega
        simp [a1, a2, a3]
      · have a3 : ¬ Nat.blt j (H.next + 1) = true := by simp at a2 ⊢; omega
        simp [a1, a2, a3]

theorem AH.alloc_keeps {H : AH} {x : ABlk} {b : Nat} {H' : AH} (h : H.alloc x = some (b, H')) : Keeps H H' := by
  obtain ⟨h1, h2, h3, h4, h5, h6, h7⟩ := H.alloc_spec h
  refine ⟨h3, h4, by omega, fun j hj => ?_, fun _ => by omega, fun j hj => ?_, fun j hj hn => ?_⟩
  · rw [h6 j, if_neg (by omega)]
  · rw [h6 j, if_neg]
    intro e
    rw [e, h1, h7] at hj
    cases hj
  · rw [h6 j, if_neg (by omega)]
    exact hn

theorem AH.lay_spec {H : AH} {b : Nat} {x : Option ABlk} {H' : AH} (h : H.lay b x = some H') :
    ∃ y, H.get b = some y ∧ y.own = true ∧ H'.next = H.next ∧ H'.low = H.low ∧ H'.hid = H.hid ∧ (∀ j, H'.tr.get j = if j = b then x else H.tr.get j) := by
  unfold AH.lay at h
  cases hy : H.get b with
  | none => rw [hy] at h; cases h
  | some y =>
    rw [hy] at h
    simp only at h
    split at h
    · rename_i hr
      simp only [Bool.and_eq_true, Nat.blt_eq] at hr
      simp only [Option.some.injEq] at h
      subst h
      refine ⟨y, rfl, hr.1, rfl, rfl, rfl, fun j => ?_⟩
      refine Tr.get_put _ _ _ _ _ ?_
      have := hr.2
      unfold room at this
      show b + 1 < 2 ^ 24
      omega
    · cases h

theorem AH.lay_get {H : AH} {b : Nat} {x : Option ABlk} {H' : AH} (h : H.lay b x = some H') (j : Nat) : H'.get j = if j = b then x else H.get j := by
  obtain ⟨y, hy, ho, h2, h3, h4, h6⟩ := H.lay_spec h
  obtain ⟨a1, a2, a3, a6⟩ := H.get_own hy ho
  unfold AH.get
  rw [h3, h4, h2, h6 j]
  by_cases e : j = b
  · subst e
    have a4 : Nat.blt j H.low = false := by rw [Bool.eq_false_iff]; simp; omega
    have a5 : Nat.blt j H.next = true := by simp; omega
    simp [a4, a5, a6]
  · simp only [e, if_false]

theorem AH.lay_keeps {H : AH} {b : Nat} {x : Option ABlk} {H' : AH} (h : H.lay b x = some H') : Keeps H H' := by
  obtain ⟨y, hy, ho, h2, h3, h4, h6⟩ := H.lay_spec h
  obtain ⟨a1, a2, a3, a4⟩ := H.get_own hy ho
  refine ⟨h3, h4, by omega, fun j hj => ?_, fun _ => by omega, fun j hj => ?_, fun j hj hn => ?_⟩
  · rw [h6 j, if_neg (by omega)]
  · rw [h6 j, if_neg]
    intro e
    rw [e, a4] at hj
    cases hj
  · rw [h6 j, if_neg]
    · exact hn
    · intro e
      rw [e, a3] at hn
      cases hn


/-- What it says of a map's entries. -/
def MapR (ν : Nat → Int) (ρ : Emb) : List AV → List MapEntry → Prop
  | [], [] => True
  | a :: v :: r, e :: s => VR ν ρ a e.key ∧ VR ν ρ v e.val ∧ MapR ν ρ r s
  | _, _ => False

theorem MapR.mono {ν : Nat → Int} {ρ ρ' : Emb} (hρ : Emb.le ρ ρ') : ∀ {cs : List AV} {es : List MapEntry}, MapR ν ρ cs es → MapR ν ρ' cs es
  | [], [], _ => trivial
  | _ :: _ :: _, _ :: _, h => ⟨h.1.mono hρ, h.2.1.mono hρ, MapR.mono hρ h.2.2⟩
  | [], _ :: _, h => h.elim
  | [_], [], h => h.elim
  | [_], _ :: _, h => h.elim
  | _ :: _ :: _, [], h => h.elim

/-- Beyond this mark: a row of numbers (of the mark less a map's) of which a window is known by itself; where it begins has a name, too. -/
def winTag : Nat := 2305843009213693952
def Pinned (ν : Nat → Int) (w : World) (e : Nat) (pl : Pl) : Prop :=
  ∃ (C : Array Value) (t : TypeId) (fz : Nat × Nat), w.heap[pl.cb]? = some (.cells C t fz) ∧ ∀ j : Nat, (j : Int) < ν (pinL e) → C[pl.co + j]? = some (.int (pinK e) (ν (pinB e j)))
/-- The numbers outside a window of so many. -/
def Windowed (ν : Nat → Int) (w : World) (t n : Nat) (pl : Pl) : Prop :=
  ∃ (C : Array Value) (ty : TypeId) (fz : Nat × Nat) (o a : Nat), w.heap[pl.cb]? = some (.cells C ty fz) ∧ ν (pinA t) = (a : Int) ∧ pl.co = o + a ∧ ∀ j : Nat, (j : Int) < ν (pinL t) → (j < a ∨ a + n ≤ j) → C[o + j]? = some (.int (pinK t) (ν (pinB t j)))
def PinB (ν : Nat → Int) (w : World) (x : ABlk) (pl : Pl) : Prop := if x.elem ≤ winTag then Pinned ν w x.elem pl else Windowed ν w (x.elem - mapTag) x.cells.length pl
/-- What a block says of the world's block where it lies. -/
structure BR (ν : Nat → Int) (ρ : Emb) (w : World) (x : ABlk) (pl : Pl) : Prop where
  cells : x.elem ≠ mapTag → ∃ (C : Array Value) (e : TypeId) (fz : Nat × Nat), w.heap[pl.cb]? = some (.cells C e fz) ∧
    (∀ (j : Nat) (c : AV), x.cells[j]? = some c → ∃ v, C[pl.co + j]? = some v ∧ VR ν ρ c v) ∧
    (x.own = true → fz = (0, 0) ∧ C.size = pl.tot)
  map : x.elem = mapTag → ∃ (es : Array MapEntry) (clock : Nat), w.heap[pl.cb]? = some (.map es clock) ∧ MapR ν ρ x.cells es.toList
  pin : mapTag < x.elem → PinB ν w x pl

theorem BR.lt {ν : Nat → Int} {ρ : Emb} {w : World} {x : ABlk} {pl : Pl} (h : BR ν ρ w x pl) : pl.cb < w.heap.size := by
  by_cases e : x.elem = mapTag
  · obtain ⟨es, clock, h1, _⟩ := h.map e
    exact (Array.getElem?_eq_some_iff.1 h1).1
  · obtain ⟨C, t, fz, h1, _⟩ := h.cells e
    exact (Array.getElem?_eq_some_iff.1 h1).1

theorem PinB.same {ν : Nat → Int} {w : World} {x y : ABlk} {pl : Pl} (he : x.elem = y.elem) (hc : x.cells.length = y.cells.length) (h : PinB ν w x pl) : PinB ν w y pl := by
  unfold PinB at h ⊢
  rw [← he, ← hc]
  exact h
theorem PinB.keep {ν : Nat → Int} {w w' : World} {x : ABlk} {pl : Pl} (h : PinB ν w x pl) (hw : w'.heap[pl.cb]? = w.heap[pl.cb]?) : PinB ν w' x pl := by
  unfold PinB at h ⊢
  split at h
  · rename_i hx
    rw [if_pos hx]
    obtain ⟨C, t, fz, h1, h2⟩ := h
    exact ⟨C, t, fz, by rw [hw]; exact h1, h2⟩
  · rename_i hx
    rw [if_neg hx]
    obtain ⟨C, t, fz, o, a, h1, h2⟩ := h
    exact ⟨C, t, fz, o, a, by rw [hw]; exact h1, h2⟩

theorem BR.keep {ν : Nat → Int} {ρ ρ' : Emb} {w w' : World} {x : ABlk} {pl : Pl} (h : BR ν ρ w x pl) (hρ : Emb.le ρ ρ') (hw : w'.heap[pl.cb]? = w.heap[pl.cb]?) : BR ν ρ' w' x pl := by
  refine ⟨fun e => ?_, fun e => ?_, fun e => (h.pin e).keep hw⟩
  · obtain ⟨C, t, fz, h1, h2, h3⟩ := h.cells e
    exact ⟨C, t, fz, by rw [hw]; exact h1, fun j c hc => (let ⟨v, a, b⟩ := h2 j c hc; ⟨v, a, b.mono hρ⟩), h3⟩
  · obtain ⟨es, clock, h1, h2⟩ := h.map e
    exact ⟨es, clock, by rw [hw]; exact h1, h2.mono hρ⟩

def Owned (ρ : Emb) (H : AH) (cb : Nat) : Prop := ∃ b x pl, H.get b = some x ∧ x.own = true ∧ ρ b = some pl ∧ pl.cb = cb

structure HR (ν : Nat → Int) (ρ : Emb) (H : AH) (w : World) : Prop where
  blk : ∀ b x, H.get b = some x → ∃ pl, ρ b = some pl ∧ BR ν ρ w x pl
  apart : ∀ b b' x x' pl pl', b ≠ b' → H.get b = some x → H.get b' = some x' → x.own = true → ρ b = some pl → ρ b' = some pl' → pl.cb ≠ pl'.cb

/-- A run's doings, as seen from outside. -/
structure Stp (ρ : Emb) (H : AH) (w : World) (ρ' : Emb) (H' : AH) (w' : World) : Prop where
  ext : Emb.le ρ ρ'
  fresh : ∀ b, ρ b = none → ρ' b ≠ none → H.next ≤ b ∧ b < H'.next
  size : w.heap.size ≤ w'.heap.size
  os : w'.os = w.os
  tape : w'.tape = w.tape
  output : w'.output = w.output
  frame : ∀ cb, cb < w.heap.size → ¬ Owned ρ H cb → w'.heap[cb]? = w.heap[cb]?
  owned : ∀ cb, cb < w.heap.size → Owned ρ' H' cb → Owned ρ H cb
  place : ∀ b pl, ρ b = none → ρ' b = some pl → w.heap.size ≤ pl.cb ∨ Owned ρ H pl.cb

theorem Stp.refl (ρ : Emb) (H : AH) (w : World) : Stp ρ H w ρ H w :=
  ⟨Emb.le_refl ρ, fun _ h k => (k h).elim, Nat.le_refl _, rfl, rfl, rfl, fun _ _ _ => rfl, fun _ _ h => h, fun _ _ h k => by rw [h] at k; cases k⟩

theorem Stp.trans {ρ ρ' ρ'' : Emb} {H H' H'' : AH} {w w' w'' : World} (h : Stp ρ H w ρ' H' w') (k : Stp ρ' H' w' ρ'' H'' w'') (n1 : H.next ≤ H'.next) (n2 : H'.next ≤ H''.next) : Stp ρ H w ρ'' H'' w'' := by
  refine ⟨Emb.le_trans h.ext k.ext, fun b hb hb' => ?_, Nat.le_trans h.size k.size, k.os.trans h.os, k.tape.trans h.tape, k.output.trans h.output, fun cb hc ho => ?_, fun cb hc ho => ?_, fun b pl hb hb' => ?_⟩
  · cases e : ρ' b with
    | none => have := k.fresh b e hb'; omega
    | some x => have := h.fresh b hb (by rw [e]; simp); omega
  · rw [k.frame cb (Nat.lt_of_lt_of_le hc h.size) (fun x => ho (h.owned cb hc x)), h.frame cb hc ho]
  · exact h.owned cb hc (k.owned cb (Nat.lt_of_lt_of_le hc h.size) ho)
  · cases e : ρ' b with
    | none =>
      rcases k.place b pl e hb' with h1 | h1
      · exact .inl (Nat.le_trans h.size h1)
      · rcases Nat.lt_or_ge pl.cb w.heap.size with h2 | h2
        · exact .inr (h.owned _ h2 h1)
        · exact .inl h2
    | some q =>
      have := k.ext _ _ e
      rw [hb'] at this
      cases this
      exact h.place b pl hb e

/-- The world drew something. -/
theorem Stp.drawn (ρ : Emb) (H : AH) (w : World) (n : Nat) : Stp ρ H w ρ H { w with drawn := n } :=
  ⟨Emb.le_refl ρ, fun _ h k => (k h).elim, Nat.le_refl _, rfl, rfl, rfl, fun _ _ _ => rfl, fun _ _ h => h, fun _ _ h k => by rw [h] at k; cases k⟩

theorem HR.drawn {ν : Nat → Int} {ρ : Emb} {H : AH} {w : World} (h : HR ν ρ H w) (n : Nat) : HR ν ρ H { w with drawn := n } :=
  ⟨fun b x hx => let ⟨pl, h1, h2⟩ := h.blk b x hx; ⟨pl, h1, ⟨h2.cells, h2.map, h2.pin⟩⟩, h.apart⟩

/-- Environments. -/
def ER (ν : Nat → Int) (ρ : Emb) (e : Tr AV) (t : Array Value) : Prop := ∀ j x, e.get j = some x → VR ν ρ x (t.getD j undef)

theorem ER.mono {ν : Nat → Int} {ρ ρ' : Emb} (hρ : Emb.le ρ ρ') {e : Tr AV} {t : Array Value} (h : ER ν ρ e t) : ER ν ρ' e t := fun j x hx => (h j x hx).mono hρ

end Go.Sh

namespace Go.Sh

inductive O where
  | t (i : Nat)
  | k (v : AV)

inductive K where
  | mv (x : O)
  | pick (c a b : O)
  | bld (z : List AV) (ps : List (Nat × Nat × O))
  | nck (x : O)
  | bin (op : BinOp) (x y : O)
  | eqb (neg : Bool) (x y : O)
  | eqn (neg : Bool) (kind : Nat) (x y : O)
  | eqa (neg : Bool) (offs : List Nat) (x y : O)
  | una (op : UnOp) (x : O)
  | cv (k : IntKind) (x : O)
  | ifc (t : Nat) (x : O)
  | mkf (f : Nat) (caps : List O)
  | slc (size : Nat) (x : O) (lo hi mx : Option O)
  | sla (n size : Nat) (x : O) (lo hi mx : Option O)
  | s2a (n : Nat) (x : O)
  | fa (off : Nat) (x : O)
  | fl (off : Nat) (n : Option Nat) (x : O)
  | ia (size : Nat) (arr : Option Nat) (x i : O)
  | ix (n : Option Nat) (size len : Nat) (x i : O)
  | tas (t : Nat) (z : AV) (ok : Bool) (x : O)
  | ext (x : O) (i : Nat)
  | len (x : O)
  | lens (x : O)
  | lenk (n : Nat)
  | mm (most : Bool) (x y : O)
  | ld (n : Option Nat) (a : O)
  | alloc (e : Nat) (z : List AV)
  | box (e : Nat) (x : O)
  | bsl (e size len : Nat) (z : List AV) (ps : List (Nat × Nat × O))
  | msl (e size bytes : Nat) (z : List AV) (l c : O)
  | app (e size bytes : Nat) (z : List AV) (x y : O)
  | st (n : Nat) (a x : O)
  | cpy (size : Nat) (d s : O)
  | mkm
  | lku (s : Bool) (z : AV) (ok : Bool) (m k : O)
  | mup (s : Bool) (m k v : O)
  | bts (x : O)
  | frz (x : O)
  | call (f : Nat) (args : List O)
  | callv (x : O) (args : List O)
  | bad

def O.ev (e : Tr AV) : O → AV
  | .t i => (e.get i).getD .u
  | .k v => v

def AV.one : AV → Bool
  | .u | .ag _ | .tp _ | .kv _ => false
  | _ => true

def AV.cells : AV → Option (List AV)
  | .ag cs => if cs.all AV.one then some cs else none
  | .u | .tp _ | .kv _ => none
  | x => some [x]

/-- The cells of what need not be known. -/
def AV.part (n : Option Nat) (cs : List AV) (off : Nat) : Option AV :=
  match n with
  | none => cs[off]?
  | some n => if Nat.ble (off + n) cs.length then some (.ag ((cs.drop off).take n)) else none

def AH.rd (H : AH) (blk off : Nat) (n : Option Nat) : Option AV :=
  match H.get blk with
  | some x => if Nat.beq x.elem mapTag then none else AV.part n x.cells off
  | none => none

def AH.row (H : AH) (blk off n : Nat) : Option (List AV) :=
  match H.get blk with
  | some x => if Nat.beq x.elem mapTag then none else if Nat.ble (off + n) x.cells.length then some ((x.cells.drop off).take n) else none
  | none => none

def splice (l : List AV) (off : Nat) (vs : List AV) : List AV := l.take off ++ vs ++ l.drop (off + vs.length)

/-- May its cells not be written? -/
def lockB (e : Nat) : Bool := match Nat.ble mapTag e with | true => Nat.ble e winTag | false => false

def AH.wr (H : AH) (blk off : Nat) (vs : List AV) : Option AH :=
  match H.get blk with
  | some x => if lockB x.elem then none else if Nat.ble (off + vs.length) x.cells.length && vs.all AV.one then H.lay blk (some { x with cells := splice x.cells off vs }) else none
  | none => none

def asInt : AV → Option Int
  | .i _ (.c n) => some n
  | _ => none

def asNat : AV → Option Nat
  | .i _ (.c (.ofNat n)) => some n
  | _ => none

def fillA (e : Tr AV) (cells : List AV) : List (Nat × Nat × O) → Option (List AV)
  | [] => some cells
  | (off, size, x) :: r =>
    match (x.ev e).cells with
    | some vs => if Nat.beq vs.length size && Nat.ble (off + size) cells.length then fillA e (splice cells off vs) r else none
    | none => none

def optNat (e : Tr AV) : Option O → Option (Option Nat)
  | none => some none
  | some x => match asNat (x.ev e) with | some n => some (some n) | none => none

/-- The bounds of a slice expression, of a slice of that many, of which so many may be reached for sure; the true capacity, where it is known. -/
def bounds (len sure : Nat) (cap : Option Nat) (lo hi mx : Option Nat) : Option (Nat × Nat × Option Nat) :=
  match mx with
  | some m =>
    match hi with
    | some h => if Nat.ble m sure && Nat.ble h m && Nat.ble (lo.getD 0) h then some (lo.getD 0, h, some m) else none
    | none => none
  | none => if Nat.ble (hi.getD len) sure && Nat.ble (lo.getD 0) (hi.getD len) then some (lo.getD 0, hi.getD len, cap) else none

def sliceA (size : Nat) (x : AV) (lo hi mx : Option Nat) : Option AV :=
  match x with
  | .nsl => match bounds 0 0 (some 0) lo hi mx with | some _ => some .nsl | none => none
  | .sle z => match bounds 0 0 (if z then some 0 else none) lo hi mx with
    | some (_, _, some _) => some (.sle true)
    | some (_, _, none) => some (.sle false)
    | none => none
  | .sl blk off (.c (.ofNat len)) (.ex c) =>
    match bounds len c (some c) lo hi mx with
    | some (l, h, some m) => some (.sl blk (if Nat.beq m l then off else off + l * size) (.c (.ofNat (h - l))) (.ex (m - l)))
    | _ => none
  | .sl blk off (.c (.ofNat len)) cap =>
    match bounds len len none lo hi mx with
    | some (l, h, some m) => some (.sl blk (if Nat.beq m l then off else off + l * size) (.c (.ofNat (h - l))) (.ex (m - l)))
    | some (l, h, none) =>
      if Nat.blt l len then
        match cap with
        | .own z => if Nat.beq z size then some (.sl blk (off + l * size) (.c (.ofNat (h - l))) (.own z)) else none
        | _ => some (.sl blk (off + l * size) (.c (.ofNat (h - l))) .any)
      else some (.sle false)
    | none => none
  | _ => none

def slaA (n size : Nat) (x : AV) (lo hi mx : Option Nat) : Option AV :=
  match x with
  | .p blk off =>
    match bounds n n (some n) lo hi mx with
    | some (l, h, some m) => some (.sl blk (if Nat.beq m l then off else off + l * size) (.c (.ofNat (h - l))) (.ex (m - l)))
    | _ => none
  | _ => none

/-- How far behind the number k is it? -/
def offOf (k : AI) : AI → Option Nat
  | .c (.ofNat b) => match k with | .c (.ofNat a) => if Nat.ble a b then some (b - a) else none | _ => none
  | .e .add .i64 y (.c (.ofNat m)) => if (AI.e .add .i64 y (.c (.ofNat m))).beq k then some 0 else match offOf k y with | some j => some (j + m) | none => none
  | x => if x.beq k then some 0 else none

def nums : Option AV → Option (Option AI)
  | none => some none
  | some (.i _ n) => some (some n)
  | some _ => none

def yesF (x : Option Bool) : Bool := match x with | some true => true | _ => false
/-- A slice of a slice of which a window is known: within the window. -/
def sliceW (F : Facts) (size b z : Nat) (k : AI) (wd : Nat) (len : AI) (lo hi mx : Option AV) : Option AV :=
  match nums lo, nums hi, mx with
  | some (some l), some (some h), none => match offOf k l, offOf k h with
    | some c1, some c2 => if Nat.beq z size && Nat.ble c1 c2 && Nat.ble c2 wd then (if Nat.blt c1 c2 then some (.sl b (c1 * size) (.c (.ofNat (c2 - c1))) .any) else some (.sle false)) else none
    | _, _ => none
  | some (some l), some none, none => match offOf k l, mkE F .sub .i64 len l with
    | some c1, .c (.ofNat r) => if Nat.beq z size && Nat.ble (c1 + r) wd then (if Nat.blt 0 r then some (.sl b (c1 * size) (.c (.ofNat r)) .any) else some (.sle false)) else none
    | some c1, d => if Nat.beq z size && Nat.ble c1 wd && yesF (cmpI F .lss l len) && yesF (cmpI F .lss len (.c 1099511627776)) then some (.sl b (c1 * size) d .any) else none
    | _, _ => none
  | _, _, _ => none

/-- The first ones of a slice, as many as a name tells. -/
def okMx (m : Option AI) (h : AI) : Bool := match m with | none => true | some m => m.beq h
def prefixA (F : Facts) (x : AV) (lo hi mx : Option AV) : Option AV :=
  match nums lo, nums hi, nums mx with
  | some none, some (some h), some m =>
    if okMx m h then
      match x with
      | .sl blk off len _ => if yesF (cmpI F .geq h (.c 0)) && yesF (cmpI F .leq h len) then some (.sl blk off h .any) else none
      | .slw b z k wd len _ => if Nat.beq wd 0 && yesF (cmpI F .leq k h) && yesF (cmpI F .leq h len) then some (.slw b z k 0 h .any) else none
      | _ => none
    else none
  | _, _, _ => none

/-- A slice from a known place on, where a name tells how long it is. -/
def suffixA (F : Facts) (size : Nat) (x : AV) (lo hi mx : Option AV) : Option AV :=
  match nums lo, nums hi, nums mx with
  | some (some (.c (.ofNat l))), some none, some none =>
    match x with
    | .sl blk off len _ => if yesF (cmpI F .lss (.c (.ofNat l)) len) && yesF (cmpI F .lss len (.c 1099511627776)) then some (.sl blk (off + l * size) (mkE F .sub .i64 len (.c (.ofNat l))) .any)
      else if yesF (cmpI F .eql (.c (.ofNat l)) len) then some (.sle false) else none
    | _ => none
  | _, _, _ => none

/-- An element of the window. -/
def winA (size : Nat) (arr : Option Nat) (b z : Nat) (k : AI) (wd : Nat) (i : AV) : Option AV :=
  match arr, i with
  | none, .i _ n => match offOf k n with | some j => if Nat.beq z size && Nat.blt j wd then some (.p b (j * size)) else none | none => none
  | _, _ => none

/-- Is it nil, of that kind (a pointer, a slice, an interface, a function, a map)? -/
def isNil (kind : Nat) (x : AV) : Option Bool :=
  match x with
  | .np => if Nat.beq kind 0 then some true else none
  | .p _ _ => if Nat.beq kind 0 then some false else none
  | .nsl => if Nat.beq kind 1 then some true else none
  | .sl _ _ _ _ => if Nat.beq kind 1 then some false else none
  | .sle _ => if Nat.beq kind 1 then some false else none
  | .slw .. => if Nat.beq kind 1 then some false else none
  | .nif => if Nat.beq kind 2 then some true else none
  | .ifc _ _ => if Nat.beq kind 2 then some false else none
  | .nfn => if Nat.beq kind 3 then some true else none
  | .fn _ _ => if Nat.beq kind 3 then some false else none
  | .nmp => if Nat.beq kind 4 then some true else none
  | .mp _ => if Nat.beq kind 4 then some false else none
  | _ => none

/-- Held against nil: one of both is it. -/
def nilEq (kind : Nat) (x y : AV) : Option Bool :=
  match isNil kind x, isNil kind y with
  | some true, some b => some b
  | some false, some true => some false
  | _, _ => none

def binA (F : Facts) (op : BinOp) (x y : AV) : Option AV :=
  match x, y with
  | .i k a, .i k' b =>
    match op with
    | .add | .sub | .mul | .and | .or | .xor | .andNot => if k = k' then some (.i k (mkE F op k a b)) else none
    | .quo | .rem => if k = k' then (match b with | .c n => if n = 0 then none else some (.i k (mkE F op k a b)) | _ => if yesF (cmpI F .neq b (.c 0)) then some (.i k (mkE F op k a b)) else none) else none
    | .shl | .shr => match b with | .c n => if n < 0 then none else some (.i k (mkE F op k a b)) | _ => none
    | _ => if k = k' then (cmpI F op a b).map .b else none
  | _, _ => none

/-- All bytes at once: a number that is 0 if they are the same. -/
def jointS : List AI → List AI → AI
  | a :: r, b :: s => .e .or .u8 (.e .xor .u8 a b) (jointS r s)
  | _, _ => .c 0

/-- A byte for sure. -/
def isByte : AI → Bool
  | .w .u8 _ => true
  | .c (.ofNat _) => true
  | _ => false

/-- Two rows of bytes, known or named: the same? -/
def eqS (F : Facts) (a0 b0 : List AI) : List AI → List AI → Bool → Option Bool
  | [], [], t => if t then some true else if a0.all isByte && b0.all isByte then (match findCmp F.cmp .neq (jointS a0 b0) (.c 0) with | some true => some false | _ => none) else none
  | a :: r, b :: s, t => match a, b with
    | .c (.ofNat m), .c (.ofNat n) => if Nat.beq m n then eqS F a0 b0 r s t else if Nat.blt m 256 && Nat.blt n 256 then some false else none
    | a, b => eqS F a0 b0 r s (t && a.beq b)
  | _, _, _ => some false

/-- Is it the very key? -/
def keyEq (F : Facts) (s : Bool) (x y : AV) : Option Bool :=
  match s, x, y with
  | true, .bs a, .bs b => eqS F a b a b true
  | false, .i k (.c a), .i k' (.c b) => if k = k' then some (a == b) else none
  | _, _, _ => none

/-- What is at a key: where, and what. -/
def findA (F : Facts) (s : Bool) (k : AV) : List AV → Nat → Option (Option (Nat × AV))
  | [], _ => some none
  | a :: v :: r, i => match keyEq F s k a with | some true => some (some (i, v)) | some false => findA F s k r (i + 1) | none => none
  | [_], _ => none

/-- The bytes of cells. -/
def bytesA : List AV → Option (List AI)
  | [] => some []
  | .i .u8 n :: r => (bytesA r).map (n :: ·)
  | _ :: _ => none

/-- Two numbers: the same? -/
def eqI (F : Facts) (a b : AI) : Option Bool := if a.beq b then some true else cmpI F .eql a b

/-- Cells, place by place: are all known to be the same, are some known not to be? -/
def eqPairs (F : Facts) (cs ds : List AV) : List Nat → Option (Bool × Bool)
  | [] => some (true, false)
  | o :: r => match cs[o]?, ds[o]?, eqPairs F cs ds r with
    | some (.i k a), some (.i k' b), some (p, q) => if k = k' then (match eqI F a b with | some true => some (p, q) | some false => some (false, true) | none => some (false, q)) else none
    | _, _, _ => none

/-- All the places at once: a number that is 0 if they are the same. -/
def joint (cs ds : List AV) : List Nat → AI
  | [] => .c 0
  | o :: r => match cs[o]?, ds[o]? with
    | some (.i k a), some (.i _ b) => .e .or k (.e .xor k a b) (joint cs ds r)
    | _, _ => .c 0

def eqA (F : Facts) (offs : List Nat) (x y : AV) : Option Bool :=
  match x, y with
  | .ag cs, .ag ds => match eqPairs F cs ds offs with
    | some (true, _) => some true
    | some (false, true) => some false
    | some (false, false) => match findCmp F.cmp .neq (joint cs ds offs) (.c 0) with | some true => some false | _ => none
    | _ => none
  | _, _ => none

/-- Of a slice whose length is named: is it below that? -/
def inside (F : Facts) (j : Nat) (n : AI) (r : AV) : Option AV := match cmpI F .lss (.c (.ofNat j)) n with | some true => some r | _ => none

/-- Where an element lies. -/
def iaA (F : Facts) (size : Nat) (arr : Option Nat) (x i : AV) : Option AV :=
  match asNat i, arr, x with
  | some j, some n, .p b o => if Nat.blt j n then some (.p b (o + j * size)) else none
  | some j, none, .sl b o (.c (.ofNat n)) _ => if Nat.blt j n then some (.p b (o + j * size)) else none
  | some j, none, .sl b o n _ => inside F j n (.p b (o + j * size))
  | _, _, _ => none

def slcA (F : Facts) (e : Tr AV) (size : Nat) (x : O) (lo hi mx : Option O) : Option AV :=
  match x.ev e with
  | .slw b z k wd len _ => sliceW F size b z k wd len (lo.map (O.ev e)) (hi.map (O.ev e)) (mx.map (O.ev e))
  | _ => match optNat e lo, optNat e hi, optNat e mx with | some l, some h, some m => sliceA size (x.ev e) l h m | _, _, _ => none

/-- What needs no heap. -/
def pureA (F : Facts) (e : Tr AV) : K → Option AV
  | .mv x => some (x.ev e)
  | .pick c a b => match c.ev e with | .b t => some (if t then a.ev e else b.ev e) | _ => none
  | .bld z ps => (fillA e z ps).map .ag
  | .nck x => match x.ev e with | .p a b => some (.p a b) | .ifc t v => some (.ifc t v) | .fn f c => some (.fn f c) | _ => none
  | .bin op x y => binA F op (x.ev e) (y.ev e)
  | .eqb neg x y => match x.ev e, y.ev e with | .b a, .b b => some (.b ((a == b) != neg)) | _, _ => none
  | .eqn neg kind x y => (nilEq kind (x.ev e) (y.ev e)).map fun t => .b (t != neg)
  | .eqa neg offs x y => (eqA F offs (x.ev e) (y.ev e)).map fun t => .b (t != neg)
  | .una op x => match op, x.ev e with
    | .not, .b t => some (.b !t)
    | .neg, .i k n => some (.i k (mkE F .sub k (.c 0) n))
    | .xor, .i k n => some (.i k (mkE F .xor k (.c (if k.signed then -1 else k.max)) n))
    | _, _ => none
  | .cv k x => match x.ev e with | .i _ n => some (.i k (mkW F k n)) | _ => none
  | .ifc t x => some (.ifc t (x.ev e))
  | .mkf f caps => some (.fn f (caps.map (O.ev e)))
  | .slc size x lo hi mx => match slcA F e size x lo hi mx with
    | some r => some r
    | none => match prefixA F (x.ev e) (lo.map (O.ev e)) (hi.map (O.ev e)) (mx.map (O.ev e)) with
      | some r => some r
      | none => suffixA F size (x.ev e) (lo.map (O.ev e)) (hi.map (O.ev e)) (mx.map (O.ev e))
  | .sla n size x lo hi mx => match optNat e lo, optNat e hi, optNat e mx with | some l, some h, some m => slaA n size (x.ev e) l h m | _, _, _ => none
  | .s2a n x => match x.ev e with | .sl b o (.c (.ofNat m)) _ => if Nat.ble n m then some (.p b o) else none | _ => none
  | .fa off x => match x.ev e with | .p b o => some (.p b (o + off)) | _ => none
  | .fl off n x => match x.ev e with | .ag cs => AV.part n cs off | _ => none
  | .ia size arr x i => match x.ev e with
    | .slw b z k wd _ _ => winA size arr b z k wd (i.ev e)
    | y => iaA F size arr y (i.ev e)
  | .ix n size len x i => match asNat (i.ev e), x.ev e with
    | some j, .ag cs => if Nat.blt j len then AV.part n cs (j * size) else none
    | _, _ => none
  | .tas t z ok x => match x.ev e with
    | .ifc t' v => if Nat.beq t' t then some (if ok then .tp [v, .b true] else v) else if ok then some (.tp [z, .b false]) else none
    | .nif => if ok then some (.tp [z, .b false]) else none
    | _ => none
  | .ext x i => match x.ev e with | .tp vs => vs[i]? | _ => none
  | .len x => match x.ev e with
    | .sl _ _ n _ => some (.i .i64 n)
    | .nsl | .sle _ => some (.i .i64 (.c 0))
    | .slw _ _ _ _ n _ => some (.i .i64 n)
    | _ => none
  | .lens x => match x.ev e with
    | .str s => some (.i .i64 (.c (.ofNat s.size)))
    | .bs l => some (.i .i64 (.c (.ofNat l.length)))
    | _ => none
  | .lenk n => some (.i .i64 (.c (.ofNat n)))
  | .mm most x y => match x.ev e, y.ev e with
    | .i k a, .i _ b => match cmpI F (if most then .gtr else .lss) b a with | some t => some (.i k (if t then b else a)) | none => none
    | _, _ => none
  | _ => none

def K.isPure : K → Bool
  | .ld .. | .alloc .. | .box .. | .bsl .. | .msl .. | .app .. | .st .. | .cpy .. | .mkm | .lku .. | .mup .. | .bts .. | .frz .. | .call .. | .callv .. => false
  | _ => true

/-- The cells that a slice's first so many elements have. -/
def firstA (H : AH) (size n : Nat) : AV → Option (List AV)
  | .sl blk off _ _ => H.row blk off (n * size)
  | .nsl | .sle _ => if Nat.beq n 0 then some [] else none
  | _ => none

def lenA : AV → Option Nat
  | .sl _ _ (.c (.ofNat n)) _ => some n
  | .nsl | .sle _ => some 0
  | _ => none

def newRowA (H : AH) (e : Nat) (cells : List AV) : Option (Nat × AH) := if Nat.ble mapTag e then none else H.alloc ⟨cells, e, true⟩

def most : Nat := 140737488355328

def grown (H : AH) (e size bytes need : Nat) (old new : List AV) : Option (AV × AH) :=
  if Nat.ble (need * bytes) most && Nat.ble need most && Nat.blt 0 size then
    match newRowA H e (old ++ new) with
    | some (b, H') => some (.sl b 0 (.c (.ofNat need)) (.own size), H')
    | none => none
  else none

def repA : Nat → List AV → List AV
  | 0, _ => []
  | n + 1, z => z ++ repA n z

/-- What is put behind a slice: of another slice, or so many noughts. -/
def lenB (z : List AV) (y : AV) : Option Nat :=
  match z with
  | [] => lenA y
  | _ :: _ => asNat y
def newA (H : AH) (size bytes n : Nat) (z : List AV) (y : AV) : Option (List AV) :=
  match z with
  | [] => firstA H size n y
  | z0 :: zs => if Nat.ble (n * bytes) most && Nat.ble n most then some (repA n (z0 :: zs)) else none

/-- Some, behind a slice. -/
def appB (H : AH) (e size bytes : Nat) (x : AV) (a n : Nat) (new : List AV) : Option (AV × AH) :=
  match x with
  | .nsl | .sle true => grown H e size bytes (a + n) [] new
  | .sl blk off len (.ex c) =>
    if Nat.ble (a + n) c then (match H.wr blk (off + a * size) new with | some H' => some (.sl blk off (.c (.ofNat (a + n))) (.ex c), H') | none => none)
    else (match firstA H size a (.sl blk off len (.ex c)) with | some old => grown H e size bytes (a + n) old new | none => none)
  | .sl blk off len (.own z) =>
    match H.get blk, firstA H size a (.sl blk off len (.own z)) with
    | some b, some old =>
      if b.own && Nat.beq z size && !(Nat.ble mapTag b.elem) then
        match H.lay blk none with
        | some H1 => grown H1 e size bytes (a + n) old new
        | none => none
      else none
    | _, _ => none
  | _ => none

def appA (H : AH) (e size bytes : Nat) (z : List AV) (x y : AV) : Option (AV × AH) :=
  match lenA x, lenB z y with
  | some a, some n =>
    match newA H size bytes n z y with
    | none => none
    | some new =>
      if Nat.beq n 0 then (if Nat.ble (a + n) most then some (x, H) else none) else
      if !(new.all AV.one) then none else appB H e size bytes x a n new
  | _, _ => none

/-- How long a slice is whose window stands at its end. -/
def lenE (k : AI) (wd : Nat) : AI := if Nat.beq wd 0 then k else .e .add .i64 k (.c (.ofNat wd))

/-- A row that ends where the window begins, and isn't too long. -/
def endF (F : Facts) (t : Nat) : Bool := yesF (cmpI F .eql (.s (pinA t)) (.s (pinL t))) && yesF (cmpI F .lss (.s (pinL t)) (.c 1099511627776))

/-- What a slice that may grow is made of: the block that is no more then, a row, cells. -/
def partsA (F : Facts) (H : AH) (x : AV) : Option (Option Nat × Nat × List AV) :=
  match x with
  | .nsl => some (none, 0, [])
  | .sl blk off (.c (.ofNat n)) (.own z) => match H.get blk with
    | some b => if b.own && Nat.blt b.elem mapTag && Nat.beq z 1 && Nat.blt n 1073741824 then (match H.row blk off n with | some cs => some (some blk, 0, cs) | none => none) else none
    | none => none
  | .slw blk z k wd len (.own z') => match H.get blk with
    | some b => if b.own && Nat.blt winTag b.elem && Nat.beq z 1 && Nat.beq z' 1 && k.beq (.s (pinA (b.elem - mapTag))) && Nat.beq wd b.cells.length && len.beq (lenE k wd) && endF F (b.elem - mapTag) && Nat.blt wd 1073741824 then some (some blk, b.elem - mapTag, b.cells) else none
    | none => none
  | _ => none

def killA (H : AH) : Option Nat → Option AH
  | none => some H
  | some b => H.lay b none

/-- Numbers of a kind. -/
def intsA (k : IntKind) : List AV → Option (List AI)
  | [] => some []
  | .i k' n :: r => if k = k' then (intsA k r).map (n :: ·) else none
  | _ :: _ => none

def eqIs : List AI → List AI → Bool
  | [], [] => true
  | a :: r, b :: s => a.beq b && eqIs r s
  | _, _ => false

def findCat : List (Nat × List AI × Nat × Nat) → Nat → List AI → Nat → Option Nat
  | [], _, _, _ => none
  | p :: r, tx, xs, ty => if Nat.beq p.1 tx && eqIs p.2.1 xs && Nat.beq p.2.2.1 ty then some p.2.2.2 else findCat r tx xs ty

/-- A row that is but read, and not empty; or one of one's own, all of it. -/
def rowOf (F : Facts) (H : AH) (y : AV) : Option Nat :=
  match y with
  | .sl b 0 (.s l) _ => match H.get b with
    | some x => if Nat.blt mapTag x.elem && Nat.ble x.elem winTag && Nat.beq l (pinL x.elem) && yesF (cmpI F .gtr (.s l) (.c 0)) && yesF (cmpI F .lss (.s l) (.c 1099511627776)) then some x.elem else none
    | none => none
  | .slw b z k wd len _ => match H.get b with
    | some x => if Nat.blt winTag x.elem && Nat.beq z 1 && Nat.beq wd 0 && Nat.beq x.cells.length 0 && k.beq (.s (pinA (x.elem - mapTag))) && len.beq (.s (pinA (x.elem - mapTag))) && endF F (x.elem - mapTag) && yesF (cmpI F .gtr (.s (pinL (x.elem - mapTag))) (.c 0)) then some (x.elem - mapTag) else none
    | none => none
  | _ => none

/-- A slice of a window at its end, of all that there is. -/
def slE (b t wd : Nat) : AV := .slw b 1 (.s (pinA t)) wd (lenE (.s (pinA t)) wd) (.own 1)

/-- Some behind a slice, where names tell how long it is. -/
def appV (F : Facts) (H : AH) (size bytes : Nat) (x y : AV) : Option (AV × AH) :=
  if Nat.beq size 1 && Nat.ble bytes 8 then
    match partsA F H x with
    | some (kb, tx, xs) =>
      match rowOf F H y with
      | some ty => match intsA (pinK ty) xs with
        | some is => match findCat F.cat tx is ty with
          | some tr => if endF F tr && Nat.blt mapTag tr && decide (pinK tr = pinK ty) && (Nat.beq tx 0 || decide (pinK tx = pinK ty)) then (match killA H kb with
            | some H1 => match H1.alloc ⟨[], tr + mapTag, true⟩ with
              | some (b, H') => some (slE b tr 0, H')
              | none => none
            | none => none) else none
          | none => none
        | none => none
      | none => match kb, lenA y with
        | some _, some n => if Nat.beq tx 0 || Nat.beq n 0 || !(Nat.blt (xs.length + n) 1073741824) then none else (match firstA H 1 n y with
          | some new => if new.all AV.one then (match killA H kb with
            | some H1 => match H1.alloc ⟨xs ++ new, tx + mapTag, true⟩ with
              | some (b, H') => some (slE b tx (xs.length + n), H')
              | none => none
            | none => none) else none
          | none => none)
        | _, _ => none
    | none => none
  else none

/-- Nothing behind a slice. -/
def app0 (H : AH) (x y : AV) : Option (AV × AH) :=
  match lenA y with
  | some n => if Nat.beq n 0 then (match x with
    | .slw b z k wd len cap => some (.slw b z k wd len cap, H)
    | .sl b off len cap => some (.sl b off len cap, H)
    | _ => none) else none
  | none => none

/-- Which row's end, behind as many as another one has, is that? -/
def findTail (F : Facts) (tx ty : Nat) : List (Nat × List AI × Nat × Nat) → Option Nat
  | [] => none
  | p :: r => match p with
    | (t1, [], t2, t) => if Nat.beq t tx && Nat.blt mapTag t1 && yesF (cmpI F .eql (.s (pinL t1)) (.s (pinL ty))) then some t2 else findTail F tx ty r
    | _ => findTail F tx ty r
/-- A row, copied into one of one's own whose length a name tells. -/
def cpyV (F : Facts) (H : AH) (size : Nat) (d s : AV) : Option (AV × AH) :=
  match d with
  | .slw blk z k 0 len _ =>
    match lenA s with
    | some n => if Nat.beq n 0 then some (.i .i64 (.c (.ofNat 0)), H) else none
    | none => match H.get blk, rowOf F H s with
      | some b, some ty =>
        if b.own && Nat.blt winTag b.elem && Nat.beq b.cells.length 0 && Nat.beq size 1 && Nat.beq z 1 && k.beq (.s (pinA (b.elem - mapTag))) && yesF (cmpI F .leq (.s (pinL ty)) len) then
          match findTail F (b.elem - mapTag) ty F.cat with
          | some t2 => match findCat F.cat ty [] t2 with
            | some tr => if Nat.blt mapTag tr && Nat.blt mapTag t2 && yesF (cmpI F .eql (.s (pinA tr)) (.s (pinA (b.elem - mapTag)))) && yesF (cmpI F .eql (.s (pinL tr)) (.s (pinL (b.elem - mapTag)))) && decide (pinK tr = pinK ty) && decide (pinK tr = pinK (b.elem - mapTag)) then
                (H.lay blk (some ⟨[], tr + mapTag, true⟩)).map fun H' => (.i .i64 (.s (pinL ty)), H') else none
            | none => none
          | none => none
        else none
      | _, _ => none
  | .sl blk off (.c (.ofNat n)) _ =>
    match s with
    | .sl _ _ len _ => if yesF (cmpI F .geq len (.c (.ofNat n))) then (match firstA H size n s with
        | some cs => (H.wr blk off cs).map fun H' => (.i .i64 (.c (.ofNat n)), H')
        | none => none) else none
    | _ => none
  | _ => none

/-- A number that is that one, by the facts. -/
def sameName : List (BinOp × AI × AI × Bool) → AI → Option Nat
  | [], _ => none
  | p :: r, x => match p with
    | (.eql, y, .s n, true) => if y.beq x then some n else sameName r x
    | _ => sameName r x
def nameOf (F : Facts) : AI → Option Nat
  | .s n => some n
  | x => sameName F.cmp x

/-- A new row of noughts, as long as a name tells; or an empty slice with as much room. -/
def mslV (F : Facts) (H : AH) (t size bytes : Nat) (z : List AV) (l c : AV) : Option (AV × AH) :=
  if Nat.beq size 1 && Nat.ble bytes 8 && Nat.beq z.length 1 then
    match l, c with
    | .i _ lx, .i _ cx =>
      match lx with
      | .c (.ofNat 0) => if yesF (cmpI F .geq cx (.c 0)) && yesF (cmpI F .lss cx (.c 1099511627776)) then (newRowA H t []).map fun r => (.sl r.1 0 (.c (.ofNat 0)) (.own 1), r.2) else none
      | lx => if lx.beq cx then (match nameOf F lx, z with
        | some n, [.i k (.c (.ofNat 0))] => if Nat.blt 0 n && Nat.blt n mapTag && yesF (cmpI F .geq lx (.c 0)) then (match findCat F.cat n [] 0 with
          | some tr => if endF F tr && Nat.blt mapTag tr && decide (pinK tr = k) then (match H.alloc ⟨[], tr + mapTag, true⟩ with
            | some (b, H') => some (slE b tr 0, H')
            | none => none) else none
          | none => none) else none
        | _, _ => none) else none
    | _, _ => none
  else none

/-- The mark of a row that is but read. -/
def pinE (e : Nat) : Bool := Nat.blt mapTag e && Nat.ble e winTag
/-- A number of such a row. -/
def ldP (F : Facts) (H : AH) (b o : Nat) (n : Option Nat) : Option AV :=
  match n with
  | some _ => none
  | none => match H.get b with
    | some x => if pinE x.elem && yesF (cmpI F .lss (.c (.ofNat o)) (.s (pinL x.elem))) then some (.i (pinK x.elem) (.s (pinB x.elem o))) else none
    | none => none
def ldA (F : Facts) (H : AH) (b o : Nat) (n : Option Nat) : Option AV := match ldP F H b o n with | some v => some v | none => H.rd b o n

abbrev CallFn := Nat → List AV → AH → Option (AV × AH)

def opA (F : Facts) (call : CallFn) (e : Tr AV) (H : AH) (k : K) : Option (AV × AH) :=
  match k with
  | .ld n a => match a.ev e with
    | .p b o => (ldA F H b o n).map fun v => (v, H)
    | _ => none
  | .alloc t z => if z.all AV.one then (newRowA H t z).map fun r => (.p r.1 0, r.2) else none
  | .box t x => match (x.ev e).cells with
    | some cs => (newRowA H t cs).map fun r => (.p r.1 0, r.2)
    | none => none
  | .bsl t size len z ps =>
    if Nat.ble (len * size) 16777216 && Nat.beq z.length size && Nat.blt 0 size && z.all AV.one then
      match fillA e (repA len z) ps with
      | some cs => (newRowA H t cs).map fun r => (.sl r.1 0 (.c (.ofNat len)) (.ex len), r.2)
      | none => none
    else none
  | .msl t size bytes z l c => match asNat (l.ev e), asNat (c.ev e) with
    | some l, some c =>
      if Nat.ble l c && Nat.ble (c * bytes) most && Nat.ble c most && Nat.beq z.length size && Nat.blt 0 size && z.all AV.one then
        (newRowA H t (repA c z)).map fun r => (.sl r.1 0 (.c (.ofNat l)) (.ex c), r.2)
      else none
    | _, _ => mslV F H t size bytes z (l.ev e) (c.ev e)
  | .app t size bytes z x y => match appA H t size bytes z (x.ev e) (y.ev e) with
    | some r => some r
    | none => match z with
      | [] => (match appV F H size bytes (x.ev e) (y.ev e) with
        | some r => some r
        | none => app0 H (x.ev e) (y.ev e))
      | _ :: _ => none
  | .st n a x => match a.ev e, (x.ev e).cells with
    | .p b o, some cs => if Nat.beq cs.length n then (H.wr b o cs).map fun H' => (.u, H') else none
    | _, _ => none
  | .cpy size d s => match lenA (d.ev e), lenA (s.ev e) with
    | some a, some b =>
      let n := min b a
      match firstA H size n (s.ev e), d.ev e with
      | some cs, .sl blk off _ _ => (H.wr blk off cs).map fun H' => (.i .i64 (.c (.ofNat n)), H')
      | some cs, _ => if cs.isEmpty then some (.i .i64 (.c (.ofNat n)), H) else none
      | _, _ => none
    | _, _ => cpyV F H size (d.ev e) (s.ev e)
  | .mkm => (H.alloc ⟨[], mapTag, true⟩).map fun r => (.mp r.1, r.2)
  | .lku s z ok m k => match m.ev e with
    | .nmp => some (if ok then .tp [z, .b false] else z, H)
    | .mp b => match H.get b with
      | some x => if Nat.beq x.elem mapTag then (match findA F s (k.ev e) x.cells 0 with
          | some (some (_, v)) => some (if ok then .tp [v, .b true] else v, H)
          | some none => some (if ok then .tp [z, .b false] else z, H)
          | none => none) else none
      | none => none
    | _ => none
  | .mup s m k v => match m.ev e with
    | .mp b => match H.get b with
      | some x => if Nat.beq x.elem mapTag then (match findA F s (k.ev e) x.cells 0 with
          | some (some (i, _)) => (H.lay b (some { x with cells := x.cells.set (2 * i + 1) (v.ev e) })).map fun H' => (.u, H')
          | some none => (H.lay b (some { x with cells := x.cells ++ [k.ev e, v.ev e] })).map fun H' => (.u, H')
          | none => none) else none
      | none => none
    | _ => none
  | .frz x => match x.ev e with
    | .sl b off n c => match H.get b with
      | some y => if y.own && Nat.blt y.elem mapTag then (H.lay b (some y.shut)).map fun H' => (.sl b off n c, H') else none
      | none => none
    | _ => none
  | .bts x => match lenA (x.ev e) with
    | some n => match firstA H 1 n (x.ev e) with
      | some cs => (bytesA cs).map fun l => (.bs l, H)
      | none => none
    | none => none
  | .call f args => call f (args.map (O.ev e)) H
  | .callv x args => match x.ev e with
    | .fn f caps => call f (args.map (O.ev e) ++ caps) H
    | _ => none
  | k => (pureA F e k).map fun v => (v, H)

/-- Code. -/
structure IOp where
  dst : Option Nat
  op : K
  guard : Option (Nat × Bool)
  anc : List Nat
  free : Bool

inductive IC where
  | skip
  | reg (ops : List IOp)
  | draw (ops : List IOp)
  | seq (a b : IC)
  | cond (c : O) (a b : IC)
  | block (id : Nat) (a : IC)
  | loop (a : IC)
  | scope (a : IC)
  | exit (id : Nat)
  | ret
  | bad

inductive Ex where
  | normal
  | exit (id : Nat)
  | ret

def putE (e : Tr AV) (d : Option Nat) (v : AV) : Option (Tr AV) :=
  match d with
  | none => some e
  | some d => if Nat.blt d room then some (Tr.put depth e d (some v)) else none

def wantedA (e : Tr AV) : Option (Nat × Bool) → Option Bool
  | none => some true
  | some (t, want) => match e.get t with | some (.b x) => some (x == want) | some (.tp _) => some false | _ => none

def regA (F : Facts) (call : CallFn) : List IOp → Tr AV → AH → Option (Tr AV × AH)
  | [], e, H => some (e, H)
  | o :: r, e, H =>
    match wantedA e o.guard with
    | some true =>
      match opA F call e H o.op with
      | some (v, H') => match putE e o.dst v with | some e' => regA F call r e' H' | none => none
      | none => none
    | some false => match putE e o.dst (.tp []) with | some e' => regA F call r e' H | none => none
    | none => none

def O.slots : O → List Nat
  | .t i => [i]
  | .k _ => []

def oslots : Option O → List Nat
  | none => []
  | some x => x.slots

def K.slots : K → List Nat
  | .mv x | .nck x | .s2a _ x | .una _ x | .cv _ x | .ifc _ x | .fa _ x | .fl _ _ x | .tas _ _ _ x | .ext x _ | .len x | .lens x | .ld _ x | .box _ x => x.slots
  | .pick c a b => c.slots ++ a.slots ++ b.slots
  | .bld _ ps | .bsl _ _ _ _ ps => ps.flatMap fun p => p.2.2.slots
  | .bin _ x y | .eqb _ x y | .eqn _ _ x y | .eqa _ _ x y | .mm _ x y | .ia _ _ x y | .ix _ _ _ x y | .msl _ _ _ _ x y | .app _ _ _ _ x y | .st _ x y | .cpy _ x y => x.slots ++ y.slots
  | .lku _ _ _ x y => x.slots ++ y.slots
  | .mup _ x y z => x.slots ++ y.slots ++ z.slots
  | .bts x => x.slots
  | .frz x => x.slots
  | .mkf _ l | .call _ l => l.flatMap O.slots
  | .callv x l => x.slots ++ l.flatMap O.slots
  | .slc _ x lo hi mx | .sla _ _ x lo hi mx => x.slots ++ oslots lo ++ oslots hi ++ oslots mx
  | .lenk _ | .alloc _ _ | .mkm | .bad => []

def IOp.slots (o : IOp) : List Nat := o.op.slots ++ (match o.guard with | some g => [g.1] | none => [])

abbrev Spans := List (Nat × Nat × Nat)

def spansBut (anc : List Nat) : Spans → List (Nat × Nat)
  | [] => []
  | p :: r => if anc.contains p.1 then spansBut anc r else p.2 :: spansBut anc r

/-- Stores that are not free: which operation, which block, what is ahead of it. -/
abbrev LoneS := List (Nat × Nat × List Nat)

/-- Calls that may write, and beside which (not ordered to them) are loads alone: which operation, the blocks of these loads, what is ahead of it. -/
abbrev Wides := List (Nat × List Nat × List Nat)
abbrev Lone := LoneS × Wides

def K.isLd : K → Bool
  | .ld .. => true
  | _ => false

/-- The functions whose calls are run so are told among the facts: a number that is itself. -/
def wideF (F : Facts) (f : Nat) : Bool := F.val.any fun p => match p.1 with | .c (.ofNat g) => Nat.beq g f | _ => false
def K.isWide (F : Facts) : K → Bool
  | .call f _ => wideF F f
  | .app .. => wideF F 1000000
  | _ => false

/-- Where loads go, as far as it can be told without the calls. -/
def scanL (F : Facts) : Nat → List IOp → Tr AV → AH → List (Nat × Nat)
  | _, [], _, _ => []
  | i, o :: r, e, H =>
    match wantedA e o.guard with
    | some true =>
      if o.op.isPure then
        match pureA F e o.op with
        | some v => (match putE e o.dst v with | some e' => scanL F (i + 1) r e' H | none => [])
        | none => scanL F (i + 1) r e H
      else match o.op with
        | .ld n a => match a.ev e with
          | .p b off => (i, b) :: (match H.rd b off n with | some v => (match putE e o.dst v with | some e' => scanL F (i + 1) r e' H | none => []) | none => scanL F (i + 1) r e H)
          | _ => scanL F (i + 1) r e H
        | _ => scanL F (i + 1) r e H
    | _ => scanL F (i + 1) r e H

def ancOf (all : List IOp) (j : Nat) : List Nat := match all[j]? with | some y => y.anc | none => []

/-- All but loads is ahead of it or behind it. -/
def wideOk (i : Nat) (x : IOp) : Nat → List IOp → Bool
  | _, [] => true
  | j, y :: r => (Nat.beq i j || y.op.isPure || y.op.isLd || x.anc.contains j || y.anc.contains i) && wideOk i x (j + 1) r

def wides (F : Facts) (all : List IOp) (l : List (Nat × Nat)) : Nat → List IOp → Wides
  | _, [] => []
  | i, o :: r => if !o.free && !o.op.isPure && !o.op.isLd && o.op.isWide F && wideOk i o 0 all then (i, (l.filter fun p => !(o.anc.contains p.1) && !((ancOf all p.1).contains i)).map (·.2), o.anc) :: wides F all l (i + 1) r else wides F all l (i + 1) r

def widesD (F : Facts) (ops : List IOp) (e : Tr AV) (H : AH) : Wides := if ops.any fun o => !o.free && o.op.isWide F then wides F ops (scanL F 0 ops e H) 0 ops else []

def wideAt : Wides → Nat → Option (List Nat)
  | [], _ => none
  | p :: r, i => if Nat.beq p.1 i then some p.2.1 else wideAt r i

def hideB : List Nat → List (Nat × Nat) → List (Nat × Nat)
  | [], r => r
  | b :: l, r => (b, b + 1) :: hideB l r

/-- Where a load goes. -/
def ldTo (op : K) (e : Tr AV) : Option Nat :=
  match op with
  | .ld _ a => (match a.ev e with | .p b _ => some b | _ => none)
  | _ => none

/-- Beside a wide call but what it leaves alone is seen. -/
def hidX (n i : Nat) (anc : List Nat) (t : Option Nat) : Wides → List (Nat × Nat)
  | [] => []
  | p :: r => if Nat.beq p.1 i || anc.contains p.1 || p.2.2.contains i then hidX n i anc t r else
    match t with
    | some b => if p.2.1.contains b then (0, b) :: (b + 1, n) :: hidX n i anc t r else (0, n) :: hidX n i anc t r
    | none => (0, n) :: hidX n i anc t r

def IOp.isSt (o : IOp) : Bool := match o.op with | .st .. => !o.free | _ => false

/-- Where such a store goes. -/
def stTo (i : Nat) (o : IOp) (e : Tr AV) : List (Nat × Nat) :=
  match o.op with
  | .st _ a _ => if o.free then [] else (match a.ev e with | .p b _ => [(i, b)] | _ => [])
  | _ => []

/-- Where they go, in the text's order: a first look. -/
def scanA (F : Facts) (call : CallFn) : Nat → List IOp → Tr AV → AH → Option (List (Nat × Nat))
  | _, [], _, _ => some []
  | i, o :: r, e, H =>
    match wantedA e o.guard with
    | some true =>
      match opA F call e H o.op with
      | some (v, H') => match putE e o.dst v with | some e' => (scanA F call (i + 1) r e' H').map fun l => stTo i o e ++ l | none => none
      | none => none
    | some false => match putE e o.dst (.tp []) with | some e' => scanA F call (i + 1) r e' H | none => none
    | none => none

def attach (ops : List IOp) : List (Nat × Nat) → LoneS
  | [] => []
  | p :: r => match ops[p.1]? with | some x => (p.1, p.2, x.anc) :: attach ops r | none => attach ops r

def loneD (F : Facts) (call : CallFn) (ops : List IOp) (e : Tr AV) (H : AH) : Option Lone := if ops.any IOp.isSt then (scanA F call 0 ops e H).map fun l => (attach ops l, widesD F ops e H) else some ([], widesD F ops e H)

def loneAt : LoneS → Nat → Option Nat
  | [], _ => none
  | p :: r, i => if Nat.beq p.1 i then some p.2.1 else loneAt r i

/-- The blocks that are there (below n) and that such a store may go to, where it is not ahead of this one, nor behind it. -/
def hidL (n i : Nat) (anc : List Nat) : LoneS → List (Nat × Nat)
  | [] => []
  | p :: r => if anc.contains p.1 || p.2.2.contains i || Nat.ble n p.2.1 then hidL n i anc r else (p.2.1, p.2.1 + 1) :: hidL n i anc r

/-- Whatever else goes to that block is ahead of this one, or behind it. -/
def loneOk (i : Nat) (anc : List Nat) (b : Nat) : LoneS → Bool
  | [] => true
  | p :: r => (!(Nat.beq p.2.1 b) || Nat.beq p.1 i || anc.contains p.1 || p.2.2.contains i) && loneOk i anc b r

/-- One operation of a region whose order is open: as if those that need not be ahead of it were not there. -/
def stepD (F : Facts) (call : CallFn) (L : Lone) (i : Nat) (o : IOp) (s : Tr AV × AH × Spans) : Option (Tr AV × AH × Spans) :=
  match s with
  | (e, H, sp) =>
    match wantedA e o.guard with
    | some true =>
      if o.op.isPure then
        match pureA F e o.op with
        | some v => (putE e o.dst v).map fun e' => (e', H, sp)
        | none => none
      else if o.free then
        match opA F call e H o.op with
        | some (v, H') => (putE e o.dst v).map fun e' => (e', H', [])
        | none => none
      else
        match loneAt L.1 i with
        | some b => match o.op with
          | .st n a x => match a.ev e with
            | .p b' _ =>
              if Nat.beq b' b && loneOk i o.anc b L.1 && !(hidden (spansBut o.anc sp) b) then
                match opA F call e H (.st n a x) with
                | some (v, H') => (putE e o.dst v).map fun e' => (e', H', sp)
                | none => none
              else none
            | _ => none
          | _ => none
        | none =>
          match wideAt L.2 i with
          | some bs =>
            if bs.all fun b => Nat.blt b H.next then
              match opA F call e { H with hid := hideB bs H.hid } o.op with
              | some (v, H') => (putE e o.dst v).map fun e' => (e', { H' with hid := H.hid }, if Nat.beq H'.next H.next then sp else (i, H.next, H'.next) :: sp)
              | none => none
            else none
          | none =>
            match opA F call e { H with low := H.next, hid := spansBut o.anc sp ++ (hidL H.next i o.anc L.1 ++ (hidX H.next i o.anc (ldTo o.op e) L.2 ++ H.hid)) } o.op with
            | some (v, H') => (putE e o.dst v).map fun e' => (e', { H' with low := H.low, hid := H.hid }, if Nat.beq H'.next H.next then sp else (i, H.next, H'.next) :: sp)
            | none => none
    | some false => (putE e o.dst (.tp [])).map fun e' => (e', H, sp)
    | none => none

def foldD (F : Facts) (call : CallFn) (L : Lone) : Nat → List IOp → Tr AV × AH × Spans → Option (Tr AV × AH × Spans)
  | _, [], s => some s
  | i, o :: r, s => match stepD F call L i o s with | some s' => foldD F call L (i + 1) r s' | none => none

/-- Code, with so much fuel. -/
def codeA (F : Facts) (call : CallFn) : Nat → IC → Tr AV → AH → Option (Ex × Tr AV × AH)
  | 0, _, _, _ => none
  | n + 1, c, e, H =>
    match c with
    | .skip => some (.normal, e, H)
    | .reg ops => (regA F call ops e H).map fun r => (.normal, r.1, r.2)
    | .draw ops => if Nat.ble H.low H.next then (match loneD F call ops e H with | some L => (foldD F call L 0 ops (e, H, [])).map fun r => (.normal, r.1, r.2.1) | none => none) else none
    | .seq a b =>
      match codeA F call n a e H with
      | some (.normal, e1, H1) => codeA F call n b e1 H1
      | r => r
    | .cond c a b =>
      match c.ev e with
      | .b true => codeA F call n a e H
      | .b false => codeA F call n b e H
      | _ => none
    | .block id a =>
      match codeA F call n a e H with
      | some (.exit i, e1, H1) => some (if Nat.beq i id then .normal else .exit i, e1, H1)
      | r => r
    | .loop a =>
      match codeA F call n a e H with
      | some (.normal, e1, H1) => codeA F call n (.loop a) e1 H1
      | r => r
    | .scope a => codeA F call n a e H
    | .exit id => some (.exit id, e, H)
    | .ret => some (.ret, e, H)
    | .bad => none

/-- Where a result stands: in a slot, or in the heap. -/
inductive IRes where
  | t (i : Nat)
  | c (i : Nat) (n : Option Nat)

/-- A function: its code, its results, how many slots. -/
structure IFn where
  body : IC
  results : List IRes
  slots : Nat

def argsE : Nat → List AV → Option (Tr AV)
  | _, [] => some .l
  | i, x :: r => match argsE (i + 1) r with | some e => putE e (some i) x | none => none

def oneRes (e : Tr AV) (H : AH) : IRes → Option AV
  | .t i => some ((e.get i).getD .u)
  | .c i n => match (e.get i).getD .u with | .p b o => H.rd b o n | _ => none

def allRes (e : Tr AV) (H : AH) : List IRes → Option (List AV)
  | [] => some []
  | x :: r => match oneRes e H x, allRes e H r with | some v, some l => some (v :: l) | _, _ => none

def resA (e : Tr AV) (H : AH) (l : List IRes) : Option AV :=
  match allRes e H l with
  | some [v] => some v
  | some l => some (.tp l)
  | none => none

def runFn (F : Facts) (call : CallFn) (n : Nat) (f : IFn) (args : List AV) (H : AH) : Option (AV × AH) :=
  if Nat.ble args.length f.slots then
    match argsE 0 args with
    | some e =>
      match codeA F call n f.body e H with
      | some (.exit _, _, _) => none
      | some (_, e', H') => match resA e' H' f.results with | some v => some (v, H') | none => none
      | none => none
    | none => none
  else none

/-- Calls, so deep. -/
def callA (F : Facts) (tab : Nat → Option IFn) (fuel : Nat) : Nat → CallFn
  | 0, _, _, _ => none
  | d + 1, f, args, H => match tab f with | some fn => runFn F (callA F tab fuel d) fuel fn args H | none => none

end Go.Sh

namespace Go.Sh

def mapO {α β : Type} (f : α → Option β) : List α → Option (List β)
  | [] => some []
  | x :: r => match f x with
    | some y => match mapO f r with | some l => some (y :: l) | none => none
    | none => none

theorem mapO_spec {α β : Type} (f : α → Option β) : ∀ (l : List α) (m : List β), mapO f l = some m → l.length = m.length ∧ ∀ (j : Nat) (x : α) (y : β), l[j]? = some x → m[j]? = some y → f x = some y := by
  intro l
  induction l with
  | nil => intro m h; simp [mapO] at h; subst h; simp
  | cons a r ih =>
    intro m h
    simp only [mapO] at h
    split at h
    · rename_i y hy
      split at h
      · rename_i l' hl
        simp at h
        subst h
        obtain ⟨h1, h2⟩ := ih l' hl
        refine ⟨by simp [h1], fun j x y' hx hy' => ?_⟩
        cases j with
        | zero => simp at hx hy'; subst hx; subst hy'; exact hy
        | succ j => simp at hx hy'; exact h2 j x y' hx hy'
      · cases h
    · cases h

def cAV : Nat → Value → Option AV
  | 0, _ => none
  | n + 1, v => match v with
    | .bool b => some (.b b)
    | .int k z => some (.i k (.c z))
    | .string s => some (.str s)
    | .pointer none => some .np
    | .slice none 0 0 => some .nsl
    | .nilFunc => some .nfn
    | .nilIface => some .nif
    | .map none => some .nmp
    | .agg vs => (mapO (cAV n) vs.toList).map .ag
    | .tuple vs => (mapO (cAV n) vs.toList).map .tp
    | _ => none

theorem cAV_sim (ν : Nat → Int) (ρ : Emb) : ∀ (n : Nat) (v : Value) (x : AV), cAV n v = some x → VR ν ρ x v := by
  intro n
  induction n with
  | zero => intro v x h; cases h
  | succ n ih =>
    intro v x h
    unfold cAV at h
    split at h <;> first
      | (simp only [Option.some.injEq] at h; subst h; first | exact .b _ | exact .i _ (.c _) | exact .str _ | exact .np | exact .nsl | exact .nfn | exact .nif | exact .nmp)
      | (simp only [Option.map_eq_some_iff] at h
         obtain ⟨l, hl, rfl⟩ := h
         obtain ⟨h1, h2⟩ := mapO_spec _ _ _ hl
         first
           | exact .ag _ _ (by simpa using h1.symm) (fun j x v hx hv => ih _ _ (h2 j v x (by simpa using hv) hx))
           | exact .tp _ _ (by simpa using h1.symm) (fun j x v hx hv => ih _ _ (h2 j v x (by simpa using hv) hx)))
      | cases h

def cO : Operand → Option O
  | .tmp t => some (.t t)
  | .const v => (cAV 8 v).map .k
  | .func f => some (.k (.fn f []))
  | .global g => if Nat.blt g gmax then some (.k (.p g 0)) else none

theorem cO_sim {ν : Nat → Int} {ρ : Emb} {e : Tr AV} {a : Act} (he : ER ν ρ e a.tmps) {x : Operand} {y : O} (h : cO x = some y) : VR ν ρ (y.ev e) (a.eval x) := by
  cases x with
  | tmp t =>
    simp [cO] at h; subst h
    simp only [O.ev, Act.eval]
    cases hg : e.get t with
    | none => exact .u _
    | some z => exact he t z hg
  | const v =>
    simp [cO] at h
    obtain ⟨z, hz, rfl⟩ := h
    exact cAV_sim ν ρ _ _ _ hz
  | func f =>
    simp [cO] at h; subst h
    exact .fn f [] #[] rfl (by simp)
  | global g =>
    simp only [cO] at h
    split at h
    · rename_i hg
      simp only [Option.some.injEq] at h
      subst h
      obtain ⟨tot, ht⟩ := ρ.glob g (by simpa using hg)
      exact .p g 0 ⟨g, 0, tot⟩ ht
    · cases h

def cOs (xs : Array Operand) : Option (List O) := mapO cO xs.toList

theorem cOs_sim {ν : Nat → Int} {ρ : Emb} {e : Tr AV} {a : Act} (he : ER ν ρ e a.tmps) {xs : Array Operand} {ys : List O} (h : cOs xs = some ys) : LR ν ρ (ys.map (O.ev e)) (xs.map a.eval) := by
  obtain ⟨h1, h2⟩ := mapO_spec _ _ _ h
  refine ⟨by simpa using h1.symm, fun j x v hx hv => ?_⟩
  simp only [List.getElem?_map, Option.map_eq_some_iff] at hx
  obtain ⟨y, hy, rfl⟩ := hx
  simp only [Array.getElem?_map, Option.map_eq_some_iff] at hv
  obtain ⟨z, hz, rfl⟩ := hv
  exact cO_sim he (h2 j z y (by simpa using hz) hy)

def cOpt : Option Operand → Option (Option O)
  | none => some none
  | some x => (cO x).map some

/-- Is it of many cells, and of how many? -/
def cAgg (P : Program) (t : TypeId) : Option (Option Nat) :=
  match P.underlying t, P.info? t with
  | some (.struct _), some i => some (some i.size)
  | some (.array _ _), some i => some (some i.size)
  | some _, some _ => some none
  | _, _ => none

def cSize (P : Program) (t : TypeId) : Option Nat := (P.info? t).map (·.size)

def cZero (P : Program) (t : TypeId) : Option AV :=
  match P.info? t with
  | some i => match i.zero with | some z => cAV 8 z | none => none
  | none => none

def cParts (places : Nat → Option (Nat × Nat)) : List (Nat × Operand) → Option (List (Nat × Nat × O))
  | [] => some []
  | p :: r => match places p.1, cO p.2, cParts places r with
    | some pl, some x, some l => some ((pl.1, pl.2, x) :: l)
    | _, _, _ => none

def nilKind (d : TypeDesc) : Option Nat :=
  match d with
  | .pointer _ => some 0
  | .slice _ => some 1
  | .interface _ => some 2
  | .func _ _ _ => some 3
  | .map _ _ => some 4
  | _ => none

def intType (P : Program) (u : TypeId) : Bool := match P.underlying u with | some (.int _) => true | _ => false
def oneType (P : Program) (u : TypeId) : Bool := match P.info? u with | some i => Nat.beq i.size 1 | none => false

/-- Where the numbers stand of a struct or an array of numbers alone, and its equality is plain. -/
def eqOffs (P : Program) (t : TypeId) (d : TypeDesc) : Option (List Nat) :=
  match d with
  | .array n e => if intType P e && oneType P e && !(P.eqGuardType P.depth t) then some (List.range n) else none
  | .struct fs => if fs.toList.all (fun f => f.name != "_" && intType P f.type) && !(P.stoodInHeld t) && !(P.eqGuardType P.depth t) then some (fs.toList.map (·.offset)) else none
  | _ => none

def constO : Operand → Bool
  | .const _ => true
  | _ => false

def cOp (P : Program) (o : Oper) : Option K :=
  match o.op with
  | .move x => (cO x).map .mv
  | .assign x => (cO x).map .mv
  | .pick c a b => (cO c).bind fun c => (cO a).bind fun a => (cO b).map fun b => .pick c a b
  | .alloc t => (cZero P t).bind fun z => z.cells.map fun z => .alloc t z
  | .box t x => (cO x).map fun x => .box t x
  | .build t ps => match P.underlying t with
    | some (.struct fields) => (cZero P t).bind fun z => z.cells.bind fun z =>
        (fields.toList.mapM (fun f => (P.info? f.type).map fun i => (f.offset, i.size))).bind fun places => (cParts (fun i => places[i]?) ps.toList).map fun l => .bld z l
    | some (.array _ t') => (cZero P t).bind fun z => z.cells.bind fun z => (cSize P t').bind fun s => (cParts (fun i => some (i * s, s)) ps.toList).map fun l => .bld z l
    | _ => none
  | .buildSlice t n ps => match P.underlying t with
    | some (.slice t') => (cZero P t').bind fun z => z.cells.bind fun z => (cSize P t').bind fun s => (cParts (fun i => some (i * s, s)) ps.toList).map fun l => .bsl t' s n z l
    | _ => none
  | .load t x => (cO x).bind fun x => (cAgg P t).map fun n => .ld n x
  | .store t x v => (cO x).bind fun x => (cO v).bind fun v => (cSize P t).map fun n => .st n x v
  | .nilCheck x => (cO x).map .nck
  | .sliceToArrayPointer t x => (cO x).bind fun x => match P.underlying t with | some (.array n _) => some (.s2a n x) | _ => none
  | .binOp op t x y _ => (cO x).bind fun x' => (cO y).bind fun y' =>
      match P.underlying t with
      | some (.int _) => some (.bin op x' y')
      | some .bool => match op with | .eql => some (.eqb false x' y') | .neq => some (.eqb true x' y') | _ => none
      | some d => if constO x || constO y then (match op with | .eql => (nilKind d).map fun k => .eqn false k x' y' | .neq => (nilKind d).map fun k => .eqn true k x' y' | _ => none)
        else (match op with | .eql => (eqOffs P t d).map fun l => .eqa false l x' y' | .neq => (eqOffs P t d).map fun l => .eqa true l x' y' | _ => none)
      | none => none
  | .unOp op _ x => (cO x).map fun x => .una op x
  | .convert s t x => (cO x).bind fun x => match P.underlying s, P.underlying t with
    | some (.int _), some (.int k) => some (.cv k x)
    | some (.slice e), some .string => match P.underlying e with | some (.int .u8) => (cSize P e).bind fun s => if s = 1 then some (.bts x) else none | _ => none
    | some (.slice e), some (.slice _) => if s = t then (match P.underlying e with | some (.int .u8) => some (.frz x) | _ => none) else none
    | _, _ => none
  | .makeMap _ none => some .mkm
  | .lookup t m k ok => (cO m).bind fun m => (cO k).bind fun k => match P.underlying t with
    | some (.map kt et) => match P.underlying kt with
      | some .string => (cZero P et).map fun z => .lku true z ok m k
      | some (.int _) => (cZero P et).map fun z => .lku false z ok m k
      | _ => none
    | _ => none
  | .mapUpdate t m k v => (cO m).bind fun m => (cO k).bind fun k => (cO v).bind fun v => match P.underlying t with
    | some (.map kt _) => match P.underlying kt with
      | some .string => some (.mup true m k v)
      | some (.int _) => some (.mup false m k v)
      | _ => none
    | _ => none
  | .makeInterface t x => (cO x).bind fun x => match P.underlying t with
    | some (.interface _) => none
    | some _ => some (.ifc t x)
    | none => none
  | .makeFunc (.func f) first caps => if first.isEmpty then (cOs caps).map fun l => .mkf f l else none
  | .makeSlice t l c => match P.underlying t with
    | some (.slice t') => (cO l).bind fun l => (cO c).bind fun c => (cZero P t').bind fun z => z.cells.bind fun z => (P.info? t').map fun i => .msl t' i.size i.bytes z l c
    | _ => none
  | .slice t x lo hi mx => (cO x).bind fun x => (cOpt lo).bind fun lo => (cOpt hi).bind fun hi => (cOpt mx).bind fun mx =>
      match P.underlying t with
      | some (.slice t') => (cSize P t').map fun s => .slc s x lo hi mx
      | some (.array n t') => (cSize P t').map fun s => .sla n s x lo hi mx
      | _ => none
  | .fieldAddr t x i => (cO x).bind fun x => match P.underlying t with
    | some (.struct fs) => (fs[i]?).bind fun f => (cSize P f.type).bind fun s => if s = 0 then none else some (.fa f.offset x)
    | _ => none
  | .field t x i => (cO x).bind fun x => match P.underlying t with
    | some (.struct fs) => (fs[i]?).bind fun f => (cAgg P f.type).map fun n => .fl f.offset n x
    | _ => none
  | .indexAddr t x i => (cO x).bind fun x => (cO i).bind fun i => match P.underlying t with
    | some (.slice t') => (cSize P t').map fun s => .ia s none x i
    | some (.array n t') => (cSize P t').map fun s => .ia s (some n) x i
    | _ => none
  | .index t x i => (cO x).bind fun x => (cO i).bind fun i => match P.underlying t with
    | some (.array n t') => (cSize P t').bind fun s => (cAgg P t').map fun m => .ix m s n x i
    | _ => none
  | .typeAssert x _ t ok => (cO x).bind fun x => match P.underlying t with
    | some (.interface _) => none
    | some _ => (cZero P t).map fun z => .tas t z ok x
    | none => none
  | .extract x i => (cO x).map fun x => .ext x i
  | .call c => match c.callee with
    | .value (.func f) => (cOs c.args).map fun l => .call f l
    | .value x => (cO x).bind fun x => (cOs c.args).map fun l => .callv x l
    | .builtin b => (cOs c.args).bind fun l =>
      match b, l with
      | .len, [x] => (c.argTypes[0]?).bind fun t => match P.underlying t with
        | some (.slice _) => some (.len x)
        | some .string => some (.lens x)
        | some (.array n _) => some (.lenk n)
        | _ => none
      | .min, [x, y] => some (.mm false x y)
      | .max, [x, y] => some (.mm true x y)
      | .append, [x, y] => (c.argTypes[0]?).bind fun t => (c.argTypes[1]?).bind fun t2 => match P.underlying t with
        | some (.slice e) => (P.info? e).bind fun i => (cZero P e).bind fun z => z.cells.bind fun zc => if t2 = t ∧ zc.length = i.size ∧ c.argTypes.size = 2 then some (.app e i.size i.bytes [] x y) else if intType P t2 ∧ zc.length = i.size ∧ 0 < i.size ∧ c.argTypes.size = 2 then some (.app e i.size i.bytes zc x y) else none
        | _ => none
      | .copy, [x, y] => (c.argTypes[0]?).bind fun t => match P.underlying t with
        | some (.slice e) => (cSize P e).map fun s => .cpy s x y
        | _ => none
      | _, _ => none
    | .invoke _ _ => none
  | _ => none

section
variable {ν : Nat → Int} {ρ : Emb} {F : Facts} {P : Program} {w : World}

theorem yesF_val0 (hF : F.Hold ν) {op : BinOp} {x y : AI} (h : yesF (cmpI F op x y) = true) : compare op (x.val ν) (y.val ν) = true := by
  unfold yesF at h
  split at h
  · rename_i hc
    exact cmpI_val hF _ _ _ _ hc
  · cases h

theorem binA_sim (hF : F.Hold ν) {op : BinOp} {x y r : AV} {vx vy : Value} (t : TypeId) (ox oy : Operand) (hx : VR ν ρ x vx) (hy : VR ν ρ y vy) (h : binA F op x y = some r) :
    ∃ v, (do eqGuard op t ox oy vx vy; binOp op t vx vy : Sem Value).run P w = .ok v w ∧ VR ν ρ r v := by
  unfold binA at h
  split at h
  · rename_i k a k' b
    cases hx
    cases hy
    have hg : (eqGuard op t ox oy (.int k (a.val ν)) (.int k' (b.val ν))).run P w = .ok () w := by
      unfold eqGuard
      cases op <;> rfl
    rw [Sem.run_bind, hg, Result.andThen_ok]
    split at h
    all_goals try (
      split at h
      · rename_i hk
        subst hk
        simp only [Option.some.injEq] at h
        subst h
        refine ⟨_, ?_, VR.i _ _⟩
        rw [mkE_val hF]
        simp [binOp, Op.intArith, Op.intBits, arith]
      · cases h)
    · split at h
      · rename_i hk
        subst hk
        split at h
        · rename_i n
          split at h
          · cases h
          · rename_i hn
            simp only [Option.some.injEq] at h
            subst h
            refine ⟨_, ?_, VR.i _ _⟩
            rw [mkE_val hF]
            simp [binOp, Op.intDiv, arith, AI.val, hn]
        · split at h
          · rename_i hy
            simp only [Option.some.injEq] at h
            subst h
            have hn : ¬ b.val ν = 0 := by
              have h9 := yesF_val0 hF hy
              intro h0
              rw [h0] at h9
              cases h9
            refine ⟨_, ?_, VR.i _ _⟩
            rw [mkE_val hF]
            simp [binOp, Op.intDiv, arith, hn]
          · cases h
      · cases h
    · split at h
      · rename_i hk
        subst hk
        split at h
        · rename_i n
          split at h
          · cases h
          · rename_i hn
            simp only [Option.some.injEq] at h
            subst h
            refine ⟨_, ?_, VR.i _ _⟩
            rw [mkE_val hF]
            simp [binOp, Op.intDiv, arith, AI.val, hn]
        · split at h
          · rename_i hy
            simp only [Option.some.injEq] at h
            subst h
            have hn : ¬ b.val ν = 0 := by
              have h9 := yesF_val0 hF hy
              intro h0
              rw [h0] at h9
              cases h9
            refine ⟨_, ?_, VR.i _ _⟩
            rw [mkE_val hF]
            simp [binOp, Op.intDiv, arith, hn]
          · cases h
      · cases h
    · split at h
      · rename_i n
        split at h
        · cases h
        · rename_i hn
          simp only [Option.some.injEq] at h
          subst h
          refine ⟨_, ?_, VR.i _ _⟩
          rw [mkE_val hF]
          simp [binOp, Op.shift, arith, AI.val, hn]
      · cases h
    · split at h
      · rename_i n
        split at h
        · cases h
        · rename_i hn
          simp only [Option.some.injEq] at h
          subst h
          refine ⟨_, ?_, VR.i _ _⟩
          rw [mkE_val hF]
          simp [binOp, Op.shift, arith, AI.val, hn]
      · cases h
    · split at h
      · rename_i hk
        subst hk
        simp only [Option.map_eq_some_iff] at h
        obtain ⟨t, ht, rfl⟩ := h
        have hc := cmpI_val hF _ _ _ _ ht
        refine ⟨.bool t, ?_, VR.b _⟩
        rw [← hc]
        cases op <;> first
          | (simp_all; done)
          | (simp [binOp, Op.intCmp, compare]; done)
          | skip
      · cases h
  · cases h

end
end Go.Sh

namespace Go.Sh

section
variable {ν : Nat → Int} {ρ : Emb} {F : Facts} {P : Program} {w : World}

theorem asNat_sim {x : AV} {n : Nat} {v : Value} (h : asNat x = some n) (hv : VR ν ρ x v) : ∃ k, v = .int k n := by
  unfold asNat at h
  split at h
  · rename_i k m
    simp only [Option.some.injEq] at h
    subst h
    cases hv
    exact ⟨k, rfl⟩
  · cases h

theorem cAgg_spec {t : TypeId} {n : Option Nat} (h : cAgg P t = some n) : ∃ i, P.info? t = some i ∧
    ((isAgg t).run P w = .ok n.isSome w) ∧ (∀ m, n = some m → i.size = m) := by
  unfold cAgg at h
  split at h
  · rename_i fs i h1 h2
    simp only [Option.some.injEq] at h
    subst h
    exact ⟨i, h2, by simp [isAgg, run_underlying h1], fun m hm => by simpa using hm⟩
  · rename_i fs i h1 h2
    simp only [Option.some.injEq] at h
    subst h
    exact ⟨i, h2, by simp [isAgg, run_underlying h1], fun m hm => by simpa using hm⟩
  · rename_i d i h1 h2 h3 h4
    simp only [Option.some.injEq] at h
    subst h
    refine ⟨i, h4, ?_, fun m hm => by cases hm⟩
    simp only [isAgg, Sem.run_bind, run_underlying h3, Result.andThen_ok]
    cases d <;> first
      | rfl
      | exact (h1 _ _ h3 h4).elim
      | exact (h2 _ _ _ h3 h4).elim
  · cases h

theorem cSize_spec {t : TypeId} {n : Nat} (h : cSize P t = some n) : (sizeOf t).run P w = .ok n w := by
  simp only [cSize, Option.map_eq_some_iff] at h
  obtain ⟨i, hi, rfl⟩ := h
  simp [sizeOf, typeInfo, hi]

theorem cZero_spec {t : TypeId} {z : AV} (h : cZero P t = some z) : ∃ v, (zeroValue t).run P w = .ok v w ∧ VR ν ρ z v ∧ (∃ i, P.info? t = some i ∧ i.zero = some v) := by
  unfold cZero at h
  split at h
  · rename_i i hi
    split at h
    · rename_i v hv
      exact ⟨v, by simp [zeroValue, typeInfo, hi, hv], cAV_sim ν ρ _ _ _ h, i, hi, hv⟩
    · cases h
  · cases h

/-- A part of what lies in a row of cells. -/
theorem part_sim {t : TypeId} {n : Option Nat} {cs : List AV} {vs : Array Value} {off : Nat} {r : AV} (hc : cAgg P t = some n) (hl : LR ν ρ cs vs) (h : AV.part n cs off = some r) :
    ∃ v, (part t vs off).run P w = .ok v w ∧ VR ν ρ r v := by
  obtain ⟨i, hi, ha, hn⟩ := cAgg_spec (w := w) hc
  unfold AV.part at h
  cases n with
  | none =>
    simp only at h
    have hlt : off < cs.length := (List.getElem?_eq_some_iff.1 h).1
    have hv : vs[off]? = some vs[off]! := by
      rw [Array.getElem?_eq_getElem (by rw [← hl.1]; exact hlt)]
      simp [getElem!_pos, (by rw [← hl.1]; exact hlt : off < vs.size)]
    refine ⟨vs[off]!, ?_, hl.2 off r _ h hv⟩
    simp [part, ha, hv]
  | some m =>
    simp only at h
    split at h
    · rename_i hb
      simp only [Option.some.injEq] at h
      subst h
      simp only [Nat.ble_eq] at hb
      have hm := hn m rfl
      refine ⟨.agg (vs.extract off (off + m)), ?_, .ag _ _ ?_ ?_⟩
      · simp [part, ha, sizeOf, typeInfo, hi, hm]
      · have := hl.1
        simp
        omega
      · intro j x v hx hv
        simp only [List.getElem?_take, List.getElem?_drop] at hx
        split at hx
        · rename_i hj
          refine hl.2 (off + j) x v hx ?_
          rw [Array.getElem?_extract] at hv
          split at hv
          · exact hv
          · cases hv
        · cases hx
    · cases h

end

section
variable {ν : Nat → Int} {ρ : Emb} {F : Facts} {P : Program} {w : World} {o : Oper} {k : K} {e : Tr AV} {a : Act} {r : AV}

/-- What such an operation is to be. -/
def Val (ν : Nat → Int) (ρ : Emb) (P : Program) (w : World) (a : Act) (o : Oper) (r : AV) : Prop := ∃ v, (execOp a.eval o).run P w = .ok (.value v) w ∧ VR ν ρ r v

theorem Val.of {s : Sem Value} (h : execOp a.eval o = (do pure (.value (← s)) : Sem Next)) (hs : ∃ v, s.run P w = .ok v w ∧ VR ν ρ r v) : Val ν ρ P w a o r := by
  obtain ⟨v, h1, h2⟩ := hs
  exact ⟨v, by rw [h]; simp [h1], h2⟩

theorem run_bound (kk : IntKind) (i y : Nat) (code : BoundsCode) (h : i ≤ y) : (Instr.sliceBound (.int kk (i : Int)) y code).run P w = .ok i w := by
  have h1 : (i : Int) ≤ y := by omega
  have h2 : (0 : Int) ≤ i := by omega
  simp only [Instr.sliceBound, asIntOf, Sem.run_bind, Sem.run_pure, Result.andThen_ok]
  rw [if_pos ⟨h2, h1⟩]
  rfl

theorem sim_bounds {n cap sure : Nat} {tc : Option Nat} {lo hi mx : Option Operand} {lo' hi' mx' : Option O} {l h m : Option Nat} {isSlice : Bool} {r : Nat × Nat × Option Nat}
    (he : ER ν ρ e a.tmps) (h1 : cOpt lo = some lo') (h2 : cOpt hi = some hi') (h3 : cOpt mx = some mx') (e1 : optNat e lo' = some l) (e2 : optNat e hi' = some h) (e3 : optNat e mx' = some m)
    (hsure : sure ≤ cap) (htc : ∀ x, tc = some x → x = cap) (hb : bounds n sure tc l h m = some r) :
    ∃ mm, (Instr.sliceBounds isSlice n cap (lo.map a.eval) (hi.map a.eval) (mx.map a.eval)).run P w = .ok (r.1, r.2.1, mm) w ∧ (∀ x, r.2.2 = some x → x = mm) ∧ r.1 ≤ r.2.1 ∧ r.2.1 ≤ sure ∧ r.2.1 ≤ mm ∧ mm ≤ cap ∧
      (r.2.2 = none → mm = cap) := by
  have key : ∀ (y : Option Operand) (y' : Option O) (z : Option Nat), cOpt y = some y' → optNat e y' = some z → (y = none ∧ z = none) ∨ ∃ yo q kk, y = some yo ∧ z = some q ∧ a.eval yo = .int kk (q : Int) := by
    intro y y' z hy hz
    cases y with
    | none =>
      simp only [cOpt, Option.some.injEq] at hy
      subst hy
      simp [optNat] at hz
      exact .inl ⟨rfl, hz.symm⟩
    | some yo =>
      simp only [cOpt, Option.map_eq_some_iff] at hy
      obtain ⟨yo', hyo, rfl⟩ := hy
      simp only [optNat] at hz
      split at hz
      · rename_i q hq
        simp at hz
        obtain ⟨kk, hk⟩ := asNat_sim hq (cO_sim he hyo)
        exact .inr ⟨yo, q, kk, rfl, hz.symm, hk⟩
      · cases hz
  unfold bounds at hb
  rcases key mx mx' m h3 e3 with ⟨rfl, rfl⟩ | ⟨mo, mq, mk, rfl, rfl, hm⟩
  · simp only at hb
    split at hb
    · rename_i hc
      simp only [Bool.and_eq_true, Nat.ble_eq] at hc
      simp only [Option.some.injEq] at hb
      subst hb
      refine ⟨cap, ?_, htc, hc.2, hc.1, Nat.le_trans hc.1 hsure, Nat.le_refl _, fun _ => rfl⟩
      rcases key hi hi' h h2 e2 with ⟨rfl, rfl⟩ | ⟨ho, hq, hk, rfl, rfl, hh⟩
      · rcases key lo lo' l h1 e1 with ⟨rfl, rfl⟩ | ⟨lo, lq, lk, rfl, rfl, hl⟩
        · simp [Instr.sliceBounds]
        · have : lq ≤ n := by have := hc.2; simp at this; omega
          simp [Instr.sliceBounds, hl, run_bound, this]
      · have h5 : hq ≤ cap := by have := hc.1; simp at this; omega
        rcases key lo lo' l h1 e1 with ⟨rfl, rfl⟩ | ⟨lo, lq, lk, rfl, rfl, hl⟩
        · simp [Instr.sliceBounds, run_bound, hh, h5]
        · have : lq ≤ hq := by have := hc.2; simp at this; omega
          simp [Instr.sliceBounds, run_bound, hl, hh, this, h5]
    · cases hb
  · simp only at hb
    rcases key hi hi' h h2 e2 with ⟨rfl, rfl⟩ | ⟨ho, hq, hk, rfl, rfl, hh⟩
    · cases hb
    · simp only at hb
      split at hb
      · rename_i hc
        simp only [Bool.and_eq_true, Nat.ble_eq] at hc
        simp only [Option.some.injEq] at hb
        subst hb
        refine ⟨mq, ?_, fun x hx => by simpa using hx.symm, hc.2, Nat.le_trans hc.1.2 hc.1.1, hc.1.2, Nat.le_trans hc.1.1 hsure, fun hx => by cases hx⟩
        have h6 : mq ≤ cap := by have := hc.1.1; omega
        have h7 : hq ≤ mq := by have := hc.1.2; omega
        rcases key lo lo' l h1 e1 with ⟨rfl, rfl⟩ | ⟨lo, lq, lk, rfl, rfl, hl⟩
        · simp [Instr.sliceBounds, run_bound, hm, hh, h6, h7]
        · have : lq ≤ hq := by have := hc.2; simp at this; omega
          simp [Instr.sliceBounds, run_bound, hm, hl, hh, this, h6, h7]
      · cases hb

theorem Addr.add_off (cb o n : Nat) : (⟨cb, o, none⟩ : Addr).add n = ⟨cb, o + n, none⟩ := by
  unfold Addr.add
  split
  · rename_i h; subst h; rfl
  · rfl

theorem offOf_val {k : AI} {b : Nat} (hk : k.val ν = (b : Int)) : ∀ (x : AI) (j : Nat), offOf k x = some j → b + j < 4611686018427387904 → x.val ν = ((b + j : Nat) : Int) := by
  intro x
  induction x with
  | c n =>
    intro j h hb
    cases n with
    | ofNat m =>
      simp only [offOf] at h
      split at h
      · rename_i a'
        have : (a' : Int) = (b : Int) := hk
        have : a' = b := by omega
        subst this
        split at h
        · rename_i hle
          simp only [Nat.ble_eq] at hle
          simp only [Option.some.injEq] at h
          show (m : Int) = _
          omega
        · cases h
      · cases h
    | negSucc m =>
      simp only [offOf] at h
      split at h
      · rename_i hq
        have := AI.beq_eq _ _ hq
        simp only [Option.some.injEq] at h
        subst h
        rw [this, hk, Nat.add_zero]
      · cases h
  | s m =>
    intro j h hb
    simp only [offOf] at h
    split at h
    · rename_i hq
      have := AI.beq_eq _ _ hq
      simp only [Option.some.injEq] at h
      subst h
      rw [this, hk, Nat.add_zero]
    · cases h
  | w kk y ih =>
    intro j h hb
    simp only [offOf] at h
    split at h
    · rename_i hq
      have := AI.beq_eq _ _ hq
      simp only [Option.some.injEq] at h
      subst h
      rw [this, hk, Nat.add_zero]
    · cases h
  | e op kk y m ihy ihm =>
    intro j h hb
    unfold offOf at h
    split at h
    · rename_i b' heq; cases heq
    · rename_i y' m' heq
      cases heq
      split at h
      · rename_i hq
        have := AI.beq_eq _ _ hq
        simp only [Option.some.injEq] at h
        subst h
        rw [this, hk, Nat.add_zero]
      · split at h
        · rename_i j' hj
          simp only [Option.some.injEq] at h
          subst h
          have h1 := ihy j' hj (by omega)
          show IntKind.i64.wrap (y.val ν + (m' : Int)) = _
          rw [h1]
          simp only [IntKind.wrap, IntKind.bits, IntKind.signed]
          simp
          omega
        · cases h
    · split at h
      · rename_i hq
        have := AI.beq_eq _ _ hq
        simp only [Option.some.injEq] at h
        subst h
        rw [this, hk, Nat.add_zero]
      · cases h

theorem nums_of (he : ER ν ρ e a.tmps) {y : Option Operand} {y' : Option O} {z : Option AI} (hy : cOpt y = some y') (hz : nums (y'.map (O.ev e)) = some z) : (y = none ∧ z = none) ∨ ∃ yo q kk, y = some yo ∧ z = some q ∧ a.eval yo = .int kk (q.val ν) := by
  cases y with
  | none =>
    simp only [cOpt, Option.some.injEq] at hy
    subst hy
    simp [nums] at hz
    exact .inl ⟨rfl, hz.symm⟩
  | some yo =>
    simp only [cOpt, Option.map_eq_some_iff] at hy
    obtain ⟨yo', hyo, rfl⟩ := hy
    have hv := cO_sim he hyo
    simp only [Option.map_some] at hz
    generalize yo'.ev e = q at hz hv
    cases q <;> simp only [nums, Option.some.injEq, reduceCtorEq] at hz
    rename_i kk n
    subst hz
    generalize hg : a.eval yo = g at hv
    cases hv
    exact .inr ⟨yo, n, kk, rfl, rfl, hg⟩

theorem yesF_val (hF : F.Hold ν) {op : BinOp} {x y : AI} (h : yesF (cmpI F op x y) = true) : compare op (x.val ν) (y.val ν) = true := by
  unfold yesF at h
  split at h
  · rename_i hc
    exact cmpI_val hF _ _ _ _ hc
  · cases h

theorem sim_slcW (hF : F.Hold ν) (he : ER ν ρ e a.tmps) {t t' : TypeId} {x : Operand} {size : Nat} {lo hi mx : Option Operand} {lo' hi' mx' : Option O} {b z : Nat} {k : AI} {wd : Nat} {len : AI} {cap : Cap}
    (ho : o.op = .slice t x lo hi mx) (ht : P.underlying t = some (.slice t')) (hs : cSize P t' = some size) (hx : VR ν ρ (.slw b z k wd len cap) (a.eval x)) (h1 : cOpt lo = some lo') (h2 : cOpt hi = some hi') (h3 : cOpt mx = some mx')
    (h : sliceW F size b z k wd len (lo'.map (O.ev e)) (hi'.map (O.ev e)) (mx'.map (O.ev e)) = some r) : Val ν ρ P w a o r := by
  refine Val.of (s := Instr.sliceAt t (a.eval x) (lo.map a.eval) (hi.map a.eval) (mx.map a.eval)) (by simp only [execOp, ho]) ?_
  have hz : ∀ w, (sizeOf t').run P w = .ok size w := fun w => cSize_spec hs
  generalize a.eval x = xv at hx
  cases hx
  rename_i pl o' b' n c hl hb hpl hoo ha hw hn hc
  have frame : ∀ (base : Option Addr) (len cap : Nat) (q : Nat × Nat × Nat), (Instr.sliceBounds true len cap (lo.map a.eval) (hi.map a.eval) (mx.map a.eval)).run P w = .ok q w →
      (Instr.sliceAt t (.slice base len cap) (lo.map a.eval) (hi.map a.eval) (mx.map a.eval)).run P w = .ok (.slice (if q.2.2 = q.1 then base else base.map (·.add (q.1 * size))) (q.2.1 - q.1) (q.2.2 - q.1)) w := by
    intro base len cap q hq
    simp [Instr.sliceAt, Instr.slice, run_underlying ht, hq, hz]
  -- the bounds, told
  have tell : ∀ (l : Nat) (u : Nat) (_ : l ≤ u) (_ : u ≤ c) (_ : (Instr.sliceBounds true n c (lo.map a.eval) (hi.map a.eval) (mx.map a.eval)).run P w = .ok (l, u, c) w) (c1 : Nat) (_ : l = b' + c1) (_ : z = size) (r' : AV) (_ : r' = if Nat.blt 0 (u - l) then .sl b (c1 * size) (.c (.ofNat (u - l))) .any else .sle false) (_ : r = r'),
      ∃ v, (Instr.sliceAt t (.slice (some ⟨pl.cb, o', none⟩) n c) (lo.map a.eval) (hi.map a.eval) (mx.map a.eval)).run P w = .ok v w ∧ VR ν ρ r v := by
    intro l u hlu huc hrun c1 hl1 hzs r' hr' hr
    refine ⟨_, frame _ _ _ _ hrun, ?_⟩
    subst hr; subst hr'
    split
    · rename_i hlt
      simp only [Nat.blt_eq] at hlt
      have hne : ¬ c = l := by omega
      simp only [if_neg hne, Option.map_some, Addr.add_off]
      have e1 : o' + l * size = pl.co + c1 * size := by rw [hoo, hl1, hzs, Nat.add_mul, Nat.add_assoc]
      rw [e1]
      exact .sl b (c1 * size) _ .any pl _ _ hpl rfl trivial (by omega)
    · rename_i hlt
      have h0 : u - l = 0 := by
        have : ¬ 0 < u - l := fun h => hlt (by simpa [Nat.blt_eq] using h)
        omega
      simp only [h0]
      split
      · exact .sle false _ _ (fun x => by cases x)
      · exact .sle false _ _ (fun x => by cases x)
  have nomx : mx'.map (O.ev e) = none → mx = none := by
    intro hm
    cases mx with
    | none => rfl
    | some m =>
      simp only [cOpt, Option.map_eq_some_iff] at h3
      obtain ⟨m', _, rfl⟩ := h3
      cases hm
  unfold sliceW at h
  split at h
  · rename_i l hh e1 e2 e3
    have hmx := nomx e3
    subst hmx
    rcases nums_of he h1 e1 with ⟨_, q2⟩ | ⟨lo0, l0, lk, rfl, q2, q3⟩
    · cases q2
    cases q2
    rcases nums_of he h2 e2 with ⟨_, q2⟩ | ⟨hi0, h0, hk, rfl, q2, q4⟩
    · cases q2
    cases q2
    split at h
    · rename_i c1 c2 f1 f2
      split at h
      · rename_i hb1
        simp only [Bool.and_eq_true, Nat.ble_eq] at hb1
        obtain ⟨⟨g1, g2⟩, g3⟩ := hb1
        have g1 := Nat.eq_of_beq_eq_true g1
        rw [offOf_val ha _ _ f1 (by omega)] at q3
        rw [offOf_val ha _ _ f2 (by omega)] at q4
        refine tell (b' + c1) (b' + c2) (by omega) (by omega) ?_ c1 rfl g1 _ rfl ?_
        · have k1 : b' + c2 ≤ c := by omega
          have k2 : b' + c1 ≤ b' + c2 := by omega
          simp only [Option.map_some, Option.map_none, q3, q4]
          simp [Instr.sliceBounds, run_bound, k1, k2, -Int.natCast_add]
        · have k3 : b' + c2 - (b' + c1) = c2 - c1 := by omega
          have k4 : Nat.blt 0 (b' + c2 - (b' + c1)) = Nat.blt c1 c2 := by
            rw [Bool.eq_iff_iff]
            simp only [Nat.blt_eq]
            omega
          rw [k4, k3]
          split at h
          · rename_i hlt
            rw [if_pos hlt]
            exact (Option.some.inj h).symm
          · rename_i hlt
            rw [if_neg hlt]
            exact (Option.some.inj h).symm
      · cases h
    · cases h
  · rename_i l e1 e2 e3
    have hmx := nomx e3
    subst hmx
    rcases nums_of he h1 e1 with ⟨_, q2⟩ | ⟨lo0, l0, lk, rfl, q2, q3⟩
    · cases q2
    cases q2
    rcases nums_of he h2 e2 with ⟨rfl, q2⟩ | ⟨hi0, h0, hk, rfl, q2, q4⟩
    · split at h
      · rename_i c1 rr f1 f2
        split at h
        · rename_i hb1
          simp only [Bool.and_eq_true, Nat.ble_eq] at hb1
          obtain ⟨g1, g2⟩ := hb1
          have g1 := Nat.eq_of_beq_eq_true g1
          have hlv := offOf_val ha _ _ f1 (by omega)
          rw [hlv] at q3
          have hsub := mkE_val hF .sub .i64 len l
          rw [f2] at hsub
          have hsub : (rr : Int) = IntKind.i64.wrap (len.val ν - l.val ν) := hsub
          rw [hn, hlv] at hsub
          have hrn : b' + c1 + rr = n := by
            simp only [IntKind.wrap, IntKind.bits, IntKind.signed] at hsub
            simp at hsub
            omega
          refine tell (b' + c1) n (by omega) hl ?_ c1 rfl g1 _ rfl ?_
          · have k2 : b' + c1 ≤ n := by omega
            simp only [Option.map_some, Option.map_none, q3]
            simp [Instr.sliceBounds, run_bound, k2, -Int.natCast_add]
          · have k3 : n - (b' + c1) = rr := by omega
            rw [k3]
            split at h
            · rename_i hlt
              rw [if_pos hlt]
              exact (Option.some.inj h).symm
            · rename_i hlt
              rw [if_neg hlt]
              exact (Option.some.inj h).symm
        · cases h
      · rename_i c1 f1 f2
        split at h
        case isFalse => cases h
        rename_i hb1
        simp only [Bool.and_eq_true, Nat.ble_eq] at hb1
        obtain ⟨⟨⟨g1, g2⟩, g3⟩, g4⟩ := hb1
        have g1 := Nat.eq_of_beq_eq_true g1
        have g3 := of_decide_eq_true (yesF_val hF g3)
        have g4 := of_decide_eq_true (yesF_val hF g4)
        have hlv := offOf_val ha _ _ f1 (by omega)
        rw [hlv] at q3
        have hsub : (mkE F .sub .i64 len l).val ν = IntKind.i64.wrap (len.val ν - l.val ν) := mkE_val hF .sub .i64 len l
        rw [hn, hlv] at hsub
        rw [hn, hlv] at g3
        have g4 : (n : Int) < 1099511627776 := by rw [hn] at g4; exact g4
        have hsub : (mkE F .sub .i64 len l).val ν = ((n - (b' + c1) : Nat) : Int) := by
          rw [hsub]
          simp only [IntKind.wrap, IntKind.bits, IntKind.signed]
          simp
          omega
        simp only [Option.some.injEq] at h
        subst h
        have k2 : b' + c1 ≤ n := by omega
        refine ⟨_, frame _ _ _ (b' + c1, n, c) ?_, ?_⟩
        · simp only [Option.map_some, Option.map_none, q3]
          simp [Instr.sliceBounds, run_bound, k2, -Int.natCast_add]
        · have hne : ¬ c = b' + c1 := by omega
          simp only [if_neg hne, Option.map_some, Addr.add_off]
          have e1 : o' + (b' + c1) * size = pl.co + c1 * size := by rw [hoo, g1, Nat.add_mul, Nat.add_assoc]
          rw [e1]
          exact .sl b (c1 * size) _ .any pl _ _ hpl hsub trivial (by omega)
      · cases h
    · cases q2
  · cases h

theorem sim_pre (hF : F.Hold ν) (he : ER ν ρ e a.tmps) {t t' : TypeId} {x : Operand} {xa : AV} {size : Nat} {lo hi mx : Option Operand} {lo' hi' mx' : Option O}
    (ho : o.op = .slice t x lo hi mx) (ht : P.underlying t = some (.slice t')) (hs : cSize P t' = some size) (hx : VR ν ρ xa (a.eval x)) (h1 : cOpt lo = some lo') (h2 : cOpt hi = some hi') (h3 : cOpt mx = some mx')
    (h : prefixA F xa (lo'.map (O.ev e)) (hi'.map (O.ev e)) (mx'.map (O.ev e)) = some r) : Val ν ρ P w a o r := by
  refine Val.of (s := Instr.sliceAt t (a.eval x) (lo.map a.eval) (hi.map a.eval) (mx.map a.eval)) (by simp only [execOp, ho]) ?_
  have hz : ∀ w, (sizeOf t').run P w = .ok size w := fun w => cSize_spec hs
  have frame : ∀ (base : Option Addr) (len cap : Nat) (q : Nat × Nat × Nat), (Instr.sliceBounds true len cap (lo.map a.eval) (hi.map a.eval) (mx.map a.eval)).run P w = .ok q w →
      (Instr.sliceAt t (.slice base len cap) (lo.map a.eval) (hi.map a.eval) (mx.map a.eval)).run P w = .ok (.slice (if q.2.2 = q.1 then base else base.map (·.add (q.1 * size))) (q.2.1 - q.1) (q.2.2 - q.1)) w := by
    intro base len cap q hq
    simp [Instr.sliceAt, Instr.slice, run_underlying ht, hq, hz]
  unfold prefixA at h
  split at h
  case h_2 => cases h
  rename_i hh mm e1 e2 e3
  split at h
  case isFalse => cases h
  rename_i hmm
  rcases nums_of he h1 e1 with ⟨rfl, _⟩ | ⟨lo0, l0, lk, rfl, q2, q3⟩
  case inr => cases q2
  rcases nums_of he h2 e2 with ⟨_, q2⟩ | ⟨hi0, h0, hk, rfl, q2, q4⟩
  case inl => cases q2
  cases q2
  have tell : ∀ (cb off n c : Nat), hh.val ν ≥ 0 → hh.val ν ≤ (n : Int) → n ≤ c → ∃ u c' : Nat, hh.val ν = (u : Int) ∧ u ≤ n ∧ u ≤ c' ∧ (Instr.sliceAt t (.slice (some ⟨cb, off, none⟩) n c) ((none : Option Operand).map a.eval) ((some hi0).map a.eval) (mx.map a.eval)).run P w = .ok (.slice (some ⟨cb, off, none⟩) u c') w := by
    intro cb off n c g1 g2 g3
    obtain ⟨u, hu⟩ := Int.eq_ofNat_of_zero_le g1
    have hu : hh.val ν = (u : Int) := hu
    have hun : u ≤ n := by omega
    rw [hu] at q4
    have k1 : u ≤ c := by omega
    rcases nums_of he h3 e3 with ⟨rfl, rfl⟩ | ⟨mx0, m0, mk, rfl, rfl, q6⟩
    · refine ⟨u, c, hu, hun, k1, ?_⟩
      have hb : (Instr.sliceBounds true n c ((none : Option Operand).map a.eval) ((some hi0).map a.eval) ((none : Option Operand).map a.eval)).run P w = .ok (0, u, c) w := by
        simp only [Option.map_some, Option.map_none, q4]
        simp [Instr.sliceBounds, run_bound, k1, -Int.natCast_add]
      rw [frame _ _ _ _ hb]
      simp only [Nat.zero_mul, Nat.sub_zero, Option.map_some, Addr.add_off, Nat.add_zero, ite_self]
    · have hm0 := AI.beq_eq _ _ hmm
      subst hm0
      rw [hu] at q6
      refine ⟨u, u, hu, hun, Nat.le_refl _, ?_⟩
      have hb : (Instr.sliceBounds true n c ((none : Option Operand).map a.eval) ((some hi0).map a.eval) ((some mx0).map a.eval)).run P w = .ok (0, u, u) w := by
        simp only [Option.map_some, Option.map_none, q4, q6]
        simp [Instr.sliceBounds, run_bound, k1, -Int.natCast_add]
      rw [frame _ _ _ _ hb]
      simp only [Nat.zero_mul, Nat.sub_zero, Option.map_some, Addr.add_off, Nat.add_zero, ite_self]
  split at h
  · rename_i blk off len cap
    split at h
    case isFalse => cases h
    rename_i hc
    simp only [Bool.and_eq_true] at hc
    have f1 : hh.val ν ≥ 0 := of_decide_eq_true (yesF_val hF hc.1)
    have f2 : hh.val ν ≤ len.val ν := of_decide_eq_true (yesF_val hF hc.2)
    cases h
    generalize a.eval x = xv at hx
    cases hx
    rename_i pl n c hl hpl hn hcap
    rw [hn] at f2
    obtain ⟨u, c', hu, hun, huc, hr⟩ := tell pl.cb (pl.co + off) n c f1 f2 hl
    exact ⟨_, hr, .sl blk off _ .any pl u c' hpl hu trivial huc⟩
  · rename_i b z k wd len cap
    split at h
    case isFalse => cases h
    rename_i hc
    simp only [Bool.and_eq_true] at hc
    have f0 : wd = 0 := Nat.eq_of_beq_eq_true hc.1.1
    have f1 : k.val ν ≤ hh.val ν := of_decide_eq_true (yesF_val hF hc.1.2)
    have f2 : hh.val ν ≤ len.val ν := of_decide_eq_true (yesF_val hF hc.2)
    cases h
    generalize a.eval x = xv at hx
    cases hx
    rename_i pl o' b' n c hl hb hpl hoo ha hw hn hcap
    rw [hn] at f2
    rw [ha] at f1
    obtain ⟨u, c', hu, hun, huc, hr⟩ := tell pl.cb o' n c (by omega) f2 hl
    exact ⟨_, hr, .slw b z k 0 _ .any pl o' b' u c' hpl ha hoo (by omega) hu trivial huc (by omega)⟩
  · cases h

theorem sim_suf (hF : F.Hold ν) (he : ER ν ρ e a.tmps) {t t' : TypeId} {x : Operand} {xa : AV} {size : Nat} {lo hi mx : Option Operand} {lo' hi' mx' : Option O}
    (ho : o.op = .slice t x lo hi mx) (ht : P.underlying t = some (.slice t')) (hs : cSize P t' = some size) (hx : VR ν ρ xa (a.eval x)) (h1 : cOpt lo = some lo') (h2 : cOpt hi = some hi') (h3 : cOpt mx = some mx')
    (h : suffixA F size xa (lo'.map (O.ev e)) (hi'.map (O.ev e)) (mx'.map (O.ev e)) = some r) : Val ν ρ P w a o r := by
  refine Val.of (s := Instr.sliceAt t (a.eval x) (lo.map a.eval) (hi.map a.eval) (mx.map a.eval)) (by simp only [execOp, ho]) ?_
  have hz : ∀ w, (sizeOf t').run P w = .ok size w := fun w => cSize_spec hs
  unfold suffixA at h
  split at h
  case h_2 => cases h
  rename_i l e1 e2 e3
  rcases nums_of he h1 e1 with ⟨_, q2⟩ | ⟨lo0, l0, lk, rfl, q2, q3⟩
  case inl => cases q2
  cases q2
  rcases nums_of he h2 e2 with ⟨rfl, _⟩ | ⟨hi0, h0, hk, rfl, q2, q4⟩
  case inr => cases q2
  rcases nums_of he h3 e3 with ⟨rfl, _⟩ | ⟨mx0, m0, mk, rfl, q2, q6⟩
  case inr => cases q2
  split at h
  case h_2 => cases h
  rename_i blk off len cap
  have frame : ∀ (base : Option Addr) (len cap : Nat) (q : Nat × Nat × Nat), (Instr.sliceBounds true len cap ((some lo0).map a.eval) ((none : Option Operand).map a.eval) ((none : Option Operand).map a.eval)).run P w = .ok q w →
      (Instr.sliceAt t (.slice base len cap) ((some lo0).map a.eval) ((none : Option Operand).map a.eval) ((none : Option Operand).map a.eval)).run P w = .ok (.slice (if q.2.2 = q.1 then base else base.map (·.add (q.1 * size))) (q.2.1 - q.1) (q.2.2 - q.1)) w := by
    intro base len cap q hq
    simp only [Option.map_some, Option.map_none] at hq
    simp [Instr.sliceAt, Instr.slice, run_underlying ht, hq, hz]
  have q3 : a.eval lo0 = .int lk ((l : Nat) : Int) := q3
  have bnd : ∀ n c : Nat, l ≤ n → n ≤ c → (Instr.sliceBounds true n c ((some lo0).map a.eval) ((none : Option Operand).map a.eval) ((none : Option Operand).map a.eval)).run P w = .ok (l, n, c) w := by
    intro n c k1 hl
    simp only [Option.map_some, Option.map_none, q3]
    simp [Instr.sliceBounds, run_bound, k1, -Int.natCast_add]
  split at h
  · rename_i hc
    simp only [Bool.and_eq_true] at hc
    have f1 : ((l : Nat) : Int) < len.val ν := of_decide_eq_true (yesF_val hF hc.1)
    have f2 : len.val ν < 1099511627776 := of_decide_eq_true (yesF_val hF hc.2)
    cases h
    generalize a.eval x = xv at hx
    cases hx
    rename_i pl n c hl hpl hn hcap
    rw [hn] at f1 f2
    have k1 : l ≤ n := by omega
    have hne : ¬ c = l := by omega
    refine ⟨_, frame _ _ _ _ (bnd n c k1 hl), ?_⟩
    simp only [if_neg hne, Option.map_some, Addr.add_off]
    rw [Nat.add_assoc]
    refine .sl blk (off + l * size) _ .any pl _ _ hpl ?_ trivial (by omega)
    rw [mkE_val hF]
    show IntKind.i64.wrap (len.val ν - ((l : Nat) : Int)) = _
    rw [hn]
    simp only [IntKind.wrap, IntKind.bits, IntKind.signed]
    simp
    omega
  · split at h
    case isFalse => cases h
    rename_i hc
    have f1 : (((l : Nat) : Int) == len.val ν) = true := yesF_val hF hc
    have f1 : ((l : Nat) : Int) = len.val ν := eq_of_beq f1
    cases h
    generalize a.eval x = xv at hx
    cases hx
    rename_i pl n c hl hpl hn hcap
    rw [hn] at f1
    have k1 : l = n := by omega
    subst k1
    refine ⟨_, frame _ _ _ _ (bnd l c (Nat.le_refl _) hl), ?_⟩
    simp only [Nat.sub_self]
    split
    · exact .sle false _ _ (fun x => by cases x)
    · exact .sle false _ _ (fun x => by cases x)

theorem sim_slc (hF : F.Hold ν) (he : ER ν ρ e a.tmps) {t t' : TypeId} {x : Operand} {x' : O} {size : Nat} {lo hi mx : Option Operand} {lo' hi' mx' : Option O}
    (ho : o.op = .slice t x lo hi mx) (ht : P.underlying t = some (.slice t')) (hs : cSize P t' = some size) (hx : cO x = some x') (h1 : cOpt lo = some lo') (h2 : cOpt hi = some hi') (h3 : cOpt mx = some mx')
    (h : pureA F e (.slc size x' lo' hi' mx') = some r) : Val ν ρ P w a o r := by
  simp only [pureA] at h
  cases hsl : slcA F e size x' lo' hi' mx' with
  | none =>
    rw [hsl] at h
    cases hpre : prefixA F (x'.ev e) (lo'.map (O.ev e)) (hi'.map (O.ev e)) (mx'.map (O.ev e)) with
    | some q =>
      rw [hpre] at h
      cases h
      exact sim_pre hF he ho ht hs (cO_sim he hx) h1 h2 h3 hpre
    | none =>
      rw [hpre] at h
      exact sim_suf hF he ho ht hs (cO_sim he hx) h1 h2 h3 h
  | some r0 =>
  rw [hsl] at h
  replace h : slcA F e size x' lo' hi' mx' = some r := by rw [hsl]; exact h
  clear hsl
  unfold slcA at h
  split at h
  · rename_i b z k wd len cap hxe
    have hv := cO_sim he hx
    rw [hxe] at hv
    exact sim_slcW hF he ho ht hs hv h1 h2 h3 h
  refine Val.of (s := Instr.sliceAt t (a.eval x) (lo.map a.eval) (hi.map a.eval) (mx.map a.eval)) (by simp only [execOp, ho]) ?_
  split at h
  · rename_i l hh m e1 e2 e3
    have hv := cO_sim he hx
    have hz : ∀ w, (sizeOf t').run P w = .ok size w := fun w => cSize_spec hs
    generalize x'.ev e = xa at h hv
    generalize a.eval x = xv at hv
    have frame : ∀ (base : Option Addr) (len cap : Nat) (q : Nat × Nat × Nat), (Instr.sliceBounds true len cap (lo.map a.eval) (hi.map a.eval) (mx.map a.eval)).run P w = .ok q w →
        (Instr.sliceAt t (.slice base len cap) (lo.map a.eval) (hi.map a.eval) (mx.map a.eval)).run P w = .ok (.slice (if q.2.2 = q.1 then base else base.map (·.add (q.1 * size))) (q.2.1 - q.1) (q.2.2 - q.1)) w := by
      intro base len cap q hq
      simp [Instr.sliceAt, Instr.slice, run_underlying ht, hq, hz]
    unfold sliceA at h
    split at h
    · -- nil
      cases hv
      split at h
      · rename_i q hq
        simp only [Option.some.injEq] at h
        subst h
        obtain ⟨mm, b1, b2, b3, b4, b5, b6, b7⟩ := sim_bounds (P := P) (w := w) (isSlice := true) (cap := 0) he h1 h2 h3 e1 e2 e3 (Nat.le_refl 0) (fun x hx => by simpa using hx.symm) hq
        have g1 : mm = 0 := by omega
        have g2 : q.1 = 0 := by omega
        have g3 : q.2.1 = 0 := by omega
        refine ⟨_, frame _ _ _ _ b1, ?_⟩
        simp only [g1, g2, g3]
        exact .nsl
      · cases h
    · -- empty
      rename_i z
      cases hv
      rename_i ad c hzc
      split at h
      · rename_i q1 q2 q3 hq
        simp only [Option.some.injEq] at h
        subst h
        obtain ⟨mm, b1, b2, b3, b4, b5, b6, b7⟩ := sim_bounds (P := P) (w := w) (isSlice := true) (cap := c) he h1 h2 h3 e1 e2 e3 (Nat.zero_le c) (fun x hx => by
          cases z with
          | true => simp at hx; rw [hzc rfl, hx]
          | false => simp at hx) hq
        refine ⟨_, frame _ _ _ _ b1, ?_⟩
        have g2 : q1 = 0 := by simp at b3 b4; omega
        have g3 : q2 = 0 := by simp at b3 b4; omega
        subst g2; subst g3
        have g1 : q3 = mm := b2 _ rfl
        have g4 : mm = 0 := by
          unfold bounds at hq
          split at hq
          · split at hq
            · split at hq
              · rename_i hc
                simp only [Bool.and_eq_true, Nat.ble_eq] at hc
                simp only [Option.some.injEq, Prod.mk.injEq] at hq
                omega
              · cases hq
            · cases hq
          · split at hq
            · simp only [Option.some.injEq, Prod.mk.injEq] at hq
              cases z with
              | true => simp at hq; omega
              | false => simp at hq
            · cases hq
        simp only [g4, Nat.zero_mul, if_true, Nat.sub_zero]
        exact .sle true _ _ (fun _ => rfl)
      · rename_i q1 q2 hq
        simp only [Option.some.injEq] at h
        subst h
        obtain ⟨mm, b1, b2, b3, b4, b5, b6, b7⟩ := sim_bounds (P := P) (w := w) (isSlice := true) (cap := c) he h1 h2 h3 e1 e2 e3 (Nat.zero_le c) (fun x hx => by
          cases z with
          | true => simp at hx; rw [hzc rfl, hx]
          | false => simp at hx) hq
        refine ⟨_, frame _ _ _ _ b1, ?_⟩
        have g2 : q1 = 0 := by simp at b3 b4; omega
        have g3 : q2 = 0 := by simp at b3 b4; omega
        subst g2; subst g3
        simp only [Nat.sub_zero]
        split
        · exact .sle false _ _ (fun x => by cases x)
        · exact .sle false _ _ (fun x => by cases x)
      · cases h
    · -- known
      rename_i blk off len c
      cases hv
      rename_i pl n cc hle hpl hnn hcap
      have hcc : c = cc := hcap
      have hln : len = n := by simp only [AI.val] at hnn; exact Int.ofNat.inj hnn
      subst hcc; subst hln
      split at h
      · rename_i q1 q2 q3 hq
        simp only [Option.some.injEq] at h
        subst h
        obtain ⟨mm, b1, b2, b3, b4, b5, b6, b7⟩ := sim_bounds (P := P) (w := w) (isSlice := true) (cap := c) he h1 h2 h3 e1 e2 e3 (Nat.le_refl c) (fun x hx => by simpa using hx.symm) hq
        have g1 : q3 = mm := b2 _ rfl
        subst g1
        refine ⟨_, frame _ _ _ _ b1, ?_⟩
        simp only [Option.map_some, Addr.add_off, Nat.add_assoc]
        simp only at b3 b4 b5 b6
        by_cases e9 : q3 = q1
        · subst e9
          simp only [Nat.beq_refl, if_true]
          exact .sl blk off _ _ pl _ _ hpl rfl rfl (by omega)
        · have : Nat.beq q3 q1 = false := by rw [Bool.eq_false_iff]; simpa using e9
          simp only [this, if_neg e9, Bool.false_eq_true, if_false]
          exact .sl blk (off + q1 * size) _ _ pl _ _ hpl rfl rfl (by omega)
      · cases h
    · -- not known
      rename_i blk off len cap hnex
      cases hv
      rename_i pl n cc hle hpl hnn hcap
      have hln : len = n := by simp only [AI.val] at hnn; exact Int.ofNat.inj hnn
      subst hln
      split at h
      · rename_i q1 q2 q3 hq
        simp only [Option.some.injEq] at h
        subst h
        obtain ⟨mm, b1, b2, b3, b4, b5, b6, b7⟩ := sim_bounds (P := P) (w := w) (isSlice := true) (cap := cc) he h1 h2 h3 e1 e2 e3 hle (fun x hx => by cases hx) hq
        have g1 : q3 = mm := b2 _ rfl
        subst g1
        refine ⟨_, frame _ _ _ _ b1, ?_⟩
        simp only [Option.map_some, Addr.add_off, Nat.add_assoc]
        simp only at b3 b4 b5 b6
        by_cases e9 : q3 = q1
        · subst e9
          simp only [Nat.beq_refl, if_true]
          exact .sl blk off _ _ pl _ _ hpl rfl rfl (by omega)
        · have : Nat.beq q3 q1 = false := by rw [Bool.eq_false_iff]; simpa using e9
          simp only [this, if_neg e9, Bool.false_eq_true, if_false]
          exact .sl blk (off + q1 * size) _ _ pl _ _ hpl rfl rfl (by omega)
      · rename_i q1 q2 hq
        obtain ⟨mm, b1, b2, b3, b4, b5, b6, b7⟩ := sim_bounds (P := P) (w := w) (isSlice := true) (cap := cc) he h1 h2 h3 e1 e2 e3 hle (fun x hx => by cases hx) hq
        have g1 : mm = cc := b7 rfl
        subst g1
        simp only at b3 b4 b5 b6
        refine ⟨_, frame _ _ _ _ b1, ?_⟩
        simp only [Option.map_some, Addr.add_off, Nat.add_assoc]
        split at h
        · rename_i hlt
          simp only [Nat.blt_eq] at hlt
          have e9 : ¬ mm = q1 := by omega
          simp only [if_neg e9]
          split at h
          · rename_i z
            split at h
            · rename_i hz
              have hz := Nat.eq_of_beq_eq_true hz
              subst hz
              simp only [Option.some.injEq] at h
              subst h
              refine .sl blk (off + q1 * z) _ _ pl _ _ hpl rfl ?_ (by omega)
              simp only [CapOk] at hcap ⊢
              have : mm * z = q1 * z + (mm - q1) * z := by rw [← Nat.add_mul]; congr 1; omega
              omega
            · cases h
          · simp only [Option.some.injEq] at h
            subst h
            exact .sl blk (off + q1 * size) _ _ pl _ _ hpl rfl trivial (by omega)
        · rename_i hlt
          simp only [Option.some.injEq] at h
          subst h
          have hlt' : ¬ q1 < len := by simpa [Nat.blt_eq] using hlt
          have g5 : q2 - q1 = 0 := by omega
          simp only [g5]
          split <;> exact .sle false _ _ (fun x => by cases x)
      · cases h
    · cases h
  · cases h

end
end Go.Sh

namespace Go.Sh

section
variable {ν : Nat → Int} {ρ : Emb} {F : Facts} {P : Program} {w : World}

theorem oneCell {x : AV} {v : Value} (h : x.one = true) (hv : VR ν ρ x v) : v.oneCell' = true ∧ v.cells = #[v] := by
  cases hv <;> first
    | (simp [AV.one] at h; done)
    | exact ⟨rfl, rfl⟩

theorem cells_sim {x : AV} {cs : List AV} {v : Value} (h : x.cells = some cs) (hv : VR ν ρ x v) : LR ν ρ cs v.cells ∧ ∀ c ∈ cs, c.one = true := by
  cases hx : x.one with
  | true =>
    have h1 := (oneCell hx hv).2
    have h2 : cs = [x] := by
      unfold AV.cells at h
      cases x <;> first | (simp [AV.one] at hx; done) | exact (Option.some.inj h).symm
    subst h2
    rw [h1]
    refine ⟨⟨rfl, fun j y z hy hz => ?_⟩, fun c hc => by simp at hc; subst hc; exact hx⟩
    cases j with
    | zero => simp at hy hz; subst hy; subst hz; exact hv
    | succ j => simp at hy
  | false =>
    cases hv <;> first
      | (simp [AV.one] at hx; done)
      | (simp [AV.cells] at h; done)
      | (rename_i cs' vs hs hp
         simp only [AV.cells] at h
         split at h
         · rename_i hall
           simp only [Option.some.injEq] at h
           subst h
           exact ⟨⟨hs, hp⟩, fun c hc => List.all_eq_true.1 hall c hc⟩
         · cases h)
      | cases h

theorem LR.one {cs : List AV} {vs : Array Value} (h : LR ν ρ cs vs) (h1 : ∀ c ∈ cs, c.one = true) : ∀ v ∈ vs.toList, v.oneCell' = true := by
  intro v hv
  obtain ⟨j, hj, rfl⟩ := List.getElem_of_mem hv
  have hj' : j < cs.length := by rw [h.1]; simpa using hj
  exact (oneCell (h1 _ (List.getElem_mem hj')) (h.2 j cs[j] _ (List.getElem?_eq_getElem hj') (by simp at hj ⊢))).1

theorem fold_set (l : List Value) : ∀ (k off : Nat) (vs : Array Value) (i : Nat), off + k + l.length ≤ vs.size →
    ((l.zipIdx k).foldl (fun cs (p : Value × Nat) => cs.setIfInBounds (off + p.2) p.1) vs)[i]? = if off + k ≤ i ∧ i < off + k + l.length then l[i - (off + k)]? else vs[i]? := by
  induction l with
  | nil => intro k off vs i _; simp; intro h1 h2; omega
  | cons a r ih =>
    intro k off vs i h
    simp only [List.zipIdx_cons, List.foldl_cons]
    rw [ih (k + 1) off _ i (by simp at h ⊢; omega)]
    simp only [List.length_cons] at h ⊢
    by_cases h1 : off + (k + 1) ≤ i ∧ i < off + (k + 1) + r.length
    · rw [if_pos h1, if_pos (by omega)]
      have : i - (off + k) = (i - (off + (k + 1))) + 1 := by omega
      rw [this, List.getElem?_cons_succ]
    · rw [if_neg h1]
      by_cases h2 : i = off + k
      · subst h2
        rw [if_pos (by omega)]
        have hlt : off + k < vs.size := by omega
        simp [hlt]
      · rw [if_neg (by omega)]
        rw [Array.getElem?_setIfInBounds_ne (by omega)]

theorem splice_get (l : List AV) (off : Nat) (ns : List AV) (i : Nat) (h : off + ns.length ≤ l.length) : (splice l off ns)[i]? = if off ≤ i ∧ i < off + ns.length then ns[i - off]? else l[i]? := by
  unfold splice
  by_cases h1 : i < off
  · rw [if_neg (by omega), List.append_assoc, List.getElem?_append_left (by simp; omega), List.getElem?_take, if_pos h1]
  · rw [List.append_assoc, List.getElem?_append_right (by simp; omega)]
    simp only [List.length_take]
    have e : min off l.length = off := by omega
    rw [e]
    by_cases h2 : i < off + ns.length
    · rw [if_pos (by omega), List.getElem?_append_left (by omega)]
    · rw [if_neg (by omega), List.getElem?_append_right (by omega), List.getElem?_drop]
      congr 1
      omega

theorem splice_length (l : List AV) (off : Nat) (ns : List AV) (h : off + ns.length ≤ l.length) : (splice l off ns).length = l.length := by
  unfold splice
  simp
  omega

theorem LR.splice {cs ns : List AV} {vs nv : Array Value} {off : Nat} (h : LR ν ρ cs vs) (hn : LR ν ρ ns nv) (hf : off + ns.length ≤ cs.length) :
    LR ν ρ (splice cs off ns) (nv.zipIdx.foldl (fun cs (p : Value × Nat) => cs.setIfInBounds (off + p.2) p.1) vs) := by
  have hsz : ∀ (l : List (Value × Nat)) (vs : Array Value), (l.foldl (fun cs (p : Value × Nat) => cs.setIfInBounds (off + p.2) p.1) vs).size = vs.size := by
    intro l
    induction l with
    | nil => intro vs; rfl
    | cons a r ih => intro vs; simp only [List.foldl_cons]; rw [ih]; simp
  rw [← Array.foldl_toList, Array.toList_zipIdx]
  refine ⟨by rw [splice_length _ _ _ hf, hsz, h.1], fun j x v hx hv => ?_⟩
  rw [splice_get _ _ _ _ hf] at hx
  rw [fold_set _ 0 off vs j (by simp; have := h.1; have := hn.1; omega)] at hv
  have hl : nv.toList.length = ns.length := by simpa using hn.1.symm
  simp only [Nat.add_zero, hl] at hv
  split at hx
  · rename_i hc
    rw [if_pos hc] at hv
    exact hn.2 _ x v hx (by simpa using hv)
  · rename_i hc
    rw [if_neg hc] at hv
    exact h.2 j x v hx hv

theorem fill_sim {e : Tr AV} {a : Act} (he : ER ν ρ e a.tmps) {places : Nat → Option (Nat × Nat)} : ∀ (ps : List (Nat × Operand)) (l : List (Nat × Nat × O)) (cs : List AV) (vs : Array Value) (r : List AV),
    cParts places ps = some l → LR ν ρ cs vs → fillA e cs l = some r → ∃ rv, Instr.fill places vs (ps.map fun p => (p.1, a.eval p.2)) = some rv ∧ LR ν ρ r rv := by
  intro ps
  induction ps with
  | nil =>
    intro l cs vs r hc hl h
    simp [cParts] at hc
    subst hc
    simp [fillA] at h
    subst h
    exact ⟨vs, rfl, hl⟩
  | cons p ps ih =>
    intro l cs vs r hc hl h
    simp only [cParts] at hc
    split at hc
    · rename_i pl x l' h1 h2 h3
      simp only [Option.some.injEq] at hc
      subst hc
      simp only [fillA] at h
      split at h
      · rename_i ns hns
        split at h
        · rename_i hb
          simp only [Bool.and_eq_true, Nat.ble_eq] at hb
          have hb1 := Nat.eq_of_beq_eq_true hb.1
          obtain ⟨hn, _⟩ := cells_sim hns (cO_sim he h2)
          have hsp := LR.splice (off := pl.1) hl hn (by omega)
          obtain ⟨rv, g1, g2⟩ := ih l' _ _ r h3 hsp h
          refine ⟨rv, ?_, g2⟩
          simp only [List.map_cons, Instr.fill, h1]
          have hs : (a.eval p.2).cells.size = pl.2 := by rw [← hn.1]; exact hb1
          have hb2 : ¬ pl.1 + pl.2 > vs.size := by have := hl.1; omega
          simp only [hs]
          rw [if_neg (by simpa using hb2)]
          simpa using g1
        · cases h
      · cases h
    · cases hc

end

section
variable {ν : Nat → Int} {ρ : Emb} {F : Facts} {P : Program} {w : World} {o : Oper} {k : K} {e : Tr AV} {a : Act} {r : AV}

theorem sim_bld (he : ER ν ρ e a.tmps) {t : TypeId} {ps : Array (Nat × Operand)} {zv : AV} {z : List AV} {l : List (Nat × Nat × O)} {places : Nat → Option (Nat × Nat)}
    (ho : o.op = .build t ps) (hz : cZero P t = some zv) (hzc : zv.cells = some z) (hp : cParts places ps.toList = some l)
    (hb : (∃ fields pl, P.underlying t = some (.struct fields) ∧ fields.toList.mapM (fun f => (P.info? f.type).map fun i => (f.offset, i.size)) = some pl ∧ places = (fun (i : Nat) => pl[i]?)) ∨
      (∃ n t' s, P.underlying t = some (.array n t') ∧ cSize P t' = some s ∧ places = fun i => some (i * s, s)))
    (h : pureA F e (.bld z l) = some r) : Val ν ρ P w a o r := by
  refine Val.of (s := Instr.build t (ps.map fun (i, x) => (i, a.eval x))) (by simp only [execOp, ho]) ?_
  simp only [pureA, Option.map_eq_some_iff] at h
  obtain ⟨rc, hr, rfl⟩ := h
  obtain ⟨vz, h1, h2, i, hi, hiz⟩ := cZero_spec (w := w) (ν := ν) (ρ := ρ) hz
  obtain ⟨hzl, _⟩ := cells_sim hzc h2
  obtain ⟨rv, g1, g2⟩ := fill_sim he ps.toList l z vz.cells rc hp hzl hr
  refine ⟨.agg rv, ?_, .ag _ _ g2.1 g2.2⟩
  have el : (ps.map fun (i, x) => (i, a.eval x)).toList = ps.toList.map fun p => (p.1, a.eval p.2) := by simp
  rcases hb with ⟨fields, pl, hu, hm, rfl⟩ | ⟨n, t', s, hu, hs, rfl⟩
  · simp only [Instr.build, Sem.run_bind, h1, Result.andThen_ok, run_underlying hu, el]
    have hpl := run_places (P := P) w fields.toList pl hm
    simp only [Array.mapM_eq_mapM_toList, Sem.run_map, bind_pure_comp, hpl, Result.andThen_ok]
    have e1 : (fun (x : Nat) => pl.toArray[x]?) = fun (i : Nat) => pl[i]? := by funext i; simp
    rw [e1, g1]
    rfl
  · simp only [Instr.build, Sem.run_bind, h1, Result.andThen_ok, run_underlying hu, el, cSize_spec hs, g1]
    rfl

theorem sim_mv (he : ER ν ρ e a.tmps) {x : Operand} {x' : O} (ho : o.op = .move x ∨ o.op = .assign x) (hx : cO x = some x') (h : pureA F e (.mv x') = some r) : Val ν ρ P w a o r := by
  simp only [pureA, Option.some.injEq] at h
  subst h
  refine ⟨a.eval x, ?_, cO_sim he hx⟩
  rcases ho with ho | ho <;> simp [execOp, ho]

theorem sim_pick (he : ER ν ρ e a.tmps) {c x y : Operand} {c' x' y' : O} (ho : o.op = .pick c x y) (hc : cO c = some c') (hx : cO x = some x') (hy : cO y = some y') (h : pureA F e (.pick c' x' y') = some r) : Val ν ρ P w a o r := by
  simp only [pureA] at h
  split at h
  · rename_i t ht
    have hv := cO_sim he hc
    rw [ht] at hv
    generalize hcv : a.eval c = cv at hv
    cases hv
    simp only [Option.some.injEq] at h
    subst h
    refine ⟨if t then a.eval x else a.eval y, by simp [execOp, ho, hcv, asBool], ?_⟩
    cases t
    · exact cO_sim he hy
    · exact cO_sim he hx
  · cases h

theorem sim_s2a (he : ER ν ρ e a.tmps) {t t' : TypeId} {n : Nat} {x : Operand} {x' : O} (ho : o.op = .sliceToArrayPointer t x) (hu : P.underlying t = some (.array n t')) (hx : cO x = some x') (h : pureA F e (.s2a n x') = some r) : Val ν ρ P w a o r := by
  have hv := cO_sim he hx
  refine Val.of (s := Instr.arrayAt t (a.eval x)) (by simp only [execOp, ho]) ?_
  simp only [pureA] at h
  generalize hxa : x'.ev e = xa at h hv
  generalize hxv : a.eval x = xv at hv
  split at h
  case h_2 => cases h
  split at h
  case isFalse => cases h
  rename_i b o' m cap hle
  simp only [Option.some.injEq] at h
  subst h
  cases hv
  rename_i pl n' c hl hb hpl hn
  have hm : ¬ n' < n := by
    have h1 : ((m : Nat) : Int) = (n' : Int) := by first | exact hpl | exact hn | exact hb
    have h2 := Nat.le_of_ble_eq_true hle
    omega
  exact ⟨_, by simp [Instr.arrayAt, run_underlying hu, hm], .p b o' pl (by assumption)⟩

theorem sim_nck (he : ER ν ρ e a.tmps) {x : Operand} {x' : O} (ho : o.op = .nilCheck x) (hx : cO x = some x') (h : pureA F e (.nck x') = some r) : Val ν ρ P w a o r := by
  have hv := cO_sim he hx
  simp only [pureA] at h
  generalize hxa : x'.ev e = xa at h hv
  generalize hxv : a.eval x = xv at hv
  split at h <;> first
    | (simp only [Option.some.injEq] at h; subst h
       refine ⟨xv, ?_, hv⟩
       cases hv
       simp [execOp, ho, hxv]; done)
    | cases h

theorem sim_eqb (he : ER ν ρ e a.tmps) {x y : Operand} {x' y' : O} {t t2 : TypeId} {neg : Bool} (ho : o.op = .binOp (if neg then .neq else .eql) t x y t2) (ht : P.underlying t = some .bool)
    (hx : cO x = some x') (hy : cO y = some y') (h : pureA F e (.eqb neg x' y') = some r) : Val ν ρ P w a o r := by
  have hv := cO_sim he hx
  have hu := cO_sim he hy
  simp only [pureA] at h
  split at h
  · rename_i p q e1 e2
    rw [e1] at hv
    rw [e2] at hu
    generalize hxv : a.eval x = xv at hv
    generalize hyv : a.eval y = yv at hu
    cases hv
    cases hu
    simp only [Option.some.injEq] at h
    subst h
    refine ⟨.bool ((p == q) != neg), ?_, .b _⟩
    have hg : ∀ op, (eqGuard op t x y (.bool p) (.bool q)).run P w = .ok () w := by
      intro op
      unfold eqGuard
      cases op <;> rfl
    cases neg
    · simp only [execOp, ho, hxv, hyv, Sem.run_bind, Bool.false_eq_true, if_false, hg, Result.andThen_ok, run_eql_bool w t p q ht]
      simp
    · simp only [execOp, ho, hxv, hyv, Sem.run_bind, if_true, hg, Result.andThen_ok, run_neq_bool w t p q ht]
      simp
  · cases h

theorem sim_una (hF : F.Hold ν) (he : ER ν ρ e a.tmps) {op : UnOp} {x : Operand} {x' : O} {t : TypeId} (ho : o.op = .unOp op t x) (hx : cO x = some x') (h : pureA F e (.una op x') = some r) : Val ν ρ P w a o r := by
  have hv := cO_sim he hx
  simp only [pureA] at h
  split at h
  · rename_i t e1
    rw [e1] at hv
    generalize hxv : a.eval x = xv at hv
    cases hv
    simp only [Option.some.injEq] at h
    subst h
    exact ⟨.bool !t, by simp [execOp, ho, hxv, Op.unary], .b _⟩
  · rename_i k n e1
    rw [e1] at hv
    generalize hxv : a.eval x = xv at hv
    cases hv
    simp only [Option.some.injEq] at h
    subst h
    refine ⟨_, ?_, .i _ _⟩
    rw [mkE_val hF]
    simp [execOp, ho, hxv, Op.unary, Op.intArith, arith, AI.val]
  · rename_i k n e1
    rw [e1] at hv
    generalize hxv : a.eval x = xv at hv
    cases hv
    simp only [Option.some.injEq] at h
    subst h
    refine ⟨_, ?_, .i _ _⟩
    rw [mkE_val hF]
    simp [execOp, ho, hxv, Op.unary, Op.intBits, arith, AI.val]
  · cases h

theorem sim_cv (hF : F.Hold ν) (he : ER ν ρ e a.tmps) {x : Operand} {x' : O} {s t : TypeId} {k k0 : IntKind} (ho : o.op = .convert s t x) (hs : P.underlying s = some (.int k0)) (ht : P.underlying t = some (.int k)) (hx : cO x = some x')
    (h : pureA F e (.cv k x') = some r) : Val ν ρ P w a o r := by
  have hv := cO_sim he hx
  simp only [pureA] at h
  split at h
  · rename_i k' n e1
    rw [e1] at hv
    generalize hxv : a.eval x = xv at hv
    cases hv
    simp only [Option.some.injEq] at h
    subst h
    refine ⟨_, ?_, .i _ _⟩
    rw [mkW_val hF]
    simp [execOp, ho, hxv, convert, run_underlying hs, run_underlying ht, Conv.intToInt]
  · cases h

theorem sim_ifc (he : ER ν ρ e a.tmps) {x : Operand} {x' : O} {t : TypeId} {d : TypeDesc} (ho : o.op = .makeInterface t x) (ht : P.underlying t = some d) (hd : ∀ m, d ≠ .interface m) (hx : cO x = some x')
    (h : pureA F e (.ifc t x') = some r) : Val ν ρ P w a o r := by
  simp only [pureA, Option.some.injEq] at h
  subst h
  refine ⟨.iface t (a.eval x), ?_, .ifc _ _ _ (cO_sim he hx)⟩
  simp only [execOp, ho, Instr.makeInterface, Sem.run_bind, run_underlying ht, Result.andThen_ok]
  cases d <;> first
    | rfl
    | exact (hd _ rfl).elim

theorem sim_mkf (he : ER ν ρ e a.tmps) {f : Nat} {caps : Array Operand} {l : List O} (ho : o.op = .makeFunc (.func f) #[] caps) (hc : cOs caps = some l) (h : pureA F e (.mkf f l) = some r) : Val ν ρ P w a o r := by
  simp only [pureA, Option.some.injEq] at h
  subst h
  have := cOs_sim he hc
  exact ⟨.func (.func f) #[] (caps.map a.eval), by simp [execOp, ho, Instr.makeFunc], .fn _ _ _ this.1 this.2⟩

theorem sim_fa (he : ER ν ρ e a.tmps) {x : Operand} {x' : O} {t : TypeId} {i : Nat} {fs : Array Field} {f : Field} {s : Nat} (ho : o.op = .fieldAddr t x i) (ht : P.underlying t = some (.struct fs)) (hf : fs[i]? = some f)
    (hs : cSize P f.type = some s) (hs0 : s ≠ 0) (hx : cO x = some x') (h : pureA F e (.fa f.offset x') = some r) : Val ν ρ P w a o r := by
  have hv := cO_sim he hx
  simp only [pureA] at h
  split at h
  · rename_i b off e1
    rw [e1] at hv
    generalize hxv : a.eval x = xv at hv
    cases hv
    rename_i pl hpl
    simp only [Option.some.injEq] at h
    subst h
    refine ⟨.pointer (some ⟨pl.cb, pl.co + (off + f.offset), none⟩), ?_, .p _ _ _ hpl⟩
    simp [execOp, ho, hxv, Instr.fieldAt, run_underlying ht, hf, Instr.sureAddr, fieldPlace, cSize_spec hs, hs0, Addr.add_off, Nat.add_assoc]
  · cases h

theorem sim_fl (he : ER ν ρ e a.tmps) {x : Operand} {x' : O} {t : TypeId} {i : Nat} {fs : Array Field} {f : Field} {n : Option Nat} (ho : o.op = .field t x i) (ht : P.underlying t = some (.struct fs)) (hf : fs[i]? = some f)
    (hs : cAgg P f.type = some n) (hx : cO x = some x') (h : pureA F e (.fl f.offset n x') = some r) : Val ν ρ P w a o r := by
  have hv := cO_sim he hx
  simp only [pureA] at h
  split at h
  · rename_i cs e1
    rw [e1] at hv
    generalize hxv : a.eval x = xv at hv
    cases hv
    rename_i vs hs1 hs2
    obtain ⟨v, h1, h2⟩ := part_sim (P := P) (w := w) hs ⟨hs1, hs2⟩ h
    refine ⟨v, ?_, h2⟩
    simp [execOp, ho, hxv, Instr.field, run_underlying ht, hf, asAgg, h1]
  · cases h

theorem sim_ia (hF : F.Hold ν) (he : ER ν ρ e a.tmps) {x i : Operand} {x' i' : O} {t t' : TypeId} {s : Nat} {arr : Option Nat} (ho : o.op = .indexAddr t x i)
    (ht : (arr = none ∧ P.underlying t = some (.slice t')) ∨ (∃ n, arr = some n ∧ P.underlying t = some (.array n t'))) (hs : cSize P t' = some s) (hx : cO x = some x') (hi : cO i = some i')
    (h : pureA F e (.ia s arr x' i') = some r) : Val ν ρ P w a o r := by
  have hv := cO_sim he hx
  have hiv := cO_sim he hi
  simp only [pureA] at h
  split at h
  · rename_i b z k wd len cap hxe
    rw [hxe] at hv
    unfold winA at h
    split at h
    · rename_i n hie
      rw [hie] at hiv
      split at h
      · rename_i j hj
        split at h
        · rename_i hb1
          simp only [Bool.and_eq_true, Nat.blt_eq] at hb1
          obtain ⟨g1, g2⟩ := hb1
          have g1 := Nat.eq_of_beq_eq_true g1
          simp only [Option.some.injEq] at h
          subst h
          generalize hxv : a.eval x = xv at hv
          generalize hivv : a.eval i = iv at hiv
          cases hv
          cases hiv
          rename_i kk pl o' b' n' c hl hb hpl hoo ha hw hn hc
          rw [offOf_val ha _ _ hj (by omega)] at hivv
          rcases ht with ⟨_, ht⟩ | ⟨n', hn', ht⟩
          · refine ⟨.pointer (some ⟨pl.cb, pl.co + j * s, none⟩), ?_, .p _ _ _ hpl⟩
            have k1 : b' + j < n' := by omega
            have k2 : o' + (b' + j) * s = pl.co + j * s := by rw [hoo, g1, Nat.add_mul, Nat.add_assoc]
            simp [execOp, ho, hxv, hivv, Instr.indexAt, asIntOf, run_underlying ht, k1, cSize_spec hs, Addr.add_off, k2, -Int.natCast_add]
          · cases hn'
        · cases h
      · cases h
    · cases h
  generalize x'.ev e = xa at h hv
  generalize i'.ev e = ia at h hiv
  unfold iaA at h
  split at h
  · rename_i j n b off e0
    obtain ⟨kk, hk⟩ := asNat_sim e0 hiv
    generalize hxv : a.eval x = xv at hv
    cases hv
    rename_i pl hpl
    split at h
    · rename_i hlt
      simp only [Nat.blt_eq] at hlt
      simp only [Option.some.injEq] at h
      subst h
      rcases ht with ⟨hh, _⟩ | ⟨n', hn', ht⟩
      · cases hh
      · cases hn'
        refine ⟨.pointer (some ⟨pl.cb, pl.co + (off + j * s), none⟩), ?_, .p _ _ _ hpl⟩
        have h1 : (0 : Int) ≤ (j : Int) ∧ (j : Int) < (n : Int) := by omega
        simp [execOp, ho, hxv, hk, Instr.indexAt, asIntOf, run_underlying ht, Instr.sureAddr, hlt, cSize_spec hs, Addr.add_off, Nat.add_assoc]
    · cases h
  · rename_i j b off n cap e0
    obtain ⟨kk, hk⟩ := asNat_sim e0 hiv
    generalize hxv : a.eval x = xv at hv
    cases hv
    rename_i pl nn cc hle hpl hnn hcap
    have hln : n = nn := by simp only [AI.val] at hnn; exact Int.ofNat.inj hnn
    subst hln
    split at h
    · rename_i hlt
      simp only [Nat.blt_eq] at hlt
      simp only [Option.some.injEq] at h
      subst h
      rcases ht with ⟨_, ht⟩ | ⟨n', hn', ht⟩
      · refine ⟨.pointer (some ⟨pl.cb, pl.co + (off + j * s), none⟩), ?_, .p _ _ _ hpl⟩
        simp [execOp, ho, hxv, hk, Instr.indexAt, asIntOf, run_underlying ht, hlt, cSize_spec hs, Addr.add_off, Nat.add_assoc]
      · cases hn'
    · cases h
  · rename_i j b off n cap _ e0
    obtain ⟨kk, hk⟩ := asNat_sim e0 hiv
    generalize hxv : a.eval x = xv at hv
    cases hv
    rename_i pl nn cc hle hpl hnn hcap
    unfold inside at h
    split at h
    · rename_i hc
      have hlt := cmpI_val hF _ _ _ _ hc
      rw [hnn] at hlt
      have hlt : j < nn := by
        have h9 : decide ((j : Int) < (nn : Int)) = true := hlt
        have h9 := of_decide_eq_true h9
        omega
      simp only [Option.some.injEq] at h
      subst h
      rcases ht with ⟨_, ht⟩ | ⟨n', hn', ht⟩
      · refine ⟨.pointer (some ⟨pl.cb, pl.co + (off + j * s), none⟩), ?_, .p _ _ _ hpl⟩
        simp [execOp, ho, hxv, hk, Instr.indexAt, asIntOf, run_underlying ht, hlt, cSize_spec hs, Addr.add_off, Nat.add_assoc]
      · cases hn'
    · cases h
  · cases h

theorem sim_ix (he : ER ν ρ e a.tmps) {x i : Operand} {x' i' : O} {t t' : TypeId} {s n : Nat} {m : Option Nat} (ho : o.op = .index t x i) (ht : P.underlying t = some (.array n t')) (hs : cSize P t' = some s) (hm : cAgg P t' = some m)
    (hx : cO x = some x') (hi : cO i = some i') (h : pureA F e (.ix m s n x' i') = some r) : Val ν ρ P w a o r := by
  have hv := cO_sim he hx
  have hiv := cO_sim he hi
  simp only [pureA] at h
  split at h
  · rename_i j cs e0 e1
    obtain ⟨kk, hk⟩ := asNat_sim e0 hiv
    rw [e1] at hv
    generalize hxv : a.eval x = xv at hv
    cases hv
    rename_i vs hs1 hs2
    split at h
    · rename_i hlt
      simp only [Nat.blt_eq] at hlt
      obtain ⟨v, h1, h2⟩ := part_sim (P := P) (w := w) hm ⟨hs1, hs2⟩ h
      refine ⟨v, ?_, h2⟩
      simp [execOp, ho, hxv, hk, Instr.index, asIntOf, run_underlying ht, hlt, cSize_spec hs, h1]
    · cases h
  · cases h

theorem sim_ext (he : ER ν ρ e a.tmps) {x : Operand} {x' : O} {i : Nat} (ho : o.op = .extract x i) (hx : cO x = some x') (h : pureA F e (.ext x' i) = some r) : Val ν ρ P w a o r := by
  have hv := cO_sim he hx
  simp only [pureA] at h
  split at h
  · rename_i vs e1
    rw [e1] at hv
    generalize hxv : a.eval x = xv at hv
    cases hv
    rename_i vv hs1 hs2
    have hlt : i < vv.size := by rw [← hs1]; exact (List.getElem?_eq_some_iff.1 h).1
    refine ⟨vv[i], ?_, hs2 i r _ h (by simp)⟩
    simp [execOp, ho, hxv, Instr.extract, hlt]
  · cases h

theorem sim_tas (he : ER ν ρ e a.tmps) {x : Operand} {x' : O} {t t0 : TypeId} {d : TypeDesc} {z : AV} {ok : Bool} (ho : o.op = .typeAssert x t0 t ok) (ht : P.underlying t = some d) (hd : ∀ m, d ≠ .interface m) (hz : cZero P t = some z)
    (hx : cO x = some x') (h : pureA F e (.tas t z ok x') = some r) : Val ν ρ P w a o r := by
  have hv := cO_sim he hx
  obtain ⟨vz, h1, h2, _⟩ := cZero_spec (w := w) (ν := ν) (ρ := ρ) hz
  have tup : ∀ {p q : AV} {vp vq : Value}, VR ν ρ p vp → VR ν ρ q vq → VR ν ρ (.tp [p, q]) (.tuple #[vp, vq]) := by
    intro p q vp vq hp hq
    refine .tp _ _ rfl fun j y z hy hz => ?_
    match j with
    | 0 => simp at hy hz; subst hy; subst hz; exact hp
    | 1 => simp at hy hz; subst hy; subst hz; exact hq
    | j + 2 => simp at hy
  have hu : ∀ {y : Value}, (∀ m, d ≠ .interface m) → (Instr.typeAssert y t0 t ok).run P w = match y with
      | .nilIface => if ok then .ok (.tuple #[vz, .bool false]) w else (runtimePanic (.typeAssertion (some t0) none t "") : Sem Value).run P w
      | .iface t' v => if t' = t then .ok (if ok then .tuple #[v, .bool true] else v) w else if ok then .ok (.tuple #[vz, .bool false]) w else (runtimePanic (.typeAssertion (some t0) (some t') t "") : Sem Value).run P w
      | _ => .halt (.stuck "TypeAssert: interface value expected") w := by
    intro y hd
    cases d <;> first
      | exact (hd _ rfl).elim
      | (cases y <;> cases ok <;> simp [Instr.typeAssert, run_underlying ht, h1])
  simp only [pureA] at h
  split at h
  · rename_i t' v e1
    rw [e1] at hv
    generalize hxv : a.eval x = xv at hv
    cases hv
    rename_i vv hvv
    split at h
    · rename_i hb
      have hb := Nat.eq_of_beq_eq_true hb
      subst hb
      simp only [Option.some.injEq] at h
      subst h
      refine ⟨if ok then .tuple #[vv, .bool true] else vv, ?_, ?_⟩
      · simp [execOp, ho, hxv, hu hd]
      · cases ok
        · exact hvv
        · exact tup hvv (.b true)
    · rename_i hb
      split at h
      · rename_i hok
        subst hok
        simp only [Option.some.injEq] at h
        subst h
        have hne : ¬ t' = t := fun hh => hb (by subst hh; exact Nat.beq_refl _)
        exact ⟨.tuple #[vz, .bool false], by simp [execOp, ho, hxv, hu hd, hne], tup h2 (.b false)⟩
      · cases h
  · rename_i e1
    rw [e1] at hv
    generalize hxv : a.eval x = xv at hv
    cases hv
    split at h
    · rename_i hok
      subst hok
      simp only [Option.some.injEq] at h
      subst h
      exact ⟨.tuple #[vz, .bool false], by simp [execOp, ho, hxv, hu hd], tup h2 (.b false)⟩
    · cases h
  · cases h

end
end Go.Sh

namespace Go.Sh

section
variable {ν : Nat → Int} {ρ : Emb} {F : Facts} {P : Program} {w : World} {o : Oper} {k : K} {e : Tr AV} {a : Act} {r : AV}

theorem sim_bin (hF : F.Hold ν) (he : ER ν ρ e a.tmps) {op : BinOp} {x y : Operand} {x' y' : O} {t t2 : TypeId} (ho : o.op = .binOp op t x y t2) (hx : cO x = some x') (hy : cO y = some y')
    (h : pureA F e (.bin op x' y') = some r) : Val ν ρ P w a o r := by
  refine Val.of (s := do eqGuard op t x y (a.eval x) (a.eval y); binOp op t (a.eval x) (a.eval y)) (by simp only [execOp, ho]) ?_
  exact binA_sim hF t x y (cO_sim he hx) (cO_sim he hy) h

theorem sim_sla (he : ER ν ρ e a.tmps) {t t' : TypeId} {n : Nat} {x : Operand} {x' : O} {size : Nat} {lo hi mx : Option Operand} {lo' hi' mx' : Option O}
    (ho : o.op = .slice t x lo hi mx) (ht : P.underlying t = some (.array n t')) (hs : cSize P t' = some size) (hx : cO x = some x') (h1 : cOpt lo = some lo') (h2 : cOpt hi = some hi') (h3 : cOpt mx = some mx')
    (h : pureA F e (.sla n size x' lo' hi' mx') = some r) : Val ν ρ P w a o r := by
  refine Val.of (s := Instr.sliceAt t (a.eval x) (lo.map a.eval) (hi.map a.eval) (mx.map a.eval)) (by simp only [execOp, ho]) ?_
  simp only [pureA] at h
  split at h
  · rename_i l hh m e1 e2 e3
    have hv := cO_sim he hx
    generalize x'.ev e = xa at h hv
    generalize a.eval x = xv at hv
    unfold slaA at h
    split at h
    · rename_i blk off
      cases hv
      rename_i pl hpl
      split at h
      · rename_i q1 q2 q3 hq
        simp only [Option.some.injEq] at h
        subst h
        obtain ⟨mm, b1, b2, b3, b4, b5, b6, b7⟩ := sim_bounds (P := P) (w := w) (isSlice := false) (cap := n) he h1 h2 h3 e1 e2 e3 (Nat.le_refl n) (fun x hx => by simpa using hx.symm) hq
        have g1 : q3 = mm := b2 _ rfl
        subst g1
        refine ⟨.slice (some (if q3 = q1 then ⟨pl.cb, pl.co + off, none⟩ else (⟨pl.cb, pl.co + off, none⟩ : Addr).add (q1 * size))) (q2 - q1) (q3 - q1), ?_, ?_⟩
        · simp [Instr.sliceAt, run_underlying ht, Instr.sureAddr, b1, cSize_spec hs]
        · simp only [Addr.add_off, Nat.add_assoc]
          simp only at b3 b4 b5 b6
          by_cases e9 : q3 = q1
          · subst e9
            simp only [Nat.beq_refl, if_true]
            exact .sl blk off _ _ pl _ _ hpl rfl rfl (by omega)
          · have : Nat.beq q3 q1 = false := by rw [Bool.eq_false_iff]; simpa using e9
            simp only [this, if_neg e9, Bool.false_eq_true, if_false]
            exact .sl blk (off + q1 * size) _ _ pl _ _ hpl rfl rfl (by omega)
      · cases h
    · cases h
  · cases h

set_option maxHeartbeats 1000000 in
theorem equal_nil {t : TypeId} {d : TypeDesc} {kind : Nat} {x y : AV} {vx vy : Value} {b : Bool} (hd : P.underlying t = some d) (hk : nilKind d = some kind) (hx : VR ν ρ x vx) (hy : VR ν ρ y vy) (h : nilEq kind x y = some b) :
    (Op.equal t vx vy).run P w = .ok b w := by
  suffices hall : ∀ n, (Op.equalIn (n + 1) t vx vy).run P w = .ok b w from hall 9999
  intro n
  unfold nilEq at h
  unfold nilKind at hk
  split at h
  · rename_i b' e1 e2
    simp only [Option.some.injEq] at h
    subst h
    split at hk <;> cases hk <;> cases hx <;> simp [isNil] at e1 <;> cases hy <;> simp [isNil] at e2 <;> subst e2 <;> simp [Op.equalIn, run_underlying hd]
  · rename_i e1 e2
    simp only [Option.some.injEq] at h
    subst h
    split at hk <;> cases hk <;> cases hx <;> simp [isNil] at e1 <;> cases hy <;> simp [isNil] at e2 <;> simp [Op.equalIn, run_underlying hd]
  · cases h

theorem guard_nil {x y : Operand} {t : TypeId} {op : BinOp} (hop : op = .eql ∨ op = .neq) (hc : (constO x || constO y) = true) : (eqGuard op t x y .nilIface .nilIface).run P w = .ok () w := by
  unfold eqGuard
  rcases hop with rfl | rfl <;> cases x <;> cases y <;> first
    | rfl
    | (simp [constO] at hc; done)

set_option maxHeartbeats 1000000 in
theorem sim_eqn (he : ER ν ρ e a.tmps) {x y : Operand} {x' y' : O} {t t2 : TypeId} {d : TypeDesc} {neg : Bool} {kind : Nat} (ho : o.op = .binOp (if neg then .neq else .eql) t x y t2) (ht : P.underlying t = some d) (hk : nilKind d = some kind)
    (hc : (constO x || constO y) = true) (hx : cO x = some x') (hy : cO y = some y') (h : pureA F e (.eqn neg kind x' y') = some r) : Val ν ρ P w a o r := by
  have hv := cO_sim he hx
  have hu := cO_sim he hy
  simp only [pureA, Option.map_eq_some_iff] at h
  obtain ⟨b, hb, rfl⟩ := h
  have heq := equal_nil (P := P) (w := w) ht hk hv hu hb
  generalize hxa : x'.ev e = xa at hv hb
  generalize hya : y'.ev e = ya at hu hb
  have key : ∀ op, op = .eql ∨ op = .neq → (eqGuard op t x y (a.eval x) (a.eval y)).run P w = .ok () w ∧
      (binOp op t (a.eval x) (a.eval y)).run P w = ((Op.equal t (a.eval x) (a.eval y)).run P w).andThen fun z w => .ok (.bool (if op = .eql then z else !z)) w := by
    intro op hop
    generalize hxv : a.eval x = xv at hv
    generalize hyv : a.eval y = yv at hu
    unfold nilEq at hb
    split at hb
    · rename_i b' e1 e2
      cases hv <;> simp [isNil] at e1 <;> cases hu <;> simp [isNil] at e2 <;> (rcases hop with rfl | rfl) <;> (constructor <;> first
        | (simp [binOp]; done)
        | (simp [eqGuard]; done)
        | exact guard_nil (.inl rfl) hc
        | exact guard_nil (.inr rfl) hc
        | omega)
    · rename_i e1 e2
      cases hv <;> simp [isNil] at e1 <;> cases hu <;> simp [isNil] at e2 <;> (rcases hop with rfl | rfl) <;> (constructor <;> first
        | (simp [binOp]; done)
        | (simp [eqGuard]; done)
        | omega)
    · cases hb
  refine ⟨.bool (b != neg), ?_, .b _⟩
  cases neg
  · obtain ⟨k1, k2⟩ := key .eql (.inl rfl)
    simp only [execOp, ho, Bool.false_eq_true, if_false, Sem.run_bind, k1, Result.andThen_ok, k2, heq]
    simp
  · obtain ⟨k1, k2⟩ := key .neq (.inr rfl)
    simp only [execOp, ho, if_true, Sem.run_bind, k1, Result.andThen_ok, k2, heq]
    simp

theorem sim_mm (hF : F.Hold ν) (he : ER ν ρ e a.tmps) {x y : Operand} {x' y' : O} {mst : Bool} {ts : Array TypeId} (ho : o.op = .call { callee := .builtin (if mst then .max else .min), args := #[x, y], argTypes := ts })
    (hx : cO x = some x') (hy : cO y = some y') (h : pureA F e (.mm mst x' y') = some r) : Val ν ρ P w a o r := by
  have hv := cO_sim he hx
  have hu := cO_sim he hy
  simp only [pureA] at h
  split at h
  · rename_i k n k' m e1 e2
    rw [e1] at hv
    rw [e2] at hu
    generalize hxv : a.eval x = xv at hv
    generalize hyv : a.eval y = yv at hu
    cases hv
    cases hu
    split at h
    · rename_i t ht
      have hc := cmpI_val hF _ _ _ _ ht
      simp only [Option.some.injEq] at h
      subst h
      refine ⟨.int k (if t then m.val ν else n.val ν), ?_, ?_⟩
      · rw [← hc]
        cases mst
        · simp [execOp, ho, resolve, invoke, builtin, hxv, hyv, run_min_int2, compare]
        · simp [execOp, ho, resolve, invoke, builtin, hxv, hyv, run_max_int2, compare]
      · cases t <;> exact .i _ _
    · cases h
  · cases h

theorem run_len {x : Operand} {ts : Array TypeId} (ho : o.op = .call { callee := .builtin .len, args := #[x], argTypes := ts }) :
    (execOp a.eval o).run P w = ((Builtin.len_ ts o.type #[a.eval x]).run P w).andThen fun v w => .ok (.value v) w := by
  simp [execOp, ho, resolve, invoke, builtin]

theorem sim_len (he : ER ν ρ e a.tmps) {x : Operand} {x' : O} {ts : Array TypeId} {t t' : TypeId} (ho : o.op = .call { callee := .builtin .len, args := #[x], argTypes := ts }) (h0 : ts[0]? = some t)
    (ht : P.underlying t = some (.slice t')) (hx : cO x = some x') (h : pureA F e (.len x') = some r) : Val ν ρ P w a o r := by
  have hv := cO_sim he hx
  simp only [pureA] at h
  unfold Val
  rw [run_len ho]
  split at h
  · rename_i b off n cap e1
    rw [e1] at hv
    generalize hxv : a.eval x = xv at hv
    cases hv
    rename_i pl nn cc hle hpl hnn hcap
    simp only [Option.some.injEq] at h
    subst h
    refine ⟨.int .i64 nn, by simp [Builtin.len_, h0, run_underlying ht, goInt], ?_⟩
    rw [← hnn]
    exact .i _ _
  · rename_i e1
    rw [e1] at hv
    generalize hxv : a.eval x = xv at hv
    cases hv
    simp only [Option.some.injEq] at h
    subst h
    exact ⟨.int .i64 0, by simp [Builtin.len_, h0, run_underlying ht, goInt], .i _ (.c 0)⟩
  · rename_i z e1
    rw [e1] at hv
    generalize hxv : a.eval x = xv at hv
    cases hv
    simp only [Option.some.injEq] at h
    subst h
    exact ⟨.int .i64 0, by simp [Builtin.len_, h0, run_underlying ht, goInt], .i _ (.c 0)⟩
  · rename_i b z k wd n cap e1
    rw [e1] at hv
    generalize hxv : a.eval x = xv at hv
    cases hv
    rename_i pl o' b' nn c hl hb hpl hoo ha hw hn hc
    simp only [Option.some.injEq] at h
    subst h
    refine ⟨.int .i64 nn, by simp [Builtin.len_, h0, run_underlying ht, goInt], ?_⟩
    rw [← hn]
    exact .i _ _
  · cases h

theorem sim_lens (he : ER ν ρ e a.tmps) {x : Operand} {x' : O} {ts : Array TypeId} {t : TypeId} (ho : o.op = .call { callee := .builtin .len, args := #[x], argTypes := ts }) (h0 : ts[0]? = some t)
    (ht : P.underlying t = some .string) (hx : cO x = some x') (h : pureA F e (.lens x') = some r) : Val ν ρ P w a o r := by
  have hv := cO_sim he hx
  simp only [pureA] at h
  unfold Val
  rw [run_len ho]
  split at h
  · rename_i s e1
    rw [e1] at hv
    generalize hxv : a.eval x = xv at hv
    cases hv
    simp only [Option.some.injEq] at h
    subst h
    exact ⟨.int .i64 s.size, by simp [Builtin.len_, h0, run_underlying ht, goInt], .i _ (.c s.size)⟩
  · rename_i l e1
    rw [e1] at hv
    generalize hxv : a.eval x = xv at hv
    cases hv
    simp only [Option.some.injEq] at h
    subst h
    have hl : (bytesOf ν l).size = l.length := by simp [bytesOf, ByteArray.size]
    exact ⟨.int .i64 l.length, by simp [Builtin.len_, h0, run_underlying ht, goInt, hl], .i _ (.c l.length)⟩
  · cases h

theorem sim_lenk {x : Operand} {ts : Array TypeId} {t t' : TypeId} {n : Nat} (ho : o.op = .call { callee := .builtin .len, args := #[x], argTypes := ts }) (h0 : ts[0]? = some t)
    (ht : P.underlying t = some (.array n t')) (h : pureA F e (.lenk n) = some r) : Val ν ρ P w a o r := by
  simp only [pureA, Option.some.injEq] at h
  subst h
  unfold Val
  rw [run_len ho]
  exact ⟨.int .i64 n, by simp [Builtin.len_, h0, run_underlying ht, goInt], .i _ (.c n)⟩

/-- One place, compared. -/
theorem eqI_known (hF : F.Hold ν) {x y : AI} {t : Bool} (ht : eqI F x y = some t) : (x.val ν == y.val ν) = t := by
  unfold eqI at ht
  split at ht
  · rename_i hb
    have := AI.beq_eq _ _ hb
    subst this
    simp only [Option.some.injEq] at ht
    subst ht
    simp
  · exact cmpI_val hF _ _ _ _ ht

theorem LR.at {cs : List AV} {xs : Array Value} (hx : LR ν ρ cs xs) {o : Nat} {k : IntKind} {n : AI} (h1 : cs[o]? = some (.i k n)) : xs[o]? = some (.int k (n.val ν)) := by
  have hlt : o < xs.size := by rw [← hx.1]; exact (List.getElem?_eq_some_iff.1 h1).1
  have := hx.2 o _ xs[o] h1 (by simp [hlt])
  rw [Array.getElem?_eq_getElem hlt]
  generalize xs[o] = v at this
  cases this
  rfl

theorem eqStep {p q p' q' : Bool} {m : Option Bool} {k0 : Bool}
    (h : (match m with | some true => some (p', q') | some false => some (false, true) | none => some (false, q')) = some (p, q)) (hk : ∀ t, m = some t → k0 = t) {r' : Bool} (g2 : p' = true → r' = true) (g3 : q' = true → r' = false) :
    (p = true → (k0 && r') = true) ∧ (q = true → (k0 && r') = false) := by
  cases m with
  | none =>
    simp only [Option.some.injEq, Prod.mk.injEq] at h
    obtain ⟨rfl, rfl⟩ := h
    refine ⟨(fun h => by cases h), fun h => ?_⟩
    rw [g3 h]
    simp
  | some t =>
    have := hk t rfl
    subst this
    cases k0 with
    | true =>
      simp only [Option.some.injEq, Prod.mk.injEq] at h
      obtain ⟨rfl, rfl⟩ := h
      simpa using ⟨g2, g3⟩
    | false =>
      simp only [Option.some.injEq, Prod.mk.injEq] at h
      obtain ⟨rfl, rfl⟩ := h
      simp

theorem xor_self (k : IntKind) (x : Int) : arith .xor k x x = 0 := by
  simp only [arith, BitVec.xor_self, BitVec.toNat_zero]
  cases k <;> rfl
theorem or_zero (k : IntKind) : arith .or k 0 0 = 0 := by
  cases k <;> rfl

/-- Places, one by one. -/
theorem eqPairs_items {cs ds : List AV} {xs ys : Array Value} (hF : F.Hold ν) (hx : LR ν ρ cs xs) (hy : LR ν ρ ds ys) {e : TypeId} {k0 : IntKind} (he : P.underlying e = some (.int k0)) (dd : Nat) :
    ∀ (l : List Nat) (p q : Bool), eqPairs F cs ds l = some (p, q) → ∃ r, (Op.eqItems (dd + 1) e 1 xs ys l).run P w = .ok r w ∧ (p = true → r = true) ∧ (q = true → r = false) ∧ (r = true → (joint cs ds l).val ν = 0) := by
  intro l
  induction l with
  | nil =>
    intro p q h
    simp only [eqPairs, Option.some.injEq, Prod.mk.injEq] at h
    obtain ⟨rfl, rfl⟩ := h
    exact ⟨true, rfl, fun _ => rfl, (fun h => by cases h), fun _ => rfl⟩
  | cons o r ih =>
    intro p q h
    simp only [eqPairs] at h
    split at h
    case h_2 => cases h
    rename_i k n k' m p' q' h1 h2 h3
    split at h
    case isFalse => cases h
    rename_i hk
    subst hk
    obtain ⟨r', g1, g2, g3, g4⟩ := ih p' q' h3
    have pk : P.plainKey e = true := by simp [Program.plainKey, he]
    have eq1 := run_equalIn_int (P := P) w dd e k k0 (n.val ν) (m.val ν) he
    refine ⟨(n.val ν == m.val ν) && r', ?_, (eqStep h (fun t ht => eqI_known hF ht) g2 g3).1, (eqStep h (fun t ht => eqI_known hF ht) g2 g3).2, fun hz => ?_⟩
    rotate_left
    · simp only [Bool.and_eq_true, beq_iff_eq] at hz
      simp only [joint, h1, h2, AI.val]
      rw [g4 hz.2, hz.1, xor_self, or_zero]
    simp only [Op.eqItems, Nat.mul_one, Sem.run_bind, run_part_plain w pk (hx.at h1), run_part_plain w pk (hy.at h2), Result.andThen_ok, eq1]
    cases ht : (n.val ν == m.val ν)
    · simp
    · simpa using g1

theorem eqPairs_fields {cs ds : List AV} {xs ys : Array Value} (hF : F.Hold ν) (hx : LR ν ρ cs xs) (hy : LR ν ρ ds ys) (dd : Nat) :
    ∀ (l : List Field) (p q : Bool), (∀ f ∈ l, f.name ≠ "_" ∧ ∃ k, P.underlying f.type = some (.int k)) → eqPairs F cs ds (l.map (·.offset)) = some (p, q) → ∃ r, (Op.eqFields (dd + 1) xs ys l).run P w = .ok r w ∧ (p = true → r = true) ∧ (q = true → r = false) ∧ (r = true → (joint cs ds (l.map (·.offset))).val ν = 0) := by
  intro l
  induction l with
  | nil =>
    intro p q _ h
    simp only [List.map_nil, eqPairs, Option.some.injEq, Prod.mk.injEq] at h
    obtain ⟨rfl, rfl⟩ := h
    exact ⟨true, rfl, fun _ => rfl, (fun h => by cases h), fun _ => rfl⟩
  | cons f r ih =>
    intro p q hall h
    obtain ⟨hnm, k0, he⟩ := hall f (by simp)
    simp only [List.map_cons, eqPairs] at h
    split at h
    case h_2 => cases h
    rename_i k n k' m p' q' h1 h2 h3
    split at h
    case isFalse => cases h
    rename_i hk
    subst hk
    obtain ⟨r', g1, g2, g3, g4⟩ := ih p' q' (fun g hg => hall g (by simp [hg])) h3
    have pk : P.plainKey f.type = true := by simp [Program.plainKey, he]
    have eq1 := run_equalIn_int (P := P) w dd f.type k k0 (n.val ν) (m.val ν) he
    refine ⟨(n.val ν == m.val ν) && r', ?_, (eqStep h (fun t ht => eqI_known hF ht) g2 g3).1, (eqStep h (fun t ht => eqI_known hF ht) g2 g3).2, fun hz => ?_⟩
    rotate_left
    · simp only [Bool.and_eq_true, beq_iff_eq] at hz
      simp only [List.map_cons, joint, h1, h2, AI.val]
      rw [g4 hz.2, hz.1, xor_self, or_zero]
    simp only [Op.eqFields, hnm, ne_eq, not_false_eq_true, if_true, Sem.run_bind, run_part_plain w pk (hx.at h1), run_part_plain w pk (hy.at h2), Result.andThen_ok, eq1]
    cases ht : (n.val ν == m.val ν)
    · simp
    · simpa using g1

theorem sim_eqa (hF : F.Hold ν) (he : ER ν ρ e a.tmps) {x y : Operand} {x' y' : O} {t t2 : TypeId} {d : TypeDesc} {neg : Bool} {l : List Nat} (ho : o.op = .binOp (if neg then .neq else .eql) t x y t2) (ht : P.underlying t = some d)
    (hl : eqOffs P t d = some l) (hx : cO x = some x') (hy : cO y = some y') (h : pureA F e (.eqa neg l x' y') = some r) : Val ν ρ P w a o r := by
  have hv := cO_sim he hx
  have hu := cO_sim he hy
  simp only [pureA, Option.map_eq_some_iff] at h
  obtain ⟨b, hb, rfl⟩ := h
  unfold eqA at hb
  split at hb
  case h_2 => cases hb
  rename_i cs ds e1 e2
  rw [e1] at hv
  rw [e2] at hu
  generalize hxv : a.eval x = xv at hv
  generalize hyv : a.eval y = yv at hu
  cases hv with | ag _ xs hs1 hs2 =>
  cases hu with | ag _ ys hs3 hs4 =>
  have key : P.eqGuardType P.depth t = false ∧ ∃ r : Bool, (Op.equalIn 10000 t (.agg xs) (.agg ys)).run P w = .ok r w ∧ r = b := by
    have fin : ∀ (p q r : Bool), (match (some (p, q) : Option (Bool × Bool)) with | some (true, _) => some true | some (false, true) => some false | some (false, false) => (match findCmp F.cmp .neq (joint cs ds l) (.c 0) with | some true => some false | _ => none) | _ => none) = some b → (p = true → r = true) → (q = true → r = false) → (r = true → (joint cs ds l).val ν = 0) → r = b := by
      intro p q r h1 h2 h3 h4
      cases p <;> cases q
      · simp only at h1
        split at h1
        · rename_i hf
          have h5 := findCmp_val (ν := ν) _ _ _ _ _ hF.cmp hf
          cases r
          · simpa using h1
          · have h6 := h4 rfl
            simp only [compare, AI.val, h6] at h5
            simp at h5
        · cases h1
      all_goals simp_all
    cases hpq : eqPairs F cs ds l with
    | none => rw [hpq] at hb; simp at hb
    | some pq =>
      obtain ⟨p, q⟩ := pq
      rw [hpq] at hb
      unfold eqOffs at hl
      split at hl
      · rename_i n e'
        split at hl
        · rename_i hc
          simp only [Option.some.injEq] at hl
          subst hl
          simp only [Bool.and_eq_true, Bool.not_eq_true'] at hc
          obtain ⟨⟨c1, c2⟩, c3⟩ := hc
          have c1' : ∃ k0, P.underlying e' = some (.int k0) := by
            unfold intType at c1
            split at c1
            · rename_i k0 hk; exact ⟨k0, hk⟩
            · cases c1
          obtain ⟨k0, hk0⟩ := c1'
          have c2' : ∃ i, P.info? e' = some i ∧ i.size = 1 := by
            unfold oneType at c2
            split at c2
            · rename_i i hi; exact ⟨i, hi, Nat.eq_of_beq_eq_true c2⟩
            · cases c2
          obtain ⟨i, hi, hi1⟩ := c2'
          have hce : P.cellsOf e' = 1 := by simp [Program.cellsOf, hi, hi1]
          obtain ⟨r, g1, g2, g3, g4⟩ := eqPairs_items (P := P) (w := w) hF ⟨hs1, hs2⟩ ⟨hs3, hs4⟩ hk0 9998 _ p q hpq
          exact ⟨c3, r, by rw [run_equalIn_array w 9999 xs ys ht hi, hce]; exact g1, fin p q r hb g2 g3 g4⟩
        · cases hl
      · rename_i fs
        split at hl
        · rename_i hc
          simp only [Option.some.injEq] at hl
          subst hl
          simp only [Bool.and_eq_true, Bool.not_eq_true'] at hc
          obtain ⟨⟨c1, c2⟩, c3⟩ := hc
          have hall : ∀ f ∈ fs.toList, f.name ≠ "_" ∧ ∃ k, P.underlying f.type = some (.int k) := by
            intro f hf
            have := List.all_eq_true.1 c1 f hf
            simp only [Bool.and_eq_true, bne_iff_ne, ne_eq] at this
            refine ⟨this.1, ?_⟩
            have h2 := this.2
            unfold intType at h2
            split at h2
            · rename_i k hk; exact ⟨k, hk⟩
            · cases h2
          have hfs : P.fieldsOf t = fs := by simp [Program.fieldsOf, ht]
          obtain ⟨r, g1, g2, g3, g4⟩ := eqPairs_fields (P := P) (w := w) hF ⟨hs1, hs2⟩ ⟨hs3, hs4⟩ 9998 _ p q hall hpq
          exact ⟨c3, r, by rw [run_equalIn_struct w 9999 t xs ys (by rw [hfs]; exact ht) c2, hfs]; exact g1, fin p q r hb g2 g3 g4⟩
        · cases hl
      · cases hl
  obtain ⟨hg, r, hr, rfl⟩ := key
  refine ⟨.bool (r != neg), ?_, .b _⟩
  cases neg
  · simp only [execOp, ho, hxv, hyv, Sem.run_bind, Bool.false_eq_true, if_false, run_eqGuard_agg w _ t x y xs ys hg, Result.andThen_ok, run_eql_struct, hr]
    simp
  · simp only [execOp, ho, hxv, hyv, Sem.run_bind, if_true, run_eqGuard_agg w _ t x y xs ys hg, Result.andThen_ok, run_neq_struct, hr]
    simp

/-- ALL OPERATIONS THAT NEED NO HEAP. -/
theorem pure_sim (hF : F.Hold ν) (he : ER ν ρ e a.tmps) (hc : cOp P o = some k) (hp : k.isPure = true) (h : pureA F e k = some r) : Val ν ρ P w a o r := by
  unfold cOp at hc
  split at hc
  · rename_i x ho
    simp only [Option.map_eq_some_iff] at hc
    obtain ⟨x', hx, rfl⟩ := hc
    exact sim_mv he (.inl ho) hx h
  · rename_i x ho
    simp only [Option.map_eq_some_iff] at hc
    obtain ⟨x', hx, rfl⟩ := hc
    exact sim_mv he (.inr ho) hx h
  · rename_i c x y ho
    simp only [Option.map_eq_some_iff, Option.bind_eq_some_iff] at hc
    obtain ⟨c', h1, x', h2, y', h3, rfl⟩ := hc
    exact sim_pick he ho h1 h2 h3 h
  · simp only [Option.map_eq_some_iff, Option.bind_eq_some_iff] at hc
    obtain ⟨_, _, _, _, rfl⟩ := hc
    cases hp
  · simp only [Option.map_eq_some_iff] at hc
    obtain ⟨_, _, rfl⟩ := hc
    cases hp
  · rename_i t ps ho
    split at hc
    · rename_i fields hu
      simp only [Option.map_eq_some_iff, Option.bind_eq_some_iff] at hc
      obtain ⟨zv, h1, z, h2, pl, h3, l, h4, rfl⟩ := hc
      exact sim_bld he ho h1 h2 h4 (.inl ⟨fields, pl, hu, h3, rfl⟩) h
    · rename_i n t' hu
      simp only [Option.map_eq_some_iff, Option.bind_eq_some_iff] at hc
      obtain ⟨zv, h1, z, h2, s, h3, l, h4, rfl⟩ := hc
      exact sim_bld he ho h1 h2 h4 (.inr ⟨n, t', s, hu, h3, rfl⟩) h
    · cases hc
  · split at hc
    · simp only [Option.map_eq_some_iff, Option.bind_eq_some_iff] at hc
      obtain ⟨_, _, _, _, _, _, _, _, rfl⟩ := hc
      cases hp
    · cases hc
  · simp only [Option.map_eq_some_iff, Option.bind_eq_some_iff] at hc
    obtain ⟨_, _, _, _, rfl⟩ := hc
    cases hp
  · simp only [Option.map_eq_some_iff, Option.bind_eq_some_iff] at hc
    obtain ⟨_, _, _, _, _, _, rfl⟩ := hc
    cases hp
  · rename_i x ho
    simp only [Option.map_eq_some_iff] at hc
    obtain ⟨x', hx, rfl⟩ := hc
    exact sim_nck he ho hx h
  · rename_i t x ho
    simp only [Option.bind_eq_some_iff] at hc
    obtain ⟨x', hx, hc⟩ := hc
    split at hc
    · rename_i n t' hu
      simp only [Option.some.injEq] at hc
      subst hc
      exact sim_s2a he ho hu hx h
    · cases hc
  · rename_i op t x y t2 ho
    simp only [Option.bind_eq_some_iff] at hc
    obtain ⟨x', hx, y', hy, hc⟩ := hc
    split at hc
    · simp only [Option.some.injEq] at hc
      subst hc
      exact sim_bin hF he ho hx hy h
    · rename_i hu
      split at hc
      · simp only [Option.some.injEq] at hc
        subst hc
        exact sim_eqb (neg := false) he ho hu hx hy h
      · simp only [Option.some.injEq] at hc
        subst hc
        exact sim_eqb (neg := true) he ho hu hx hy h
      · cases hc
    · rename_i d _ _ hu
      split at hc
      · rename_i hcc
        split at hc
        · simp only [Option.map_eq_some_iff] at hc
          obtain ⟨kind, hk, rfl⟩ := hc
          exact sim_eqn (neg := false) he ho hu hk hcc hx hy h
        · simp only [Option.map_eq_some_iff] at hc
          obtain ⟨kind, hk, rfl⟩ := hc
          exact sim_eqn (neg := true) he ho hu hk hcc hx hy h
        · cases hc
      · split at hc
        · simp only [Option.map_eq_some_iff] at hc
          obtain ⟨l, hk, rfl⟩ := hc
          exact sim_eqa (neg := false) hF he ho hu hk hx hy h
        · simp only [Option.map_eq_some_iff] at hc
          obtain ⟨l, hk, rfl⟩ := hc
          exact sim_eqa (neg := true) hF he ho hu hk hx hy h
        · cases hc
    · cases hc
  · rename_i op t x ho
    simp only [Option.map_eq_some_iff] at hc
    obtain ⟨x', hx, rfl⟩ := hc
    exact sim_una hF he ho hx h
  · rename_i s t x ho
    simp only [Option.bind_eq_some_iff] at hc
    obtain ⟨x', hx, hc⟩ := hc
    split at hc
    · rename_i k0 k1 hu1 hu2
      simp only [Option.some.injEq] at hc
      subst hc
      exact sim_cv hF he ho hu1 hu2 hx h
    · split at hc
      · simp only [Option.bind_eq_some_iff] at hc
        obtain ⟨_, _, hc⟩ := hc
        split at hc
        · simp only [Option.some.injEq] at hc
          subst hc
          cases hp
        · cases hc
      · cases hc
    · split at hc
      · split at hc
        · simp only [Option.some.injEq] at hc
          subst hc
          cases hp
        · cases hc
      · cases hc
    · cases hc
  · simp only [Option.some.injEq] at hc
    subst hc
    cases hp
  · simp only [Option.bind_eq_some_iff] at hc
    obtain ⟨_, _, _, _, hc⟩ := hc
    split at hc
    · split at hc
      · simp only [Option.map_eq_some_iff] at hc
        obtain ⟨_, _, rfl⟩ := hc
        cases hp
      · simp only [Option.map_eq_some_iff] at hc
        obtain ⟨_, _, rfl⟩ := hc
        cases hp
      · cases hc
    · cases hc
  · simp only [Option.bind_eq_some_iff] at hc
    obtain ⟨_, _, _, _, _, _, hc⟩ := hc
    split at hc
    · split at hc
      · simp only [Option.some.injEq] at hc
        subst hc
        cases hp
      · simp only [Option.some.injEq] at hc
        subst hc
        cases hp
      · cases hc
    · cases hc
  · rename_i t x ho
    simp only [Option.bind_eq_some_iff] at hc
    obtain ⟨x', hx, hc⟩ := hc
    split at hc
    · cases hc
    · rename_i d hd hu
      simp only [Option.some.injEq] at hc
      subst hc
      exact sim_ifc he ho hu hd hx h
    · cases hc
  · rename_i f first caps ho
    split at hc
    · rename_i hf
      simp only [Option.map_eq_some_iff] at hc
      obtain ⟨l, hl, rfl⟩ := hc
      have hf' : first = #[] := by simpa using hf
      subst hf'
      exact sim_mkf he ho hl h
    · cases hc
  · split at hc
    · simp only [Option.map_eq_some_iff, Option.bind_eq_some_iff] at hc
      obtain ⟨_, _, _, _, _, _, _, _, _, _, rfl⟩ := hc
      cases hp
    · cases hc
  · rename_i t x lo hi mx ho
    simp only [Option.bind_eq_some_iff] at hc
    obtain ⟨x', hx, lo', h1, hi', h2, mx', h3, hc⟩ := hc
    split at hc
    · rename_i t' hu
      simp only [Option.map_eq_some_iff] at hc
      obtain ⟨s, hs, rfl⟩ := hc
      exact sim_slc hF he ho hu hs hx h1 h2 h3 h
    · rename_i n t' hu
      simp only [Option.map_eq_some_iff] at hc
      obtain ⟨s, hs, rfl⟩ := hc
      exact sim_sla he ho hu hs hx h1 h2 h3 h
    · cases hc
  · rename_i t x i ho
    simp only [Option.bind_eq_some_iff] at hc
    obtain ⟨x', hx, hc⟩ := hc
    split at hc
    · rename_i fs hu
      simp only [Option.bind_eq_some_iff] at hc
      obtain ⟨f, hf, s, hs, hc⟩ := hc
      split at hc
      · cases hc
      · rename_i hs0
        simp only [Option.some.injEq] at hc
        subst hc
        exact sim_fa he ho hu hf hs hs0 hx h
    · cases hc
  · rename_i t x i ho
    simp only [Option.bind_eq_some_iff] at hc
    obtain ⟨x', hx, hc⟩ := hc
    split at hc
    · rename_i fs hu
      simp only [Option.bind_eq_some_iff, Option.map_eq_some_iff] at hc
      obtain ⟨f, hf, s, hs, rfl⟩ := hc
      exact sim_fl he ho hu hf hs hx h
    · cases hc
  · rename_i t x i ho
    simp only [Option.bind_eq_some_iff] at hc
    obtain ⟨x', hx, i', hi, hc⟩ := hc
    split at hc
    · rename_i t' hu
      simp only [Option.map_eq_some_iff] at hc
      obtain ⟨s, hs, rfl⟩ := hc
      exact sim_ia hF he ho (.inl ⟨rfl, hu⟩) hs hx hi h
    · rename_i n t' hu
      simp only [Option.map_eq_some_iff] at hc
      obtain ⟨s, hs, rfl⟩ := hc
      exact sim_ia hF he ho (.inr ⟨n, rfl, hu⟩) hs hx hi h
    · cases hc
  · rename_i t x i ho
    simp only [Option.bind_eq_some_iff] at hc
    obtain ⟨x', hx, i', hi, hc⟩ := hc
    split at hc
    · rename_i n t' hu
      simp only [Option.bind_eq_some_iff, Option.map_eq_some_iff] at hc
      obtain ⟨s, hs, m, hm, rfl⟩ := hc
      exact sim_ix he ho hu hs hm hx hi h
    · cases hc
  · rename_i x t0 t ok ho
    simp only [Option.bind_eq_some_iff] at hc
    obtain ⟨x', hx, hc⟩ := hc
    split at hc
    · cases hc
    · rename_i d hd hu
      simp only [Option.map_eq_some_iff] at hc
      obtain ⟨z, hz, rfl⟩ := hc
      exact sim_tas he ho hu hd hz hx h
    · cases hc
  · rename_i x i ho
    simp only [Option.map_eq_some_iff] at hc
    obtain ⟨x', hx, rfl⟩ := hc
    exact sim_ext he ho hx h
  · rename_i c ho
    split at hc
    · simp only [Option.map_eq_some_iff] at hc
      obtain ⟨_, _, rfl⟩ := hc
      cases hp
    · simp only [Option.bind_eq_some_iff, Option.map_eq_some_iff] at hc
      obtain ⟨_, _, _, _, rfl⟩ := hc
      cases hp
    · rename_i b hcal
      simp only [Option.bind_eq_some_iff] at hc
      obtain ⟨l, hl, hc⟩ := hc
      obtain ⟨g1, g2⟩ := mapO_spec _ _ _ hl
      obtain ⟨callee, args, ats⟩ := c
      simp only at hcal hl g1 g2 hc
      subst hcal
      have two : ∀ x y, l = [x, y] → ∃ p q, args = #[p, q] ∧ cO p = some x ∧ cO q = some y := by
        intro x y hxy
        subst hxy
        have hs : args.size = 2 := by simpa using g1
        refine ⟨args[0], args[1], ?_, g2 0 _ _ (by simp [hs]) rfl, g2 1 _ _ (by simp [hs]) rfl⟩
        apply Array.ext
        · simp [hs]
        · intro i h1 h2
          match i, h1 with
          | 0, _ => rfl
          | 1, _ => rfl
          | i + 2, h1 => omega
      have one : ∀ x, l = [x] → ∃ p, args = #[p] ∧ cO p = some x := by
        intro x hxy
        subst hxy
        have hs : args.size = 1 := by simpa using g1
        refine ⟨args[0], ?_, g2 0 _ _ (by simp [hs]) rfl⟩
        apply Array.ext
        · simp [hs]
        · intro i h1 h2
          match i, h1 with
          | 0, _ => rfl
          | i + 1, h1 => omega
      split at hc
      · rename_i x
        obtain ⟨p, rfl, hp1⟩ := one x rfl
        simp only [Option.bind_eq_some_iff] at hc
        obtain ⟨t, h0, hc⟩ := hc
        split at hc
        · rename_i t' hu
          simp only [Option.some.injEq] at hc
          subst hc
          exact sim_len he ho h0 hu hp1 h
        · rename_i hu
          simp only [Option.some.injEq] at hc
          subst hc
          exact sim_lens he ho h0 hu hp1 h
        · rename_i n t' hu
          simp only [Option.some.injEq] at hc
          subst hc
          exact sim_lenk ho h0 hu h
        · cases hc
      · rename_i x y
        obtain ⟨p, q, rfl, hp1, hp2⟩ := two x y rfl
        simp only [Option.some.injEq] at hc
        subst hc
        exact sim_mm (mst := false) hF he ho hp1 hp2 h
      · rename_i x y
        obtain ⟨p, q, rfl, hp1, hp2⟩ := two x y rfl
        simp only [Option.some.injEq] at hc
        subst hc
        exact sim_mm (mst := true) hF he ho hp1 hp2 h
      · simp only [Option.bind_eq_some_iff] at hc
        obtain ⟨_, _, _, _, hc⟩ := hc
        split at hc
        · simp only [Option.bind_eq_some_iff] at hc
          obtain ⟨_, _, _, _, _, _, hc⟩ := hc
          split at hc
          · simp only [Option.some.injEq] at hc
            subst hc
            cases hp
          · split at hc
            · simp only [Option.some.injEq] at hc
              subst hc
              cases hp
            · cases hc
        · cases hc
      · simp only [Option.bind_eq_some_iff] at hc
        obtain ⟨_, _, hc⟩ := hc
        split at hc
        · simp only [Option.map_eq_some_iff] at hc
          obtain ⟨_, _, rfl⟩ := hc
          cases hp
        · cases hc
      · cases hc
    · cases hc
  · cases hc

end
end Go.Sh

namespace Go.Sh

section
variable {ν : Nat → Int} {ρ : Emb} {F : Facts} {P : Program} {w : World} {H : AH}

theorem HR.find {b : Nat} {x : ABlk} {pl : Pl} (hh : HR ν ρ H w) (hx : H.get b = some x) (hp : ρ b = some pl) : BR ν ρ w x pl := by
  obtain ⟨pl', h1, h2⟩ := hh.blk b x hx
  rw [hp] at h1
  cases h1
  exact h2

theorem ble_no {a b : Nat} (h : ¬ Nat.ble a b = true) : b < a := by
  rw [Nat.ble_eq] at h
  omega
theorem beq_no {a b : Nat} (h : ¬ Nat.beq a b = true) : a ≠ b := fun e => h (by rw [e]; exact Nat.beq_refl b)

theorem BR.read {x : ABlk} {pl : Pl} (h : BR ν ρ w x pl) (hm : x.elem ≠ mapTag) {j : Nat} {c : AV} (hc : x.cells[j]? = some c) : ∃ v, w.cell? ⟨pl.cb, pl.co + j, none⟩ = some v ∧ VR ν ρ c v := by
  obtain ⟨C, e, fz, h1, h2, _⟩ := h.cells hm
  obtain ⟨v, h3, h4⟩ := h2 j c hc
  exact ⟨v, by simp [World.cell?, h1, h3], h4⟩

theorem BR.row {x : ABlk} {pl : Pl} (h : BR ν ρ w x pl) (hm : x.elem ≠ mapTag) {off n : Nat} (hn : off + n ≤ x.cells.length) :
    ∃ vs : List Value, vs.length = n ∧ LR ν ρ ((x.cells.drop off).take n) vs.toArray ∧ (∀ (j : Nat) v, vs[j]? = some v → w.cell? ((⟨pl.cb, pl.co + off, none⟩ : Addr).add j) = some v) := by
  have hj : ∀ j, j < n → ∃ v, w.cell? ⟨pl.cb, pl.co + (off + j), none⟩ = some v ∧ VR ν ρ (x.cells.getD (off + j) .u) v := by
    intro j hj
    have hlt : off + j < x.cells.length := by omega
    obtain ⟨v, h1, h2⟩ := h.read hm (List.getElem?_eq_getElem hlt)
    refine ⟨v, h1, ?_⟩
    rw [List.getD_eq_getElem?_getD, List.getElem?_eq_getElem hlt]
    exact h2
  refine ⟨(List.range n).map fun j => (w.cell? ⟨pl.cb, pl.co + (off + j), none⟩).getD undef, by simp, ⟨by simp; omega, fun j c v hc hv => ?_⟩, fun j v hv => ?_⟩
  · simp only [List.getElem?_take, List.getElem?_drop] at hc
    split at hc
    · rename_i hlt
      obtain ⟨v', h1, h2⟩ := hj j hlt
      simp [List.getElem?_range hlt, h1] at hv
      subst hv
      rw [List.getD_eq_getElem?_getD, hc] at h2
      exact h2
    · cases hc
  · simp only [List.getElem?_map, Option.map_eq_some_iff] at hv
    obtain ⟨k, hk, rfl⟩ := hv
    obtain ⟨hlt, rfl⟩ := List.getElem?_eq_some_iff.1 hk
    simp only [List.length_range] at hlt
    obtain ⟨v', h1, h2⟩ := hj j hlt
    rw [Addr.add_off, Nat.add_assoc]
    simp [h1]

theorem AH.row_sim {b off n : Nat} {cs : List AV} {pl : Pl} (hh : HR ν ρ H w) (hp : ρ b = some pl) (h : H.row b off n = some cs) :
    ∃ vs : List Value, vs.length = n ∧ LR ν ρ cs vs.toArray ∧ (∀ (j : Nat) v, vs[j]? = some v → w.cell? ((⟨pl.cb, pl.co + off, none⟩ : Addr).add j) = some v) := by
  unfold AH.row at h
  split at h
  · rename_i x hx
    split at h
    · cases h
    · rename_i hm
      split at h
      · rename_i hb
        simp only [Option.some.injEq] at h
        subst h
        exact (hh.find hx hp).row (beq_no hm) (by simpa using hb)
      · cases h
  · cases h

/-- A new block of the abstract heap, where it lies. -/
def Emb.at (ρ : Emb) (b : Nat) (pl : Pl) : Emb where
  f := fun j => if j = b then some ((ρ j).getD pl) else ρ j
  glob := fun g hg => by
    obtain ⟨tot, ht⟩ := ρ.glob g hg
    refine ⟨tot, ?_⟩
    split
    · rw [ht]; rfl
    · exact ht

theorem Emb.at_same {b : Nat} {pl : Pl} (h : ρ b = none) : (ρ.at b pl) b = some pl := by
  show (if b = b then some ((ρ b).getD pl) else ρ b) = _
  rw [if_pos rfl, h]
  rfl

theorem Emb.at_ne {b j : Nat} {pl : Pl} (h : j ≠ b) : (ρ.at b pl) j = ρ j := by
  show (if j = b then some ((ρ j).getD pl) else ρ j) = _
  rw [if_neg h]

theorem Emb.le_at {b : Nat} {pl : Pl} (h : ρ b = none) : Emb.le ρ (ρ.at b pl) := by
  intro j x hx
  by_cases e : j = b
  · subst e; rw [h] at hx; cases hx
  · rw [Emb.at_ne e]; exact hx

theorem HR.bring {H1 H' : AH} {w' : World} {cs : List AV} {t b : Nat} {pl : Pl} (hh : HR ν ρ H1 w) (hal : H1.alloc ⟨cs, t, true⟩ = some (b, H')) (hfr : ρ b = none)
    (hbr : BR ν (ρ.at b pl) w' ⟨cs, t, true⟩ pl)
    (hoth : ∀ k, k ≠ pl.cb → k < w.heap.size → w'.heap[k]? = w.heap[k]?) (hap : ∀ b'' x'' pl'', H1.get b'' = some x'' → ρ b'' = some pl'' → pl''.cb ≠ pl.cb) : HR ν (ρ.at b pl) H' w' := by
  have hle := Emb.le_at (pl := pl) hfr
  refine ⟨fun j x hx => ?_, fun j j' x x' q q' hne hx hx' ho hq hq' => ?_⟩
  · rw [AH.alloc_get hal j] at hx
    by_cases e : j = b
    · rw [if_pos e] at hx
      cases hx
      subst e
      exact ⟨pl, Emb.at_same hfr, hbr⟩
    · rw [if_neg e] at hx
      obtain ⟨q, h1, h2⟩ := hh.blk j x hx
      exact ⟨q, hle _ _ h1, h2.keep hle (hoth q.cb (hap j x q hx h1) h2.lt)⟩
  · rw [AH.alloc_get hal j] at hx
    rw [AH.alloc_get hal j'] at hx'
    by_cases e : j = b
    · have e' : j' ≠ b := fun h => hne (e.trans h.symm)
      rw [if_neg e'] at hx'
      rw [e, Emb.at_same hfr] at hq
      rw [Emb.at_ne e'] at hq'
      cases hq
      exact fun h => hap j' x' q' hx' hq' h.symm
    · rw [if_neg e] at hx
      rw [Emb.at_ne e] at hq
      by_cases e' : j' = b
      · rw [e', Emb.at_same hfr] at hq'
        cases hq'
        exact hap j x q hx hq
      · rw [if_neg e'] at hx'
        rw [Emb.at_ne e'] at hq'
        exact hh.apart j j' x x' q q' hne hx hx' ho hq hq'

/-- A new block of cells says what they say. -/
theorem BR.ofCells {w' : World} {cs : List AV} {t b : Nat} {pl : Pl} {C : Array Value} {e : TypeId} (hfr : ρ b = none) (ht : t < mapTag) (hw : w'.heap[pl.cb]? = some (.cells C e (0, 0))) (hsz : C.size = pl.tot)
    (hcs : ∀ (j : Nat) c, cs[j]? = some c → ∃ v, C[pl.co + j]? = some v ∧ VR ν ρ c v) : BR ν (ρ.at b pl) w' ⟨cs, t, true⟩ pl :=
  ⟨fun _ => ⟨C, e, (0, 0), hw, fun k c hc => (let ⟨v, h1, h2⟩ := hcs k c hc; ⟨v, h1, h2.mono (Emb.le_at hfr)⟩), fun _ => ⟨rfl, hsz⟩⟩, fun h => absurd h (Nat.ne_of_lt ht), fun h => absurd h (Nat.not_lt_of_lt ht)⟩

/-- A new object of the world. -/
theorem HR.freshO {H' : AH} {cs : List AV} {t b tot : Nat} {ob : Obj} (hh : HR ν ρ H w) (hal : H.alloc ⟨cs, t, true⟩ = some (b, H')) (hfr : ρ b = none)
    (hbr : BR ν (ρ.at b ⟨w.heap.size, 0, tot⟩) (w.alloc ob) ⟨cs, t, true⟩ ⟨w.heap.size, 0, tot⟩) :
    HR ν (ρ.at b ⟨w.heap.size, 0, tot⟩) H' (w.alloc ob) ∧ Stp ρ H w (ρ.at b ⟨w.heap.size, 0, tot⟩) H' (w.alloc ob) := by
  have hlt : ∀ j x q, H.get j = some x → ρ j = some q → q.cb < w.heap.size := fun j x q hx hq => (hh.find hx hq).lt
  have hold : ∀ k, k < w.heap.size → (w.alloc ob).heap[k]? = w.heap[k]? := fun k hk => by
    show (w.heap.push _)[k]? = _
    rw [Array.getElem?_push, if_neg (by omega)]
  obtain ⟨a1, a2, a3, a4, a5, a6⟩ := AH.alloc_spec hal
  refine ⟨HR.bring hh hal hfr hbr (fun k _ hk => hold k hk) (fun j x q hx hq => ?_), ⟨Emb.le_at hfr, fun j hj hj' => ?_, ?_, rfl, rfl, rfl, fun k hk _ => hold k hk, fun cb hcb ho => ?_, fun j q hj hj' => ?_⟩⟩
  · have := hlt j x q hx hq
    show q.cb ≠ w.heap.size
    omega
  · by_cases e : j = b
    · subst e; omega
    · exact (hj' (by rw [Emb.at_ne e]; exact hj)).elim
  · show w.heap.size ≤ (w.heap.push _).size
    simp
  · obtain ⟨j, x, q, h1, h2, h3, h4⟩ := ho
    rw [AH.alloc_get hal j] at h1
    by_cases e : j = b
    · rw [e, Emb.at_same hfr] at h3
      cases h3
      simp at h4
      omega
    · rw [if_neg e] at h1
      rw [Emb.at_ne e] at h3
      exact ⟨j, x, q, h1, h2, h3, h4⟩
  · by_cases e : j = b
    · rw [e, Emb.at_same hfr] at hj'
      cases hj'
      exact .inl (Nat.le_refl _)
    · rw [Emb.at_ne e, hj] at hj'
      cases hj'

/-- A new block of the world. -/
theorem HR.fresh {H' : AH} {cs : List AV} {t b : Nat} {C : Array Value} {e : TypeId} (hh : HR ν ρ H w) (hal : H.alloc ⟨cs, t, true⟩ = some (b, H')) (hfr : ρ b = none) (ht : t < mapTag)
    (hcs : ∀ (j : Nat) c, cs[j]? = some c → ∃ v, C[j]? = some v ∧ VR ν ρ c v) :
    HR ν (ρ.at b ⟨w.heap.size, 0, C.size⟩) H' (w.alloc (.cells C e)) ∧ Stp ρ H w (ρ.at b ⟨w.heap.size, 0, C.size⟩) H' (w.alloc (.cells C e)) :=
  HR.freshO hh hal hfr (BR.ofCells hfr ht (C := C) (e := e) (by show (w.heap.push _)[w.heap.size]? = _; simp) rfl (fun j c hc => (let ⟨v, h1, h2⟩ := hcs j c hc; ⟨v, by simpa using h1, h2⟩)))

theorem lock_no {e : Nat} (h : lockB e = false) : e < mapTag ∨ winTag < e := by
  unfold lockB at h
  split at h
  · rename_i h1
    right
    rcases Nat.lt_or_ge winTag e with h2 | h2
    · exact h2
    · rw [Nat.ble_eq_true_of_le h2] at h
      cases h
  · rename_i h1
    left
    rcases Nat.lt_or_ge e mapTag with h2 | h2
    · exact h2
    · rw [Nat.ble_eq_true_of_le h2] at h1
      cases h1

theorem AH.wr_sim {b off : Nat} {cs : List AV} {vs : List Value} {pl : Pl} {H' : AH} (hh : HR ν ρ H w) (hp : ρ b = some pl) (h : H.wr b off cs = some H') (hl : LR ν ρ cs vs.toArray) :
    ∃ w', (storeCells ⟨pl.cb, pl.co + off, none⟩ vs).run P w = .ok () w' ∧ HR ν ρ H' w' ∧ Stp ρ H w ρ H' w' := by
  unfold AH.wr at h
  split at h
  · rename_i x hx
    split at h
    · cases h
    rename_i hmb
    have hlk := lock_no (by simpa using hmb)
    have hm : x.elem ≠ mapTag := by
      rcases hlk with h | h
      · exact Nat.ne_of_lt h
      · unfold winTag at h
        unfold mapTag
        omega
    split at h
    · rename_i hb
      simp only [Bool.and_eq_true, Nat.ble_eq, List.all_eq_true] at hb
      obtain ⟨y, hy, ho, n1, n2, n3, n4⟩ := AH.lay_spec h
      rw [hx] at hy
      cases hy
      have hget := AH.lay_get h
      obtain ⟨C, e, fz, g1, g2, g3⟩ := (hh.find hx hp).cells hm
      obtain ⟨rfl, g5⟩ := g3 ho
      have hlen : cs.length = vs.length := by simpa using hl.1
      have hown : ∀ cb, Owned ρ H' cb → Owned ρ H cb := by
        rintro cb ⟨j, z, q, h1, h2, h3, h4⟩
        rw [hget j] at h1
        split at h1
        · rename_i e; subst e; exact ⟨j, x, q, hx, ho, h3, h4⟩
        · exact ⟨j, z, q, h1, h2, h3, h4⟩
      have hb1 : ∀ v ∈ vs, v.oneCell' = true := LR.one hl (fun c hc => hb.2 c hc)
      have hend : vs = [] ∨ pl.co + off + vs.length ≤ C.size := by
        cases hv : vs with
        | nil => exact .inl rfl
        | cons v0 vr =>
          right
          have hpos : 0 < vs.length := by rw [hv]; simp
          rw [← hv]
          have hlt : off + vs.length - 1 < x.cells.length := by omega
          obtain ⟨v, h1, _⟩ := g2 (off + vs.length - 1) (x.cells[off + vs.length - 1]) (by simp [hlt])
          have := (Array.getElem?_eq_some_iff.1 h1).1
          omega
      have hsp : ∀ (j : Nat) c, (splice x.cells off cs)[j]? = some c → (off ≤ j ∧ j < off + cs.length ∧ cs[j - off]? = some c) ∨ (¬ (off ≤ j ∧ j < off + cs.length) ∧ x.cells[j]? = some c) := by
        intro j c hc
        rw [splice_get _ _ _ _ hb.1] at hc
        split at hc
        · rename_i hj; exact .inl ⟨hj.1, hj.2, hc⟩
        · rename_i hj; exact .inr ⟨hj, hc⟩
      rcases hend with rfl | hend
      · have hc0 : cs = [] := List.eq_nil_of_length_eq_zero (by simpa using hlen)
        subst hc0
        refine ⟨w, rfl, ⟨fun j z hz => ?_, fun j j' z z' q q' hne hz hz' hzo hq hq' => ?_⟩, ⟨Emb.le_refl _, fun _ p q => (q p).elim, Nat.le_refl _, rfl, rfl, rfl, fun _ _ _ => rfl, fun cb _ o => hown cb o, fun _ _ h k => by rw [h] at k; cases k⟩⟩
        · rw [hget j] at hz
          split at hz
          · rename_i ej
            subst ej
            cases hz
            refine ⟨pl, hp, ⟨fun _ => ⟨C, e, (0, 0), g1, fun k c hc => ?_, fun _ => ⟨rfl, g5⟩⟩, fun h => (hm h).elim, fun h => ?_⟩⟩
            case refine_2 =>
              have h := (hh.find hx hp).pin h
              unfold PinB at h ⊢
              simpa [splice] using h
            rcases hsp k c hc with ⟨_, q, _⟩ | ⟨_, q⟩
            · simp at q; omega
            · exact g2 k c q
          · exact hh.blk j z hz
        · have tr : ∀ j z, H'.get j = some z → ∃ z0, H.get j = some z0 ∧ (z.own = true → z0.own = true) := by
            intro j z hz
            rw [hget j] at hz
            split at hz
            · rename_i ej; subst ej; exact ⟨x, hx, fun _ => ho⟩
            · exact ⟨z, hz, id⟩
          obtain ⟨y0, hy0, hyo⟩ := tr j z hz
          obtain ⟨y1, hy1, _⟩ := tr j' z' hz'
          exact hh.apart j j' y0 y1 q q' hne hy0 hy1 (hyo hzo) hq hq'
      · have hst := run_storeCells_at P pl.cb (pl.co + off) e vs 0 C w g1 (by simpa using hend) hb1
        simp only [Nat.add_zero] at hst
        have hrow : ∀ k, k ≠ pl.cb → (w.setRow pl.cb (C.toList.take (pl.co + off) ++ vs ++ C.toList.drop (pl.co + off + vs.length)).toArray).heap[k]? = w.heap[k]? := fun k hk => setRow_other w pl.cb k _ hk
        have hsame := setRow_heap w pl.cb C (C.toList.take (pl.co + off) ++ vs ++ C.toList.drop (pl.co + off + vs.length)).toArray e (0, 0) g1
        have hnew : ∀ (i : Nat), (C.toList.take (pl.co + off) ++ vs ++ C.toList.drop (pl.co + off + vs.length)).toArray[i]? = if pl.co + off ≤ i ∧ i < pl.co + off + vs.length then vs[i - (pl.co + off)]? else C[i]? := by
          intro i
          simp only [List.getElem?_toArray]
          by_cases h1 : i < pl.co + off
          · rw [if_neg (by omega), List.append_assoc, List.getElem?_append_left (by simp; omega), List.getElem?_take, if_pos h1]
            simp
          · rw [List.append_assoc, List.getElem?_append_right (by simp; omega)]
            have el : (C.toList.take (pl.co + off)).length = pl.co + off := by simp; omega
            rw [el]
            by_cases h2 : i < pl.co + off + vs.length
            · rw [if_pos (by omega), List.getElem?_append_left (by omega)]
            · rw [if_neg (by omega), List.getElem?_append_right (by omega), List.getElem?_drop]
              simp only [Array.getElem?_toList]
              congr 1
              omega
        have hC' : (C.toList.take (pl.co + off) ++ vs ++ C.toList.drop (pl.co + off + vs.length)).toArray.size = C.size := by simp; omega
        generalize (C.toList.take (pl.co + off) ++ vs ++ C.toList.drop (pl.co + off + vs.length)).toArray = C' at hst hrow hsame hnew hC'
        refine ⟨_, hst, ⟨fun j z hz => ?_, fun j j' z z' q q' hne hz hz' hzo hq hq' => ?_⟩, ⟨Emb.le_refl _, fun _ p q => (q p).elim, by simp [World.setRow], rfl, rfl, rfl, fun cb _ hno => hrow cb (fun ecb => hno ⟨b, x, pl, hx, ho, hp, ecb.symm⟩), fun cb _ o => hown cb o, fun _ _ h k => by rw [h] at k; cases k⟩⟩
        · rw [hget j] at hz
          split at hz
          · rename_i ej
            subst ej
            cases hz
            refine ⟨pl, hp, ⟨fun _ => ⟨C', e, (0, 0), hsame, fun k c hc => ?_, fun _ => ⟨rfl, hC'.trans g5⟩⟩, fun h => (hm h).elim, fun h => ?_⟩⟩
            case refine_2 =>
              rcases hlk with h9 | h9
              · exact absurd h (Nat.not_lt_of_lt h9)
              have h := (hh.find hx hp).pin h
              unfold PinB at h ⊢
              rw [if_neg (Nat.not_le_of_lt h9)] at h ⊢
              obtain ⟨C2, ty, fz, o9, a9, q1, q2, q3, q4⟩ := h
              rw [g1] at q1
              cases q1
              refine ⟨C', e, (0, 0), o9, a9, hsame, q2, q3, fun j hj hja => ?_⟩
              have hl : (splice x.cells off cs).length = x.cells.length := by
                have := hb.1
                simp [splice]
                omega
              have hja : j < a9 ∨ a9 + x.cells.length ≤ j := by
                rw [← hl]
                exact hja
              rw [hnew, if_neg (by have := hb.1; omega)]
              exact q4 j hj hja
            rw [hnew (pl.co + k)]
            rcases hsp k c hc with ⟨q1, q2, q3⟩ | ⟨q1, q3⟩
            · rw [if_pos (by omega)]
              have e2 : pl.co + k - (pl.co + off) = k - off := by omega
              rw [e2]
              have hlt : k - off < vs.length := by omega
              exact ⟨vs[k - off], by simp [hlt], hl.2 (k - off) c _ q3 (by simp [hlt])⟩
            · rw [if_neg (by omega)]
              exact g2 k c q3
          · rename_i ej
            obtain ⟨q, h1, h2⟩ := hh.blk j z hz
            exact ⟨q, h1, h2.keep (Emb.le_refl _) (hrow q.cb (fun ecb => hh.apart b j x z pl q (fun hq => ej hq.symm) hx hz ho hp h1 ecb.symm))⟩
        · have tr : ∀ j z, H'.get j = some z → ∃ z0, H.get j = some z0 ∧ (z.own = true → z0.own = true) := by
            intro j z hz
            rw [hget j] at hz
            split at hz
            · rename_i ej; subst ej; exact ⟨x, hx, fun _ => ho⟩
            · exact ⟨z, hz, id⟩
          obtain ⟨y0, hy0, hyo⟩ := tr j z hz
          obtain ⟨y1, hy1, _⟩ := tr j' z' hz'
          exact hh.apart j j' y0 y1 q q' hne hy0 hy1 (hyo hzo) hq hq'
    · cases h
  · cases h

end
end Go.Sh
