/-
  A SHADOW MACHINE. Abstract values, an abstract heap, and what they say of a world. Own work.
-/
import Derived.Calls
import Derived.LoopN
import Derived.Orders
namespace Go.Sh

/-- A binary tree, by place: what stands at the places of an environment or a heap. -/
inductive Tr (α : Type) where
  | l : Tr α
  | n : Tr α → Option α → Tr α → Tr α

def Tr.get {α : Type} : Tr α → Nat → Option α
  | .l, _ => none
  | .n a v b, i => if i = 0 then v else if i % 2 = 1 then a.get (i / 2) else b.get (i / 2 - 1)

def Tr.put {α : Type} : Nat → Tr α → Nat → Option α → Tr α
  | 0, t, _, _ => t
  | f + 1, .l, i, x => if i = 0 then .n .l x .l else if i % 2 = 1 then .n (Tr.put f .l (i / 2) x) none .l else .n .l none (Tr.put f .l (i / 2 - 1) x)
  | f + 1, .n a v b, i, x => if i = 0 then .n a x b else if i % 2 = 1 then .n (Tr.put f a (i / 2) x) v b else .n a v (Tr.put f b (i / 2 - 1) x)

theorem Tr.get_put {α : Type} (x : Option α) : ∀ (f : Nat) (t : Tr α) (i j : Nat), i + 1 < 2 ^ f → (Tr.put f t i x).get j = if j = i then x else t.get j := by
  intro f
  induction f with
  | zero => intro t i j h; simp at h
  | succ f ih =>
    intro t i j h
    have hp : 2 ^ (f + 1) = 2 * 2 ^ f := by rw [Nat.pow_succ]; omega
    cases t with
    | l =>
      simp only [Tr.put]
      by_cases h0 : i = 0
      · subst h0
        by_cases hj : j = 0 <;> simp [Tr.get, hj]
      · by_cases h1 : i % 2 = 1
        · simp only [h0, h1, if_true, if_false, Tr.get]
          by_cases hj : j = 0
          · subst hj; simp; omega
          · by_cases hj1 : j % 2 = 1
            · rw [if_neg hj, if_pos hj1, ih _ _ _ (by omega)]
              by_cases e : j = i
              · simp [e]
              · have : j / 2 ≠ i / 2 := by omega
                simp [e, this, Tr.get]
            · have : j ≠ i := by omega
              simp [hj, hj1, this]
        · simp only [h0, h1, if_false, Tr.get]
          by_cases hj : j = 0
          · subst hj; simp; omega
          · by_cases hj1 : j % 2 = 1
            · have : j ≠ i := by omega
              simp [hj, hj1, this]
            · rw [if_neg hj, if_neg hj1, ih _ _ _ (by omega)]
              by_cases e : j = i
              · simp [e]
              · have : j / 2 - 1 ≠ i / 2 - 1 := by omega
                simp [e, this, Tr.get]
    | n a v b =>
      simp only [Tr.put]
      by_cases h0 : i = 0
      · subst h0
        by_cases hj : j = 0 <;> simp [Tr.get, hj]
      · by_cases h1 : i % 2 = 1
        · simp only [h0, h1, if_true, if_false, Tr.get]
          by_cases hj : j = 0
          · subst hj; simp; omega
          · by_cases hj1 : j % 2 = 1
            · rw [if_neg hj, if_pos hj1, ih _ _ _ (by omega)]
              by_cases e : j = i
              · simp [e]
              · have : j / 2 ≠ i / 2 := by omega
                simp [e, this, hj, hj1]
            · have : j ≠ i := by omega
              simp [hj, hj1, this]
        · simp only [h0, h1, if_false, Tr.get]
          by_cases hj : j = 0
          · subst hj; simp; omega
          · by_cases hj1 : j % 2 = 1
            · have : j ≠ i := by omega
              simp [hj, hj1, this]
            · rw [if_neg hj, if_neg hj1, ih _ _ _ (by omega)]
              by_cases e : j = i
              · simp [e]
              · have : j / 2 - 1 ≠ i / 2 - 1 := by omega
                simp [e, this, hj, hj1]

/-- Numbers: known, or named, or worked out of these. -/
inductive AI where
  | c (n : Int)
  | s (k : Nat)
  | e (op : BinOp) (k : IntKind) (x y : AI)
  | w (k : IntKind) (x : AI)

/-- What an operator makes of two numbers. -/
def arith (op : BinOp) (k : IntKind) (a b : Int) : Int :=
  match op with
  | .add => k.wrap (a + b)
  | .sub => k.wrap (a - b)
  | .mul => k.wrap (a * b)
  | .quo => k.wrap (a.tdiv b)
  | .rem => a.tmod b
  | .and => k.wrap ((BitVec.ofInt k.bits a &&& BitVec.ofInt k.bits b).toNat)
  | .or => k.wrap ((BitVec.ofInt k.bits a ||| BitVec.ofInt k.bits b).toNat)
  | .xor => k.wrap ((BitVec.ofInt k.bits a ^^^ BitVec.ofInt k.bits b).toNat)
  | .andNot => k.wrap ((BitVec.ofInt k.bits a &&& ~~~(BitVec.ofInt k.bits b)).toNat)
  | .shl => k.wrap (a * 2 ^ (min b.toNat k.bits))
  | .shr => a.fdiv (2 ^ (min b.toNat k.bits))
  | _ => 0

def compare (op : BinOp) (a b : Int) : Bool :=
  match op with
  | .eql => a == b
  | .neq => a != b
  | .lss => a < b
  | .leq => a ≤ b
  | .gtr => a > b
  | .geq => a ≥ b
  | _ => false

def AI.val (ν : Nat → Int) : AI → Int
  | .c n => n
  | .s k => ν k
  | .e op k x y => arith op k (x.val ν) (y.val ν)
  | .w k x => k.wrap (x.val ν)

def AI.beq : AI → AI → Bool
  | .c a, .c b => a == b
  | .s a, .s b => a == b
  | .e o k x y, .e o' k' x' y' => (o == o') && (k == k') && x.beq x' && y.beq y'
  | .w k x, .w k' x' => (k == k') && x.beq x'
  | _, _ => false

theorem AI.beq_eq : ∀ (x y : AI), x.beq y = true → x = y := by
  intro x
  induction x with
  | c n => intro y h; cases y <;> simp_all [AI.beq]
  | s n => intro y h; cases y <;> simp_all [AI.beq]
  | e o k a b iha ihb =>
    intro y h
    cases y <;> simp_all [AI.beq]
    exact ⟨iha _ h.1.2, ihb _ h.2⟩
  | w k a ih =>
    intro y h
    cases y <;> simp_all [AI.beq]
    exact ih _ h.2

/-- What is taken to be so of the named numbers. -/
structure Facts where
  val : List (AI × Int)
  cmp : List (BinOp × AI × AI × Bool)

structure Facts.Hold (F : Facts) (ν : Nat → Int) : Prop where
  val : ∀ p ∈ F.val, p.1.val ν = p.2
  cmp : ∀ p ∈ F.cmp, compare p.1 (p.2.1.val ν) (p.2.2.1.val ν) = p.2.2.2

def findVal : List (AI × Int) → AI → AI
  | [], x => x
  | p :: r, x => if p.1.beq x then .c p.2 else findVal r x

theorem findVal_val {ν : Nat → Int} (x : AI) : ∀ l : List (AI × Int), (∀ p ∈ l, p.1.val ν = p.2) → (findVal l x).val ν = x.val ν := by
  intro l
  induction l with
  | nil => intro _; rfl
  | cons p r ih =>
    intro h
    simp only [findVal]
    split
    · rename_i hb
      have := AI.beq_eq _ _ hb
      subst this
      exact (h p (by simp)).symm
    · exact ih fun q hq => h q (by simp [hq])

def findCmp : List (BinOp × AI × AI × Bool) → BinOp → AI → AI → Option Bool
  | [], _, _, _ => none
  | p :: r, o, x, y => if (p.1 == o) && p.2.1.beq x && p.2.2.1.beq y then some p.2.2.2 else findCmp r o x y

theorem findCmp_val {ν : Nat → Int} (o : BinOp) (x y : AI) (t : Bool) : ∀ l : List (BinOp × AI × AI × Bool), (∀ p ∈ l, compare p.1 (p.2.1.val ν) (p.2.2.1.val ν) = p.2.2.2) →
    findCmp l o x y = some t → compare o (x.val ν) (y.val ν) = t := by
  intro l
  induction l with
  | nil => intro _ h; simp [findCmp] at h
  | cons p r ih =>
    intro h hf
    simp only [findCmp] at hf
    split at hf
    · rename_i hb
      simp only [Bool.and_eq_true, beq_iff_eq] at hb
      have h1 := AI.beq_eq _ _ hb.1.2
      have h2 := AI.beq_eq _ _ hb.2
      rw [← h1, ← h2, ← hb.1.1, h p (by simp)]
      exact Option.some.inj hf
    · exact ih (fun q hq => h q (by simp [hq])) hf

def mkE (F : Facts) (op : BinOp) (k : IntKind) (x y : AI) : AI :=
  match x, y with
  | .c a, .c b => .c (arith op k a b)
  | x, y => findVal F.val (.e op k x y)

theorem mkE_val {F : Facts} {ν : Nat → Int} (h : F.Hold ν) (op : BinOp) (k : IntKind) (x y : AI) : (mkE F op k x y).val ν = arith op k (x.val ν) (y.val ν) := by
  unfold mkE
  split
  · rfl
  · exact findVal_val _ _ h.val

def mkW (F : Facts) (k : IntKind) (x : AI) : AI :=
  match x with
  | .c a => .c (k.wrap a)
  | x => findVal F.val (.w k x)

theorem mkW_val {F : Facts} {ν : Nat → Int} (h : F.Hold ν) (k : IntKind) (x : AI) : (mkW F k x).val ν = k.wrap (x.val ν) := by
  unfold mkW
  split
  · rfl
  · exact findVal_val _ _ h.val

def cmpI (F : Facts) (op : BinOp) (x y : AI) : Option Bool :=
  match x, y with
  | .c a, .c b => some (compare op a b)
  | x, y => findCmp F.cmp op x y

theorem cmpI_val {F : Facts} {ν : Nat → Int} (h : F.Hold ν) (op : BinOp) (x y : AI) (t : Bool) (hc : cmpI F op x y = some t) : compare op (x.val ν) (y.val ν) = t := by
  unfold cmpI at hc
  split at hc
  · exact Option.some.inj hc
  · exact findCmp_val _ _ _ _ _ h.cmp hc

/-- What is known of a slice's capacity: it; that all of it is its own, so many cells an element; nothing. -/
inductive Cap where
  | ex (n : Nat)
  | own (z : Nat)
  | any

/-- Values: 'u' is whatever it is. -/
inductive AV where
  | u
  | b (x : Bool)
  | i (k : IntKind) (n : AI)
  | str (s : ByteArray)
  | bs (l : List Nat)
  | p (blk off : Nat)
  | np
  | sl (blk off : Nat) (len : AI) (cap : Cap)
  | nsl
  | sle (z : Bool)
  | fn (f : Nat) (caps : List AV)
  | nfn
  | ifc (t : Nat) (v : AV)
  | nif
  | nmp
  | mp (blk : Nat)
  | ag (cells : List AV)
  | tp (vs : List AV)

/-- Where a block lies: a block of the world, the place in it, how many cells that one has. -/
structure Pl where
  cb : Nat
  co : Nat
  tot : Nat

/-- So many of the first abstract blocks are the program's package-level variables. -/
def gmax : Nat := 64

structure Emb where
  f : Nat → Option Pl
  glob : ∀ g, g < gmax → ∃ tot, f g = some ⟨g, 0, tot⟩

instance : CoeFun Emb (fun _ => Nat → Option Pl) := ⟨Emb.f⟩

def CapOk (cap : Cap) (pl : Pl) (off c : Nat) : Prop :=
  match cap with
  | .ex x => x = c
  | .own z => pl.co + off + c * z ≤ pl.tot
  | .any => True

def Emb.le (ρ ρ' : Emb) : Prop := ∀ b x, ρ b = some x → ρ' b = some x

theorem Emb.le_refl (ρ : Emb) : Emb.le ρ ρ := fun _ _ h => h
theorem Emb.le_trans {a b c : Emb} (h : Emb.le a b) (k : Emb.le b c) : Emb.le a c := fun x y e => k x y (h x y e)

/-- A string of known bytes. -/
def bytesOf (l : List Nat) : ByteArray := ⟨(l.map UInt8.ofNat).toArray⟩

inductive VR (ν : Nat → Int) (ρ : Emb) : AV → Value → Prop
  | u (v : Value) : VR ν ρ .u v
  | b (x : Bool) : VR ν ρ (.b x) (.bool x)
  | i (k : IntKind) (n : AI) : VR ν ρ (.i k n) (.int k (n.val ν))
  | str (s : ByteArray) : VR ν ρ (.str s) (.string s)
  | bs (l : List Nat) (h : ∀ x ∈ l, x < 256) : VR ν ρ (.bs l) (.string (bytesOf l))
  | p (blk off : Nat) (pl : Pl) (h : ρ blk = some pl) : VR ν ρ (.p blk off) (.pointer (some ⟨pl.cb, pl.co + off, none⟩))
  | np : VR ν ρ .np (.pointer none)
  | sl (blk off : Nat) (len : AI) (cap : Cap) (pl : Pl) (n c : Nat) (h : ρ blk = some pl) (hn : len.val ν = n) (hc : CapOk cap pl off c) (hl : n ≤ c) :
      VR ν ρ (.sl blk off len cap) (.slice (some ⟨pl.cb, pl.co + off, none⟩) n c)
  | nsl : VR ν ρ .nsl (.slice none 0 0)
  | sle (z : Bool) (a : Addr) (c : Nat) (h : z = true → c = 0) : VR ν ρ (.sle z) (.slice (some a) 0 c)
  | fn (f : Nat) (caps : List AV) (vs : Array Value) (hs : caps.length = vs.size) (h : ∀ (j : Nat) (x : AV) (v : Value), caps[j]? = some x → vs[j]? = some v → VR ν ρ x v) :
      VR ν ρ (.fn f caps) (.func (.func f) #[] vs)
  | nfn : VR ν ρ .nfn .nilFunc
  | ifc (t : Nat) (x : AV) (v : Value) (h : VR ν ρ x v) : VR ν ρ (.ifc t x) (.iface t v)
  | nif : VR ν ρ .nif .nilIface
  | nmp : VR ν ρ .nmp (.map none)
  | mp (blk : Nat) (pl : Pl) (h : ρ blk = some pl) : VR ν ρ (.mp blk) (.map (some pl.cb))
  | ag (cs : List AV) (vs : Array Value) (hs : cs.length = vs.size) (h : ∀ (j : Nat) (x : AV) (v : Value), cs[j]? = some x → vs[j]? = some v → VR ν ρ x v) : VR ν ρ (.ag cs) (.agg vs)
  | tp (cs : List AV) (vs : Array Value) (hs : cs.length = vs.size) (h : ∀ (j : Nat) (x : AV) (v : Value), cs[j]? = some x → vs[j]? = some v → VR ν ρ x v) : VR ν ρ (.tp cs) (.tuple vs)

/-- Many at once. -/
def LR (ν : Nat → Int) (ρ : Emb) (cs : List AV) (vs : Array Value) : Prop :=
  cs.length = vs.size ∧ ∀ (j : Nat) (x : AV) (v : Value), cs[j]? = some x → vs[j]? = some v → VR ν ρ x v

theorem VR.mono {ν : Nat → Int} {ρ ρ' : Emb} (hρ : Emb.le ρ ρ') {x : AV} {v : Value} (h : VR ν ρ x v) : VR ν ρ' x v := by
  induction h with
  | u v => exact .u v
  | b x => exact .b x
  | i k n => exact .i k n
  | str s => exact .str s
  | bs l h => exact .bs l h
  | p blk off pl h => exact .p blk off pl (hρ _ _ h)
  | np => exact .np
  | sl blk off len cap pl n c h hn hc hl => exact .sl blk off len cap pl n c (hρ _ _ h) hn hc hl
  | nsl => exact .nsl
  | sle z a c h => exact .sle z a c h
  | fn f caps vs hs h ih => exact .fn f caps vs hs ih
  | nfn => exact .nfn
  | ifc t x v h ih => exact .ifc t x v ih
  | nif => exact .nif
  | nmp => exact .nmp
  | mp blk pl h => exact .mp blk pl (hρ _ _ h)
  | ag cs vs hs h ih => exact .ag cs vs hs ih
  | tp cs vs hs h ih => exact .tp cs vs hs ih

theorem LR.mono {ν : Nat → Int} {ρ ρ' : Emb} (hρ : Emb.le ρ ρ') {cs : List AV} {vs : Array Value} (h : LR ν ρ cs vs) : LR ν ρ' cs vs :=
  ⟨h.1, fun j x v hx hv => (h.2 j x v hx hv).mono hρ⟩

/-- A block of the abstract heap. -/
structure ABlk where
  cells : List AV
  elem : Nat
  own : Bool

def ABlk.shut (x : ABlk) : ABlk := { x with own := false }

def hidden : List (Nat × Nat) → Nat → Bool
  | [], _ => false
  | p :: r, b => (Nat.ble p.1 b && Nat.blt b p.2) || hidden r b

/-- The abstract heap: its blocks, the next one's number; what lies below 'low' is but read, and what is hidden is not even that. -/
structure AH where
  tr : Tr ABlk
  next : Nat
  low : Nat
  hid : List (Nat × Nat)

def AH.get (H : AH) (b : Nat) : Option ABlk :=
  if hidden H.hid b then none else if Nat.blt b H.low then (H.tr.get b).map ABlk.shut else if Nat.blt b H.next then H.tr.get b else none

def depth : Nat := 24
def room : Nat := 16777214

def AH.alloc (H : AH) (x : ABlk) : Option (Nat × AH) :=
  if Nat.blt H.next room && Nat.ble H.low H.next && !(hidden H.hid H.next) then some (H.next, { H with tr := Tr.put depth H.tr H.next (some x), next := H.next + 1 }) else none

/-- An own block is laid anew ('none': it is no more). -/
def AH.lay (H : AH) (b : Nat) (x : Option ABlk) : Option AH :=
  match H.get b with
  | some y => if y.own && Nat.blt b room then some { H with tr := Tr.put depth H.tr b x } else none
  | none => none

/-- What no run turns: the bounds, and what lies below 'low'. -/
structure Keeps (H H' : AH) : Prop where
  low : H'.low = H.low
  hid : H'.hid = H.hid
  next : H.next ≤ H'.next
  old : ∀ b, b < H.low → H'.tr.get b = H.tr.get b
  le : H.low ≤ H.next → H'.low ≤ H'.next

theorem Keeps.refl (H : AH) : Keeps H H := ⟨rfl, rfl, Nat.le_refl _, fun _ _ => rfl, fun h => h⟩
theorem Keeps.trans {A B C : AH} (h : Keeps A B) (k : Keeps B C) : Keeps A C :=
  ⟨k.low.trans h.low, k.hid.trans h.hid, Nat.le_trans h.next k.next, fun b hb => (k.old b (by rw [h.low]; exact hb)).trans (h.old b hb), fun x => k.le (h.le x)⟩

theorem AH.get_own {H : AH} {b : Nat} {y : ABlk} (h : H.get b = some y) (ho : y.own = true) : H.low ≤ b ∧ b < H.next ∧ H.tr.get b = some y ∧ hidden H.hid b = false := by
  unfold AH.get at h
  split at h
  · cases h
  · rename_i hh
    by_cases hb : Nat.blt b H.low = true
    · rw [if_pos hb] at h
      cases hx : H.tr.get b with
      | none => rw [hx] at h; cases h
      | some z => rw [hx] at h; simp [ABlk.shut] at h; subst h; cases ho
    · rw [if_neg hb] at h
      split at h
      · rename_i hn
        refine ⟨?_, by simpa [Nat.blt_eq] using hn, h, by simpa using hh⟩
        have : ¬ b < H.low := fun hh => hb (by simpa [Nat.blt_eq] using hh)
        omega
      · cases h

theorem AH.alloc_spec {H : AH} {x : ABlk} {b : Nat} {H' : AH} (h : H.alloc x = some (b, H')) :
    b = H.next ∧ H'.next = H.next + 1 ∧ H'.low = H.low ∧ H'.hid = H.hid ∧ H.low ≤ H.next ∧ (∀ j, H'.tr.get j = if j = b then some x else H.tr.get j) ∧ hidden H.hid H.next = false := by
  unfold AH.alloc at h
  split at h
  · rename_i hr
    simp only [Bool.and_eq_true, Nat.blt_eq, Nat.ble_eq] at hr
    simp only [Option.some.injEq, Prod.mk.injEq] at h
    obtain ⟨rfl, rfl⟩ := h
    refine ⟨rfl, rfl, rfl, rfl, hr.1.2, fun j => ?_, by simpa using hr.2⟩
    refine Tr.get_put _ _ _ _ _ ?_
    have := hr.1.1
    unfold room at this
    show H.next + 1 < 2 ^ 24
    omega
  · cases h

theorem AH.alloc_get {H : AH} {x : ABlk} {b : Nat} {H' : AH} (h : H.alloc x = some (b, H')) (j : Nat) : H'.get j = if j = b then some x else H.get j := by
  obtain ⟨h1, h2, h3, h4, h5, h6, h7⟩ := H.alloc_spec h
  unfold AH.get
  rw [h3, h4, h2, h6 j]
  by_cases e : j = b
  · subst e
    have a1 : Nat.blt j H.low = false := by rw [Bool.eq_false_iff]; simp; omega
    have a2 : Nat.blt j (H.next + 1) = true := by simp; omega
    rw [← h1] at h7
    simp [a1, a2, h7]
  · simp only [e, if_false]
    by_cases a1 : Nat.blt j H.low = true
    · simp [a1]
    · by_cases a2 : Nat.blt j H.next = true
      · have a3 : Nat.blt j (H.next + 1) = true := by simp at a2 ⊢; omega
        simp [a1, a2, a3]
      · have a3 : ¬ Nat.blt j (H.next + 1) = true := by simp at a2 ⊢; omega
        simp [a1, a2, a3]

theorem AH.alloc_keeps {H : AH} {x : ABlk} {b : Nat} {H' : AH} (h : H.alloc x = some (b, H')) : Keeps H H' := by
  obtain ⟨h1, h2, h3, h4, h5, h6, _⟩ := H.alloc_spec h
  refine ⟨h3, h4, by omega, fun j hj => ?_, fun _ => by omega⟩
  rw [h6 j, if_neg (by omega)]

theorem AH.lay_spec {H : AH} {b : Nat} {x : Option ABlk} {H' : AH} (h : H.lay b x = some H') :
    ∃ y, H.get b = some y ∧ y.own = true ∧ H'.next = H.next ∧ H'.low = H.low ∧ H'.hid = H.hid ∧ (∀ j, H'.tr.get j = if j = b then x else H.tr.get j) := by
  unfold AH.lay at h
  cases hy : H.get b with
  | none => rw [hy] at h; cases h
  | some y =>
    rw [hy] at h
    simp only at h
    split at h
    · rename_i hr
      simp only [Bool.and_eq_true, Nat.blt_eq] at hr
      simp only [Option.some.injEq] at h
      subst h
      refine ⟨y, rfl, hr.1, rfl, rfl, rfl, fun j => ?_⟩
      refine Tr.get_put _ _ _ _ _ ?_
      have := hr.2
      unfold room at this
      show b + 1 < 2 ^ 24
      omega
    · cases h

theorem AH.lay_get {H : AH} {b : Nat} {x : Option ABlk} {H' : AH} (h : H.lay b x = some H') (j : Nat) : H'.get j = if j = b then x else H.get j := by
  obtain ⟨y, hy, ho, h2, h3, h4, h6⟩ := H.lay_spec h
  obtain ⟨a1, a2, a3, a6⟩ := H.get_own hy ho
  unfold AH.get
  rw [h3, h4, h2, h6 j]
  by_cases e : j = b
  · subst e
    have a4 : Nat.blt j H.low = false := by rw [Bool.eq_false_iff]; simp; omega
    have a5 : Nat.blt j H.next = true := by simp; omega
    simp [a4, a5, a6]
  · simp only [e, if_false]

theorem AH.lay_keeps {H : AH} {b : Nat} {x : Option ABlk} {H' : AH} (h : H.lay b x = some H') : Keeps H H' := by
  obtain ⟨y, hy, ho, h2, h3, h4, h6⟩ := H.lay_spec h
  obtain ⟨a1, a2, a3, _⟩ := H.get_own hy ho
  refine ⟨h3, h4, by omega, fun j hj => ?_, fun _ => by omega⟩
  rw [h6 j, if_neg (by omega)]

/-- A block that is so marked is a map: its cells are keys and what is at them, in turn. -/
def mapTag : Nat := 1152921504606846976

/-- What it says of a map's entries. -/
def MapR (ν : Nat → Int) (ρ : Emb) : List AV → List MapEntry → Prop
  | [], [] => True
  | a :: v :: r, e :: s => VR ν ρ a e.key ∧ VR ν ρ v e.val ∧ MapR ν ρ r s
  | _, _ => False

theorem MapR.mono {ν : Nat → Int} {ρ ρ' : Emb} (hρ : Emb.le ρ ρ') : ∀ {cs : List AV} {es : List MapEntry}, MapR ν ρ cs es → MapR ν ρ' cs es
  | [], [], _ => trivial
  | _ :: _ :: _, _ :: _, h => ⟨h.1.mono hρ, h.2.1.mono hρ, MapR.mono hρ h.2.2⟩
  | [], _ :: _, h => h.elim
  | [_], [], h => h.elim
  | [_], _ :: _, h => h.elim
  | _ :: _ :: _, [], h => h.elim

/-- What a block says of the world's block where it lies. -/
structure BR (ν : Nat → Int) (ρ : Emb) (w : World) (x : ABlk) (pl : Pl) : Prop where
  cells : x.elem ≠ mapTag → ∃ (C : Array Value) (e : TypeId) (fz : Nat × Nat), w.heap[pl.cb]? = some (.cells C e fz) ∧
    (∀ (j : Nat) (c : AV), x.cells[j]? = some c → ∃ v, C[pl.co + j]? = some v ∧ VR ν ρ c v) ∧
    (x.own = true → fz = (0, 0) ∧ C.size = pl.tot)
  map : x.elem = mapTag → ∃ (es : Array MapEntry) (clock : Nat), w.heap[pl.cb]? = some (.map es clock) ∧ MapR ν ρ x.cells es.toList

theorem BR.lt {ν : Nat → Int} {ρ : Emb} {w : World} {x : ABlk} {pl : Pl} (h : BR ν ρ w x pl) : pl.cb < w.heap.size := by
  by_cases e : x.elem = mapTag
  · obtain ⟨es, clock, h1, _⟩ := h.map e
    exact (Array.getElem?_eq_some_iff.1 h1).1
  · obtain ⟨C, t, fz, h1, _⟩ := h.cells e
    exact (Array.getElem?_eq_some_iff.1 h1).1

theorem BR.keep {ν : Nat → Int} {ρ ρ' : Emb} {w w' : World} {x : ABlk} {pl : Pl} (h : BR ν ρ w x pl) (hρ : Emb.le ρ ρ') (hw : w'.heap[pl.cb]? = w.heap[pl.cb]?) : BR ν ρ' w' x pl := by
  refine ⟨fun e => ?_, fun e => ?_⟩
  · obtain ⟨C, t, fz, h1, h2, h3⟩ := h.cells e
    exact ⟨C, t, fz, by rw [hw]; exact h1, fun j c hc => (let ⟨v, a, b⟩ := h2 j c hc; ⟨v, a, b.mono hρ⟩), h3⟩
  · obtain ⟨es, clock, h1, h2⟩ := h.map e
    exact ⟨es, clock, by rw [hw]; exact h1, h2.mono hρ⟩

def Owned (ρ : Emb) (H : AH) (cb : Nat) : Prop := ∃ b x pl, H.get b = some x ∧ x.own = true ∧ ρ b = some pl ∧ pl.cb = cb

structure HR (ν : Nat → Int) (ρ : Emb) (H : AH) (w : World) : Prop where
  blk : ∀ b x, H.get b = some x → ∃ pl, ρ b = some pl ∧ BR ν ρ w x pl
  apart : ∀ b b' x x' pl pl', b ≠ b' → H.get b = some x → H.get b' = some x' → x.own = true → ρ b = some pl → ρ b' = some pl' → pl.cb ≠ pl'.cb

/-- A run's doings, as seen from outside. -/
structure Stp (ρ : Emb) (H : AH) (w : World) (ρ' : Emb) (H' : AH) (w' : World) : Prop where
  ext : Emb.le ρ ρ'
  fresh : ∀ b, ρ b = none → ρ' b ≠ none → H.next ≤ b ∧ b < H'.next
  size : w.heap.size ≤ w'.heap.size
  os : w'.os = w.os
  tape : w'.tape = w.tape
  output : w'.output = w.output
  frame : ∀ cb, cb < w.heap.size → ¬ Owned ρ H cb → w'.heap[cb]? = w.heap[cb]?
  owned : ∀ cb, cb < w.heap.size → Owned ρ' H' cb → Owned ρ H cb
  place : ∀ b pl, ρ b = none → ρ' b = some pl → w.heap.size ≤ pl.cb ∨ Owned ρ H pl.cb

theorem Stp.refl (ρ : Emb) (H : AH) (w : World) : Stp ρ H w ρ H w :=
  ⟨Emb.le_refl ρ, fun _ h k => (k h).elim, Nat.le_refl _, rfl, rfl, rfl, fun _ _ _ => rfl, fun _ _ h => h, fun _ _ h k => by rw [h] at k; cases k⟩

theorem Stp.trans {ρ ρ' ρ'' : Emb} {H H' H'' : AH} {w w' w'' : World} (h : Stp ρ H w ρ' H' w') (k : Stp ρ' H' w' ρ'' H'' w'') (n1 : H.next ≤ H'.next) (n2 : H'.next ≤ H''.next) : Stp ρ H w ρ'' H'' w'' := by
  refine ⟨Emb.le_trans h.ext k.ext, fun b hb hb' => ?_, Nat.le_trans h.size k.size, k.os.trans h.os, k.tape.trans h.tape, k.output.trans h.output, fun cb hc ho => ?_, fun cb hc ho => ?_, fun b pl hb hb' => ?_⟩
  · cases e : ρ' b with
    | none => have := k.fresh b e hb'; omega
    | some x => have := h.fresh b hb (by rw [e]; simp); omega
  · rw [k.frame cb (Nat.lt_of_lt_of_le hc h.size) (fun x => ho (h.owned cb hc x)), h.frame cb hc ho]
  · exact h.owned cb hc (k.owned cb (Nat.lt_of_lt_of_le hc h.size) ho)
  · cases e : ρ' b with
    | none =>
      rcases k.place b pl e hb' with h1 | h1
      · exact .inl (Nat.le_trans h.size h1)
      · rcases Nat.lt_or_ge pl.cb w.heap.size with h2 | h2
        · exact .inr (h.owned _ h2 h1)
        · exact .inl h2
    | some q =>
      have := k.ext _ _ e
      rw [hb'] at this
      cases this
      exact h.place b pl hb e

/-- The world drew something. -/
theorem Stp.drawn (ρ : Emb) (H : AH) (w : World) (n : Nat) : Stp ρ H w ρ H { w with drawn := n } :=
  ⟨Emb.le_refl ρ, fun _ h k => (k h).elim, Nat.le_refl _, rfl, rfl, rfl, fun _ _ _ => rfl, fun _ _ h => h, fun _ _ h k => by rw [h] at k; cases k⟩

theorem HR.drawn {ν : Nat → Int} {ρ : Emb} {H : AH} {w : World} (h : HR ν ρ H w) (n : Nat) : HR ν ρ H { w with drawn := n } :=
  ⟨fun b x hx => let ⟨pl, h1, h2⟩ := h.blk b x hx; ⟨pl, h1, ⟨h2.cells, h2.map⟩⟩, h.apart⟩

/-- Environments. -/
def ER (ν : Nat → Int) (ρ : Emb) (e : Tr AV) (t : Array Value) : Prop := ∀ j x, e.get j = some x → VR ν ρ x (t.getD j undef)

theorem ER.mono {ν : Nat → Int} {ρ ρ' : Emb} (hρ : Emb.le ρ ρ') {e : Tr AV} {t : Array Value} (h : ER ν ρ e t) : ER ν ρ' e t := fun j x hx => (h j x hx).mono hρ

end Go.Sh
