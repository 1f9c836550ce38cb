/-
  THE LADDER's ROUNDS in the field: what they make of 0, 1 and -1; worked out. Own work.
-/
import Derived.Test.YtnlhpiieihnbiaaDoorSh8
namespace Go.Sh
set_option maxRecDepth 100000

/-! The ladder's rounds. -/

structure L4 where
  x2 : F
  z2 : F
  x3 : F
  z3 : F

def fstep (u : F) (s : L4) : L4 where
  x2 := ((s.x2 + s.z2) * (s.x2 + s.z2)) * ((s.x2 - s.z2) * (s.x2 - s.z2))
  z2 := ((s.x2 + s.z2) * (s.x2 + s.z2) - (s.x2 - s.z2) * (s.x2 - s.z2)) * ((s.x2 + s.z2) * (s.x2 + s.z2) + 121665 * ((s.x2 + s.z2) * (s.x2 + s.z2) - (s.x2 - s.z2) * (s.x2 - s.z2)))
  x3 := ((s.x3 - s.z3) * (s.x2 + s.z2) + (s.x3 + s.z3) * (s.x2 - s.z2)) * ((s.x3 - s.z3) * (s.x2 + s.z2) + (s.x3 + s.z3) * (s.x2 - s.z2))
  z3 := u * (((s.x3 - s.z3) * (s.x2 + s.z2) - (s.x3 + s.z3) * (s.x2 - s.z2)) * ((s.x3 - s.z3) * (s.x2 + s.z2) - (s.x3 + s.z3) * (s.x2 - s.z2)))
def fsw (b : Bool) (s : L4) : L4 := if b then ⟨s.x3, s.z3, s.x2, s.z2⟩ else s
def frnd (u : F) (s : L4) (b : Bool) : L4 := fsw b (fstep u (fsw b s))
/-- So many rounds of the key k's bits, from bit 254 on. -/
def flad (u : F) (k : Nat) : Nat → L4
  | 0 => ⟨1, 0, u, 1⟩
  | m + 1 => frnd u (flad u k m) (k.testBit (254 - m))
def fout (s : L4) : F := s.x2 * inv s.z2
/-- What the ladder makes. -/
def lad (k : Nat) (u : F) : F := fout (flad u k 255)

/-! On 0, and on 1 and -1. -/

theorem lad0_step {s : L4} (h2 : s.x2 * s.z2 = 0) : (fstep 0 s).x2 * (fstep 0 s).z2 = 0 ∧ (fstep 0 s).x3 * (fstep 0 s).z3 = 0 := by
  obtain ⟨a, b, c, d⟩ := s
  simp only at h2
  constructor
  · show ((a + b) * (a + b)) * ((a - b) * (a - b)) * (((a + b) * (a + b) - (a - b) * (a - b)) * ((a + b) * (a + b) + 121665 * ((a + b) * (a + b) - (a - b) * (a - b)))) = 0
    have k : (a + b) * (a + b) - (a - b) * (a - b) = 0 := by grobner
    rw [k]
    clear k h2
    grobner
  · show _ * ((0 : F) * _) = 0
    grobner
theorem lad0 (k : Nat) : ∀ m, (flad 0 k m).x2 * (flad 0 k m).z2 = 0 ∧ (flad 0 k m).x3 * (flad 0 k m).z3 = 0
  | 0 => by
    show (1 : F) * 0 = 0 ∧ (0 : F) * 1 = 0
    exact ⟨by grobner, by grobner⟩
  | m + 1 => by
    obtain ⟨h2, h3⟩ := lad0 k m
    show (frnd 0 (flad 0 k m) (k.testBit (254 - m))).x2 * (frnd 0 (flad 0 k m) (k.testBit (254 - m))).z2 = 0 ∧ (frnd 0 (flad 0 k m) (k.testBit (254 - m))).x3 * (frnd 0 (flad 0 k m) (k.testBit (254 - m))).z3 = 0
    generalize flad 0 k m = s at *
    cases k.testBit (254 - m)
    · exact lad0_step h2
    · exact (lad0_step (s := fsw true s) h3).symm

def cls (u : F) (c : Nat) (s : L4) : Prop :=
  (c = 0 → s.z2 = 0 ∧ s.x3 = u * s.z3) ∧ (c = 1 → s.x2 = u * s.z2 ∧ s.x3 = 0) ∧ (c = 2 → s.x2 = 0 ∧ s.x3 = u * s.z3) ∧ (c = 3 → s.x2 = u * s.z2 ∧ s.z3 = 0)

theorem st0 {u a b c d : F} (_ : u * u = 1) (h1 : b = 0) (h2 : c = u * d) : (fstep u ⟨a, b, c, d⟩).z2 = 0 ∧ (fstep u ⟨a, b, c, d⟩).x3 = u * (fstep u ⟨a, b, c, d⟩).z3 := by
  subst h1 h2
  constructor <;> (simp only [fstep]; grobner)
theorem st1 {u a b c d : F} (hu : u * u = 1) (h1 : a = u * b) (h2 : c = 0) : (fstep u ⟨a, b, c, d⟩).x2 = 0 ∧ (fstep u ⟨a, b, c, d⟩).x3 = u * (fstep u ⟨a, b, c, d⟩).z3 := by
  subst h1 h2
  constructor <;> (simp only [fstep]; grobner)
theorem st2 {u a b c d : F} (hu : u * u = 1) (h1 : a = 0) (h2 : c = u * d) : (fstep u ⟨a, b, c, d⟩).z2 = 0 ∧ (fstep u ⟨a, b, c, d⟩).x3 = u * (fstep u ⟨a, b, c, d⟩).z3 := by
  subst h1 h2
  constructor <;> (simp only [fstep]; grobner)
theorem st3 {u a b c d : F} (hu : u * u = 1) (h1 : a = u * b) (h2 : d = 0) : (fstep u ⟨a, b, c, d⟩).x2 = 0 ∧ (fstep u ⟨a, b, c, d⟩).x3 = u * (fstep u ⟨a, b, c, d⟩).z3 := by
  subst h1 h2
  constructor <;> (simp only [fstep]; grobner)

theorem bit_next (k m : Nat) (hm : m < 255) : k / 2 ^ (255 - (m + 1)) = 2 * (k / 2 ^ (255 - m)) + (k.testBit (254 - m)).toNat := by
  have e : 255 - m = 254 - m + 1 := by omega
  rw [e, Nat.pow_succ, ← Nat.div_div_eq_div_mul, show 255 - (m + 1) = 254 - m by omega, Nat.testBit_eq_decide_div_mod_eq]
  generalize k / 2 ^ (254 - m) = q
  by_cases h : q % 2 = 1
  · rw [decide_eq_true h]
    show q = 2 * (q / 2) + 1
    omega
  · rw [decide_eq_false h]
    show q = 2 * (q / 2) + 0
    omega

theorem lad1 {u : F} (hu : u * u = 1) {k : Nat} (hk : k < 2 ^ 255) : ∀ m, m ≤ 255 → cls u (k / 2 ^ (255 - m) % 4) (flad u k m)
  | 0, _ => by
    have : k / 2 ^ (255 - 0) = 0 := Nat.div_eq_of_lt hk
    rw [this]
    refine ⟨fun _ => ⟨rfl, ?_⟩, fun h => absurd h (by decide), fun h => absurd h (by decide), fun h => absurd h (by decide)⟩
    show u = u * 1
    grobner
  | m + 1, hm => by
    obtain ⟨c0, c1, c2, c3⟩ := lad1 hu hk m (by omega)
    rw [bit_next k m (by omega)]
    generalize k / 2 ^ (255 - m) = n at *
    show cls u _ (frnd u (flad u k m) (k.testBit (254 - m)))
    have h4 : n % 4 < 4 := Nat.mod_lt _ (by decide)
    cases k.testBit (254 - m)
    · have e : (2 * n + false.toNat) % 4 = 2 * (n % 4) % 4 := by
        show (2 * n + 0) % 4 = _
        omega
      rw [e]
      show cls u _ (fstep u (flad u k m))
      generalize flad u k m = s at *
      obtain ⟨a, b, c, d⟩ := s
      rcases (by omega : n % 4 = 0 ∨ n % 4 = 1 ∨ n % 4 = 2 ∨ n % 4 = 3) with h | h | h | h <;> rw [h]
      · exact ⟨fun _ => st0 hu (c0 h).1 (c0 h).2, fun h => absurd h (by decide), fun h => absurd h (by decide), fun h => absurd h (by decide)⟩
      · exact ⟨fun h => absurd h (by decide), fun h => absurd h (by decide), fun _ => st1 hu (c1 h).1 (c1 h).2, fun h => absurd h (by decide)⟩
      · exact ⟨fun _ => st2 hu (c2 h).1 (c2 h).2, fun h => absurd h (by decide), fun h => absurd h (by decide), fun h => absurd h (by decide)⟩
      · exact ⟨fun h => absurd h (by decide), fun h => absurd h (by decide), fun _ => st3 hu (c3 h).1 (c3 h).2, fun h => absurd h (by decide)⟩
    · have e : (2 * n + true.toNat) % 4 = (2 * (n % 4) + 1) % 4 := by
        show (2 * n + 1) % 4 = _
        omega
      rw [e]
      generalize flad u k m = s at *
      obtain ⟨a, b, c, d⟩ := s
      show cls u _ ⟨(fstep u ⟨c, d, a, b⟩).x3, (fstep u ⟨c, d, a, b⟩).z3, (fstep u ⟨c, d, a, b⟩).x2, (fstep u ⟨c, d, a, b⟩).z2⟩
      rcases (by omega : n % 4 = 0 ∨ n % 4 = 1 ∨ n % 4 = 2 ∨ n % 4 = 3) with h | h | h | h <;> rw [h]
      · refine ⟨fun h => absurd h (by decide), fun _ => ?_, fun h => absurd h (by decide), fun h => absurd h (by decide)⟩
        obtain ⟨g1, g2⟩ := c0 h
        simp only at g1 g2
        subst g1 g2
        constructor <;> (simp only [fstep]; grobner)
      · refine ⟨fun h => absurd h (by decide), fun h => absurd h (by decide), fun h => absurd h (by decide), fun _ => ?_⟩
        obtain ⟨g1, g2⟩ := c1 h
        simp only at g1 g2
        subst g1 g2
        constructor <;> (simp only [fstep]; grobner)
      · refine ⟨fun h => absurd h (by decide), fun _ => ?_, fun h => absurd h (by decide), fun h => absurd h (by decide)⟩
        obtain ⟨g1, g2⟩ := c2 h
        simp only at g1 g2
        subst g1 g2
        constructor <;> (simp only [fstep]; grobner)
      · refine ⟨fun h => absurd h (by decide), fun h => absurd h (by decide), fun h => absurd h (by decide), fun _ => ?_⟩
        obtain ⟨g1, g2⟩ := c3 h
        simp only at g1 g2
        subst g1 g2
        constructor <;> (simp only [fstep]; grobner)

theorem out_zero {a b c d : F} (h : a * b = 0) : fout ⟨a, b, c, d⟩ = 0 := by
  show a * inv b = 0
  rcases fz h with h | h
  · rw [h]; grobner
  · rw [h, inv_zero']; grobner

/-- On these places the ladder makes nothing. -/
theorem lad_zero (k : Nat) : lad k 0 = 0 := by
  unfold lad
  have h := (lad0 k 255).1
  generalize flad 0 k 255 = s at *
  exact out_zero h
theorem lad_one {u : F} (hu : u * u = 1) {k : Nat} (hk : k < 2 ^ 255) (h4 : k % 4 = 0) : lad k u = 0 := by
  unfold lad
  have h := (lad1 hu hk 255 (Nat.le_refl _)).1 (by simpa using h4)
  generalize flad u k 255 = s at *
  obtain ⟨a, b, c, d⟩ := s
  refine out_zero ?_
  rw [show b = 0 from h.1]
  grobner

/-! The rounds, worked out. -/

noncomputable def force {α : Type} (n : Nat) (k : Nat → α) : α := Nat.rec (k 0) (fun m _ => k (m + 1)) n
theorem force_eq {α : Type} (n : Nat) (k : Nat → α) : force n k = k n := by cases n <;> rfl

def nadd (x y : Nat) : Nat := (x + y) % prime
def nsub (x y : Nat) : Nat := (x + (prime - y)) % prime
def nmul (x y : Nat) : Nat := x * y % prime
theorem nadd_val (x y : F) : nadd x.val y.val = (x + y).val := rfl
theorem nmul_val (x y : F) : nmul x.val y.val = (x * y).val := rfl
theorem nsub_val (x y : F) : nsub x.val y.val = (x - y).val := by
  show (x.val + (prime - y.val)) % prime = (prime - y.val + x.val) % prime
  rw [Nat.add_comm]

noncomputable def nst {α : Type} (u x2 z2 x3 z3 : Nat) (k : Nat → Nat → Nat → Nat → α) : α :=
  force (nadd x2 z2) fun a => force (nsub x2 z2) fun b => force (nadd x3 z3) fun c => force (nsub x3 z3) fun d =>
  force (nmul a a) fun aa => force (nmul b b) fun bb => force (nsub aa bb) fun e => force (nmul d a) fun da => force (nmul c b) fun cb =>
  force (nadd da cb) fun s => force (nsub da cb) fun m => force (nmul s s) fun x3' => force (nmul u (nmul m m)) fun z3' =>
  force (nmul aa bb) fun x2' => force (nmul e (nadd aa (nmul 121665 e))) fun z2' => k x2' z2' x3' z3'
theorem nst_eq {α : Type} (u : F) (s : L4) (k : Nat → Nat → Nat → Nat → α) : nst u.val s.x2.val s.z2.val s.x3.val s.z3.val k = k (fstep u s).x2.val (fstep u s).z2.val (fstep u s).x3.val (fstep u s).z3.val := by
  simp only [nst, force_eq, nadd_val, nsub_val, nmul_val, show (121665 : Nat) = (121665 : F).val from rfl]
  rfl
noncomputable def nrun (u : Nat) (f : Nat → Nat → Nat → Nat → Bool) (l : List Bool) : Nat → Nat → Nat → Nat → Bool :=
  @List.rec Bool (fun _ => Nat → Nat → Nat → Nat → Bool) f (fun b _ ih x2 z2 x3 z3 => @Bool.rec (fun _ => Bool) (nst u x2 z2 x3 z3 ih) (nst u x3 z3 x2 z2 fun a b c d => ih c d a b) b) l
theorem nrun_eq (u : F) (f : Nat → Nat → Nat → Nat → Bool) : ∀ (l : List Bool) (s : L4), nrun u.val f l s.x2.val s.z2.val s.x3.val s.z3.val = f (l.foldl (frnd u) s).x2.val (l.foldl (frnd u) s).z2.val (l.foldl (frnd u) s).x3.val (l.foldl (frnd u) s).z3.val
  | [], s => rfl
  | false :: r, s => by
    show nst u.val s.x2.val s.z2.val s.x3.val s.z3.val (nrun u.val f r) = _
    rw [nst_eq]
    exact nrun_eq u f r (frnd u s false)
  | true :: r, s => by
    show nst u.val s.x3.val s.z3.val s.x2.val s.z2.val (fun a b c d => nrun u.val f r c d a b) = _
    rw [nst_eq u ⟨s.x3, s.z3, s.x2, s.z2⟩]
    exact nrun_eq u f r (frnd u s true)

def bitsOf (k m : Nat) : List Bool := (List.range m).map fun i => k.testBit (254 - i)
theorem flad_bits (u : F) (k : Nat) : ∀ m, flad u k m = (bitsOf k m).foldl (frnd u) ⟨1, 0, u, 1⟩
  | 0 => rfl
  | m + 1 => by
    unfold bitsOf
    rw [List.range_succ, List.map_append, List.foldl_append]
    show frnd u (flad u k m) _ = _
    rw [flad_bits u k m]
    rfl
/-- What holds of the ladder's end, worked out. -/
theorem flad_run (u : Nat) (hu : u < prime) (k : Nat) (l : List Bool) (hl : bitsOf k 255 = l) (f : Nat → Nat → Nat → Nat → Bool) (h : nrun u f l 1 0 u 1 = true) : f (flad (em u) k 255).x2.val (flad (em u) k 255).z2.val (flad (em u) k 255).x3.val (flad (em u) k 255).z3.val = true := by
  rw [flad_bits, hl]
  refine (nrun_eq (em u) f l ⟨1, 0, em u, 1⟩).symm.trans ?_
  have e : (em u).val = u := Nat.mod_eq_of_lt hu
  show nrun (em u).val f l 1 0 (em u).val 1 = true
  rw [e]
  exact h

theorem lad_run {u k w : Nat} (hu : u < prime) (hw : w < prime) (l : List Bool) (hl : bitsOf k 255 = l) (h : nrun u (fun x2 z2 _ _ => Nat.beq (nmul w z2) x2 && !Nat.beq z2 0) l 1 0 u 1 = true) : lad k (em u) = em w := by
  have h1 := flad_run u hu k l hl _ h
  simp only [Bool.and_eq_true, Bool.not_eq_true', Nat.beq_eq] at h1
  obtain ⟨h2, h3⟩ := h1
  unfold lad fout
  generalize flad (em u) k 255 = s at *
  have e : (em w).val = w := Nat.mod_eq_of_lt hw
  have hz : s.z2 ≠ 0 := fun h0 => by
    rw [h0] at h3
    cases h3
  refine quot_eq hz (Fin.ext ?_)
  rw [← nmul_val, e]
  exact (Nat.eq_of_beq_eq_true (by simpa using h2)).symm

end Go.Sh
