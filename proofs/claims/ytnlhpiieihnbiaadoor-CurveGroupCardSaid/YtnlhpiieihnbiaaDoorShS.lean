/-
  THE SHADOW MACHINE, MADE QUICK for the kernel: the same by plain recursors. Own work.
-/
import Derived.Test.YtnlhpiieihnbiaaDoorShR
namespace Go.Sh

/-- One of two. -/
noncomputable def br {R : Type} (b : Bool) (x y : R) : R := @Bool.rec (fun _ => R) y x b
theorem br_t {R : Type} (x y : R) : br true x y = x := rfl
theorem br_f {R : Type} (x y : R) : br false x y = y := rfl
theorem br_if {R : Type} (b : Bool) (x y : R) : br b x y = if b = true then x else y := by cases b <;> rfl

theorem beq0 {i : Nat} (h : ¬ i = 0) : Nat.beq i 0 = false := by rw [Bool.eq_false_iff]; intro h'; exact h (Nat.eq_of_beq_eq_true h')
theorem beq1 {i : Nat} (h : i % 2 = 1) : Nat.beq (Nat.mod i 2) 1 = true := by show Nat.beq (i % 2) 1 = true; rw [h]; rfl
theorem beq1n {i : Nat} (h : ¬ i % 2 = 1) : Nat.beq (Nat.mod i 2) 1 = false := by rw [Bool.eq_false_iff]; intro h'; exact h (Nat.eq_of_beq_eq_true h')

section
variable {α : Type}

noncomputable def getN (a : Nat → Option α) (v : Option α) (b : Nat → Option α) (i : Nat) : Option α :=
  br (Nat.beq i 0) v (br (Nat.beq (Nat.mod i 2) 1) (a (Nat.div i 2)) (b (Nat.pred (Nat.div i 2))))

noncomputable def getF (t : Tr α) : Nat → Option α :=
  @Tr.rec α (fun _ => Nat → Option α) (fun _ => none) (fun _ v _ a b => getN a v b) t

theorem getF_eq (t : Tr α) : ∀ i, getF t i = t.get i := by
  induction t with
  | l => intro i; rfl
  | n a v b iha ihb =>
    intro i
    have e : getF (.n a v b) i = br (Nat.beq i 0) v (br (Nat.beq (Nat.mod i 2) 1) (getF a (Nat.div i 2)) (getF b (Nat.pred (Nat.div i 2)))) := rfl
    rw [e, iha, ihb]
    simp only [Tr.get]
    by_cases h0 : i = 0
    · subst h0; rfl
    · rw [if_neg h0, beq0 h0, br_f]
      by_cases h1 : i % 2 = 1
      · rw [if_pos h1, beq1 h1, br_t]; rfl
      · rw [if_neg h1, beq1n h1, br_f]; rfl

noncomputable def putZ (x : Option α) (ih : Nat → Tr α) (i : Nat) : Tr α :=
  br (Nat.beq i 0) (.n .l x .l) (br (Nat.beq (Nat.mod i 2) 1) (.n (ih (Nat.div i 2)) none .l) (.n .l none (ih (Nat.pred (Nat.div i 2)))))

noncomputable def putF0 (x : Option α) (f : Nat) : Nat → Tr α :=
  @Nat.rec (fun _ => Nat → Tr α) (fun _ => .l) (fun _ ih => putZ x ih) f

noncomputable def putN (x : Option α) (a : Tr α) (v : Option α) (b : Tr α) (pa pb : Nat → Tr α) (i : Nat) : Tr α :=
  br (Nat.beq i 0) (.n a x b) (br (Nat.beq (Nat.mod i 2) 1) (.n (pa (Nat.div i 2)) v b) (.n a v (pb (Nat.pred (Nat.div i 2)))))

noncomputable def putF (t : Tr α) (x : Option α) : Nat → Tr α :=
  @Tr.rec α (fun _ => Nat → Tr α) (putF0 x 24) (fun a v b pa pb => putN x a v b pa pb) t

theorem putF0_eq (x : Option α) : ∀ (f g i : Nat), i + 1 < 2 ^ f → i + 1 < 2 ^ g → putF0 x g i = Tr.put f .l i x := by
  intro f
  induction f with
  | zero => intro g i h; simp at h
  | succ f ih =>
    intro g i h hg
    cases g with
    | zero => simp at hg
    | succ g =>
      have p1 : 2 ^ (f + 1) = 2 * 2 ^ f := by rw [Nat.pow_succ]; omega
      have p2 : 2 ^ (g + 1) = 2 * 2 ^ g := by rw [Nat.pow_succ]; omega
      have e : putF0 x (g + 1) i = br (Nat.beq i 0) (.n .l x .l) (br (Nat.beq (Nat.mod i 2) 1) (.n (putF0 x g (i / 2)) none .l) (.n .l none (putF0 x g (i / 2 - 1)))) := rfl
      rw [e]
      simp only [Tr.put]
      by_cases h0 : i = 0
      · subst h0; rfl
      · rw [if_neg h0, beq0 h0, br_f]
        by_cases h1 : i % 2 = 1
        · rw [if_pos h1, beq1 h1, br_t, ih g (i / 2) (by omega) (by omega)]
        · rw [if_neg h1, beq1n h1, br_f, ih g (i / 2 - 1) (by omega) (by omega)]

theorem putF_eq (x : Option α) (t : Tr α) : ∀ (f i : Nat), f ≤ 24 → i + 1 < 2 ^ f → putF t x i = Tr.put f t i x := by
  induction t with
  | l =>
    intro f i hf h
    refine putF0_eq x f 24 i h ?_
    exact Nat.lt_of_lt_of_le h (Nat.pow_le_pow_right (by omega) hf)
  | n a v b iha ihb =>
    intro f i hf h
    cases f with
    | zero => simp at h
    | succ f =>
      have p1 : 2 ^ (f + 1) = 2 * 2 ^ f := by rw [Nat.pow_succ]; omega
      have e : putF (.n a v b) x i = br (Nat.beq i 0) (.n a x b) (br (Nat.beq (Nat.mod i 2) 1) (.n (putF a x (i / 2)) v b) (.n a v (putF b x (i / 2 - 1)))) := rfl
      rw [e]
      simp only [Tr.put]
      by_cases h0 : i = 0
      · subst h0; rfl
      · rw [if_neg h0, beq0 h0, br_f]
        by_cases h1 : i % 2 = 1
        · rw [if_pos h1, beq1 h1, br_t, iha f (i / 2) (by omega) (by omega)]
        · rw [if_neg h1, beq1n h1, br_f, ihb f (i / 2 - 1) (by omega) (by omega)]

end

/-! Numbers. -/

noncomputable def wrapU (W : Nat) (n : Int) : Int := @Int.rec (fun _ => Int) (fun m => .ofNat (Nat.mod m W)) (fun m => .ofNat (Nat.sub (Nat.pred W) (Nat.mod m W))) n
noncomputable def wrapS (W h : Nat) (n : Int) : Int :=
  @Int.rec (fun _ => Int) (fun m => br (Nat.blt (Nat.mod m W) h) (.ofNat (Nat.mod m W)) (.negSucc (Nat.sub (Nat.pred W) (Nat.mod m W))))
    (fun m => br (Nat.blt (Nat.mod m W) h) (.negSucc (Nat.mod m W)) (.ofNat (Nat.sub (Nat.pred W) (Nat.mod m W)))) n

noncomputable def wrapF (k : IntKind) (n : Int) : Int :=
  @IntKind.rec (fun _ => Int) (wrapS 256 128 n) (wrapS 65536 32768 n) (wrapS 4294967296 2147483648 n) (wrapS 18446744073709551616 9223372036854775808 n)
    (wrapU 256 n) (wrapU 65536 n) (wrapU 4294967296 n) (wrapU 18446744073709551616 n) k

theorem wrapU_eq (W : Nat) (hW : 0 < W) (n : Int) : wrapU W n = n % (W : Int) := by
  cases n with
  | ofNat m => rfl
  | negSucc m =>
    show Int.ofNat (W - 1 - m % W) = _
    rw [Int.negSucc_emod m (by omega)]
    have := Nat.mod_lt m hW
    have e : (m : Int) % (W : Int) = ((m % W : Nat) : Int) := rfl
    show ((W - 1 - m % W : Nat) : Int) = _
    omega

theorem wrapS_eq (W h : Nat) (hW : W = 2 * h) (hh : 0 < h) (n : Int) : wrapS W h n = if n % (W : Int) ≥ (h : Int) then n % (W : Int) - W else n % (W : Int) := by
  have hW0 : 0 < W := by omega
  cases n with
  | ofNat m =>
    have hm := Nat.mod_lt m hW0
    show br (Nat.blt (m % W) h) (Int.ofNat (m % W)) (Int.negSucc (W - 1 - m % W)) = _
    have e : (Int.ofNat m) % (W : Int) = ((m % W : Nat) : Int) := rfl
    rw [e]
    by_cases hl : m % W < h
    · have : Nat.blt (m % W) h = true := by simpa using hl
      rw [this, if_neg (by omega)]
      rfl
    · have : Nat.blt (m % W) h = false := by rw [Bool.eq_false_iff]; simpa using hl
      rw [this, if_pos (by omega)]
      show Int.negSucc (W - 1 - m % W) = _
      rw [Int.negSucc_eq]
      omega
  | negSucc m =>
    have hm := Nat.mod_lt m hW0
    show br (Nat.blt (m % W) h) (Int.negSucc (m % W)) (Int.ofNat (W - 1 - m % W)) = _
    rw [Int.negSucc_emod m (by omega)]
    have e : (m : Int) % (W : Int) = ((m % W : Nat) : Int) := rfl
    rw [e]
    by_cases hl : m % W < h
    · have : Nat.blt (m % W) h = true := by simpa using hl
      rw [this, if_pos (by omega)]
      show Int.negSucc (m % W) = _
      rw [Int.negSucc_eq]
      omega
    · have : Nat.blt (m % W) h = false := by rw [Bool.eq_false_iff]; simpa using hl
      rw [this, if_neg (by omega)]
      show ((W - 1 - m % W : Nat) : Int) = _
      omega

theorem wrapF_eq (k : IntKind) (n : Int) : wrapF k n = k.wrap n := by
  cases k
  · show wrapS 256 128 n = _
    rw [wrapS_eq 256 128 rfl (by omega)]
    simp [IntKind.wrap, IntKind.signed, IntKind.bits]
  · show wrapS 65536 32768 n = _
    rw [wrapS_eq 65536 32768 rfl (by omega)]
    simp [IntKind.wrap, IntKind.signed, IntKind.bits]
  · show wrapS 4294967296 2147483648 n = _
    rw [wrapS_eq 4294967296 2147483648 rfl (by omega)]
    simp [IntKind.wrap, IntKind.signed, IntKind.bits]
  · show wrapS 18446744073709551616 9223372036854775808 n = _
    rw [wrapS_eq 18446744073709551616 9223372036854775808 rfl (by omega)]
    simp [IntKind.wrap, IntKind.signed, IntKind.bits]
  · show wrapU 256 n = _
    rw [wrapU_eq 256 (by omega)]
    simp [IntKind.wrap, IntKind.signed, IntKind.bits]
  · show wrapU 65536 n = _
    rw [wrapU_eq 65536 (by omega)]
    simp [IntKind.wrap, IntKind.signed, IntKind.bits]
  · show wrapU 4294967296 n = _
    rw [wrapU_eq 4294967296 (by omega)]
    simp [IntKind.wrap, IntKind.signed, IntKind.bits]
  · show wrapU 18446744073709551616 n = _
    rw [wrapU_eq 18446744073709551616 (by omega)]
    simp [IntKind.wrap, IntKind.signed, IntKind.bits]

noncomputable def eqF (a b : Int) : Bool := @Int.rec (fun _ => Bool) (fun m => @Int.rec (fun _ => Bool) (fun n => Nat.beq m n) (fun _ => false) b) (fun m => @Int.rec (fun _ => Bool) (fun _ => false) (fun n => Nat.beq m n) b) a
noncomputable def ltF (a b : Int) : Bool := @Int.rec (fun _ => Bool) (fun m => @Int.rec (fun _ => Bool) (fun n => Nat.blt m n) (fun _ => false) b) (fun m => @Int.rec (fun _ => Bool) (fun _ => true) (fun n => Nat.blt n m) b) a

theorem eqF_eq (a b : Int) : eqF a b = (a == b) := by
  have key : eqF a b = true ↔ a = b := by
    cases a with
    | ofNat m =>
      cases b with
      | ofNat n => show Nat.beq m n = true ↔ _; rw [Nat.beq_eq]; constructor; (intro h; rw [h]); (intro h; exact Int.ofNat.inj h)
      | negSucc n => show false = true ↔ _; constructor; (intro h; cases h); (intro h; cases h)
    | negSucc m =>
      cases b with
      | ofNat n => show false = true ↔ _; constructor; (intro h; cases h); (intro h; cases h)
      | negSucc n => show Nat.beq m n = true ↔ _; rw [Nat.beq_eq]; constructor; (intro h; rw [h]); (intro h; exact Int.negSucc.inj h)
  rw [Bool.eq_iff_iff, key]
  simp

theorem ltF_eq (a b : Int) : ltF a b = decide (a < b) := by
  have key : ltF a b = true ↔ a < b := by
    cases a with
    | ofNat m =>
      cases b with
      | ofNat n => show Nat.blt m n = true ↔ (m : Int) < (n : Int); rw [Nat.blt_eq]; omega
      | negSucc n => show false = true ↔ (m : Int) < Int.negSucc n; rw [Int.negSucc_eq]; constructor; (intro h; cases h); (intro h; omega)
    | negSucc m =>
      cases b with
      | ofNat n => show true = true ↔ Int.negSucc m < (n : Int); rw [Int.negSucc_eq]; constructor; (intro _; omega); (intro _; rfl)
      | negSucc n => show Nat.blt n m = true ↔ Int.negSucc m < Int.negSucc n; rw [Int.negSucc_eq, Int.negSucc_eq, Nat.blt_eq]; omega
  rw [Bool.eq_iff_iff, key]
  simp

end Go.Sh
