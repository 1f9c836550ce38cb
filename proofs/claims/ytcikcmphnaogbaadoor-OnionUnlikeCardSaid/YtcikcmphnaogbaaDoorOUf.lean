/-
  OnionUnlike: its facts hold; the law. Own work.
-/
import Derived.Test.YtcikcmphnaogbaaDoorOUb
import Derived.Test.YtcikcmphnaogbaaDoorOUc
import Derived.Test.YtcikcmphnaogbaaDoorOUd
import Derived.Test.YtcikcmphnaogbaaDoorOUe



import Derived.Test.YtcikcmphnaogbaaDoorCards
import Derived.Test.YtcikcmphnaogbaaDoorTie
import Derived.LaidMore
import Derived.LaidSub
import Derived.LaidHandle
import Derived.OpenShut
import Derived.Stop.Joined
import Derived.MakeChecks
namespace Go.Proofs.YtcikcmphnaogbaaDoor
open Go.Sh
open Go.ChangeShapes Go.WideShapes Go.ChangeAt Go.RowKit
set_option maxRecDepth 100000

theorem own : ownKnob Tryd.prog.godebug = none := by kernel_rfl
theorem laidO {W : World} (_h : laidMetH Tryd.prog [("errors.errorType", Rows.laid_errors_errorType)] W) : Laid [] W := fun p hp => by cases hp
theorem glO_ok : GlOk [] := fun p hp => by cases hp
theorem wk_ok : PureG Tryd.prog [] 19 [] (.bool true) := pureG_of (ν := fun _ => 0) (args := []) (noF_hold _) mixed tab_ok glO_ok (fun r hr => by cases hr) (fun r hr => by cases hr) wk_says rfl rfl
theorem wk_row (ν : Nat → Int) : ∀ r ∈ [wkR], r.OkG ν Tryd.prog [] := by
  intro r hr
  simp only [List.mem_cons, List.not_mem_nil, or_false] at hr
  subst hr
  exact ⟨_, _, rfl, rfl, wk_ok⟩

/-! bytes that differ -/
theorem byte_nn (x : Int) : 0 ≤ arith .xor .u8 x 0 ∨ True := .inr trivial
theorem or8_zero {a b : Int} (ha : 0 ≤ a ∧ a < 256) (hb : 0 ≤ b ∧ b < 256) (h : arith .or .u8 a b = 0) : a = 0 ∧ b = 0 := by
  obtain ⟨x, rfl⟩ := Int.eq_ofNat_of_zero_le ha.1
  obtain ⟨y, rfl⟩ := Int.eq_ofNat_of_zero_le hb.1
  rw [a_or8 x y (by omega) (by omega)] at h
  have h1 : x ||| y = 0 := by omega
  have h2 := @Nat.left_le_or x y
  have h3 := @Nat.right_le_or x y
  omega
theorem xor8_zero {a b : Int} (ha : 0 ≤ a ∧ a < 256) (hb : 0 ≤ b ∧ b < 256) (h : arith .xor .u8 a b = 0) : a = b := by
  obtain ⟨x, rfl⟩ := Int.eq_ofNat_of_zero_le ha.1
  obtain ⟨y, rfl⟩ := Int.eq_ofNat_of_zero_le hb.1
  rw [a_xor8 x y (by omega) (by omega)] at h
  have h1 : x ^^^ y = 0 := by omega
  rw [xor_same x y h1]
theorem arith8_in (op : BinOp) (a b : Int) (h : op = .or ∨ op = .xor) : 0 ≤ arith op .u8 a b ∧ arith op .u8 a b < 256 := by
  have key : ∀ n : Int, 0 ≤ IntKind.u8.wrap n ∧ IntKind.u8.wrap n < 256 := fun n => by
    simp only [IntKind.wrap, IntKind.bits, IntKind.signed]
    simp
    omega
  rcases h with rfl | rfl
  · exact key _
  · exact key _
theorem joint_in {ν : Nat → Int} : ∀ (a b : List AI), 0 ≤ (jointS a b).val ν ∧ (jointS a b).val ν < 256
  | [], _ => by constructor <;> (show _ ; simp [jointS, AI.val])
  | _ :: _, [] => by constructor <;> (show _ ; simp [jointS, AI.val])
  | x :: r, y :: s => arith8_in .or _ _ (.inl rfl)
def isB (ν : Nat → Int) (x : AI) : Prop := 0 ≤ x.val ν ∧ x.val ν < 256
/-- Its bytes are the same. -/
theorem joint_same {ν : Nat → Int} : ∀ (a b : List AI), a.length = b.length → (∀ x ∈ a, isB ν x) → (∀ x ∈ b, isB ν x) → (jointS a b).val ν = 0 → a.map (AI.val ν) = b.map (AI.val ν)
  | [], [], _, _, _, _ => rfl
  | [], _ :: _, h, _, _, _ => by cases h
  | _ :: _, [], h, _, _, _ => by cases h
  | x :: r, y :: s, hl, ha, hb, h => by
    obtain ⟨h1, h2⟩ := or8_zero (arith8_in .xor _ _ (.inr rfl)) (joint_in r s) h
    rw [List.map_cons, List.map_cons, xor8_zero (ha x (by simp)) (hb y (by simp)) h1, joint_same r s (by simpa using hl) (fun z hz => ha z (by simp [hz])) (fun z hz => hb z (by simp [hz])) h2]
theorem w8_in (ν : Nat → Int) (x : AI) : isB ν (.w .u8 x) := by
  show 0 ≤ IntKind.u8.wrap _ ∧ IntKind.u8.wrap _ < 256
  simp only [IntKind.wrap, IntKind.bits, IntKind.signed]
  simp
  omega
theorem c_in (ν : Nat → Int) {n : Nat} (h : n < 256) : isB ν (nC n) := ⟨Int.natCast_nonneg _, Int.ofNat_lt.2 h⟩
def byt (a i : Nat) : Nat := a / 2 ^ (8 * i) % 256
theorem by8_val {ν : Nat → Int} {s a : Nat} (h : ν s = (a : Int)) : (by8 (.s s)).map (AI.val ν) = (List.range 8).map fun i => ((byt a i : Nat) : Int) := by
  unfold by8
  rw [List.map_map]
  refine List.map_congr_left fun i hi => ?_
  have hi8 : i < 8 := by simpa using hi
  show IntKind.u8.wrap ((ν s).fdiv (2 ^ (min ((8 * i : Nat) : Int).toNat 64))) = _
  have e : min ((8 * i : Nat) : Int).toNat 64 = 8 * i := by
    rw [Int.toNat_natCast]
    omega
  rw [e, h]
  have e2 : ((a : Nat) : Int).fdiv (2 ^ (8 * i)) = ((a / 2 ^ (8 * i) : Nat) : Int) := by
    rw [Int.fdiv_eq_ediv_of_nonneg _ (by exact Int.pow_nonneg (by decide))]
    norm_cast
  rw [e2]
  simp only [IntKind.wrap, IntKind.bits, IntKind.signed, byt]
  simp
theorem byt_inj {a b : Nat} (ha : a < 9223372036854775808) (hb : b < 9223372036854775808) (h : ∀ i, i < 8 → byt a i = byt b i) : a = b := by
  have h0 := h 0 (by omega)
  have h1 := h 1 (by omega)
  have h2 := h 2 (by omega)
  have h3 := h 3 (by omega)
  have h4 := h 4 (by omega)
  have h5 := h 5 (by omega)
  have h6 := h 6 (by omega)
  have h7 := h 7 (by omega)
  simp only [byt, Nat.mul_zero, Nat.pow_zero, Nat.div_one, Nat.reduceMul, Nat.reducePow] at h0 h1 h2 h3 h4 h5 h6 h7
  omega
theorem keyS_in (ν : Nat → Int) (k s : Nat) (hk : k < 256) : ∀ x ∈ keyS k s, isB ν x := by
  intro x hx
  rcases List.mem_cons.1 hx with rfl | hx
  · exact c_in ν hk
  · obtain ⟨i, _, rfl⟩ := List.mem_map.1 hx
    exact w8_in ν _
theorem keyC_in (ν : Nat → Int) (k c : Nat) (hk : k < 256) (hc : c < 256) : ∀ x ∈ keyC k c, isB ν x := by
  intro x hx
  simp only [keyC, List.mem_cons, List.mem_replicate] at hx
  rcases hx with rfl | rfl | ⟨_, rfl⟩
  · exact c_in ν hk
  · exact c_in ν hc
  · exact c_in ν (by omega)
theorem bytes_at {f g : Nat → Nat} (h : (List.range 8).map (fun i => ((f i : Nat) : Int)) = (List.range 8).map fun i => ((g i : Nat) : Int)) : ∀ i, i < 8 → f i = g i := by
  intro i hi
  have h1 := congrArg (fun l => l[i]?) h
  simp only [List.getElem?_map, List.getElem?_range hi, Option.map_some, Option.some.injEq] at h1
  exact Int.ofNat.inj h1
theorem neSS {ν : Nat → Int} {k s t a b : Nat} (hk : k < 256) (hs : ν s = (a : Int)) (ht : ν t = (b : Int)) (ha : a < 9223372036854775808) (hb : b < 9223372036854775808) (hne : a ≠ b) : compare .neq ((jointS (keyS k s) (keyS k t)).val ν) ((nC 0).val ν) = true := by
  show ((jointS (keyS k s) (keyS k t)).val ν != 0) = true
  rw [bne_iff_ne]
  intro h
  have h1 := joint_same _ _ (by simp [keyS, by8]) (keyS_in ν k s hk) (keyS_in ν k t hk) h
  simp only [keyS, List.map_cons, List.cons.injEq, by8_val hs, by8_val ht] at h1
  exact hne (byt_inj ha hb (bytes_at h1.2))
theorem neSC {ν : Nat → Int} {k s a c : Nat} (hk : k < 256) (hc : c < 256) (hs : ν s = (a : Int)) (ha : a < 9223372036854775808) (hne : a ≠ c) : compare .neq ((jointS (keyS k s) (keyC k c)).val ν) ((nC 0).val ν) = true := by
  show ((jointS (keyS k s) (keyC k c)).val ν != 0) = true
  rw [bne_iff_ne]
  intro h
  have h1 := joint_same _ _ (by simp [keyS, keyC, by8]) (keyS_in ν k s hk) (keyC_in ν k c hk hc) h
  simp only [keyS, List.map_cons, List.cons.injEq, by8_val hs] at h1
  have h2 : (nC c :: List.replicate 7 (nC 0)).map (AI.val ν) = (List.range 8).map fun i => ((byt c i : Nat) : Int) := by
    have e : ∀ i, byt c i = if i = 0 then c else 0 := by
      intro i
      unfold byt
      by_cases h0 : i = 0
      · subst h0; simp; omega
      · rw [if_neg h0, Nat.div_eq_of_lt]
        have : 2 ^ 8 ≤ 2 ^ (8 * i) := Nat.pow_le_pow_right (by decide) (by omega)
        omega
    simp only [e]
    rfl
  have h3 : (List.range 8).map (fun i => ((byt a i : Nat) : Int)) = (nC c :: List.replicate 7 (nC 0)).map (AI.val ν) := (List.cons.inj h1).2
  rw [h2] at h3
  exact hne (byt_inj ha (by omega) (bytes_at h3))

/-! the facts hold -/
def nu4 (a b x y : Nat) : Nat → Int := fun k => if k = 0 then (a : Int) else if k = 1 then (b : Int) else if k = 2 then (x : Int) else (y : Int)
theorem fU_hold {a b x y : Nat} (ha : a < 9223372036854775808) (hb : b < 9223372036854775808) (hx : x < 9223372036854775808) (hy : y < 9223372036854775808) (hab : a ≠ b) (hxy : x ≠ y)
    (a1 : a ≠ 1) (a2 : a ≠ 2) (a3 : a ≠ 3) (b1 : b ≠ 1) (b2 : b ≠ 2) (b3 : b ≠ 3) : fU.Hold (nu4 a b x y) := by
  refine ⟨wide_val _, fun p hp => ?_⟩
  have h0 : nu4 a b x y 0 = (a : Int) := rfl
  have h1 : nu4 a b x y 1 = (b : Int) := rfl
  have h2 : nu4 a b x y 2 = (x : Int) := rfl
  have h3 : nu4 a b x y 3 = (y : Int) := rfl
  simp only [fU, List.mem_append, List.mem_cons, List.not_mem_nil, or_false, List.map_cons, List.map_nil, show List.range 4 = [0, 1, 2, 3] from rfl] at hp
  rcases hp with ((((hp | hp) | hp) | hp) | hp) | hp
  · rcases hp with hp | hp
    · rcases hp with rfl | rfl | rfl | rfl
      · exact decide_eq_false (show ¬ nu4 a b x y 0 < 0 by omega)
      · exact decide_eq_false (show ¬ nu4 a b x y 1 < 0 by omega)
      · exact decide_eq_false (show ¬ nu4 a b x y 2 < 0 by omega)
      · exact decide_eq_false (show ¬ nu4 a b x y 3 < 0 by omega)
    · rcases hp with rfl | rfl | rfl | rfl
      · exact beq_self_eq_true _
      · exact beq_self_eq_true _
      · exact beq_eq_false_iff_ne.2 (show nu4 a b x y 0 ≠ nu4 a b x y 1 by omega)
      · exact beq_eq_false_iff_ne.2 (show nu4 a b x y 2 ≠ nu4 a b x y 3 by omega)
  · rcases hp with rfl | rfl | rfl
    · exact beq_eq_false_iff_ne.2 (show nu4 a b x y 0 ≠ ((1 : Nat) : Int) by omega)
    · exact beq_eq_false_iff_ne.2 (show nu4 a b x y 0 ≠ ((2 : Nat) : Int) by omega)
    · exact beq_eq_false_iff_ne.2 (show nu4 a b x y 0 ≠ ((3 : Nat) : Int) by omega)
  · rcases hp with rfl | rfl | rfl
    · exact beq_eq_false_iff_ne.2 (show ((1 : Nat) : Int) ≠ nu4 a b x y 1 by omega)
    · exact beq_eq_false_iff_ne.2 (show ((2 : Nat) : Int) ≠ nu4 a b x y 1 by omega)
    · exact beq_eq_false_iff_ne.2 (show ((3 : Nat) : Int) ≠ nu4 a b x y 1 by omega)
  · rcases hp with rfl | rfl | rfl
    · exact neSC (by decide) (by decide) h0 ha a1
    · exact neSC (by decide) (by decide) h0 ha a2
    · exact neSC (by decide) (by decide) h0 ha a3
  · rcases hp with rfl | rfl | rfl
    · exact neSC (by decide) (by decide) h1 hb b1
    · exact neSC (by decide) (by decide) h1 hb b2
    · exact neSC (by decide) (by decide) h1 hb b3
  · rcases hp with rfl | rfl
    · exact neSS (by decide) h1 h0 hb ha (Ne.symm hab)
    · exact neSS (by decide) h3 h2 hy hx (Ne.symm hxy)

/-! the rows of term.right -/
theorem rgt_ok {ν : Nat → Int} {k s : Nat} (h0 : 0 ≤ ν s) (hr : rgt k false = true ∧ rgt k true = true) : (rowR k s).Ok ν Tryd.prog [] := by
  have key : ∀ g : Bool, decide (ν s > 0) = g → rgt k g = true → RowM.Ok (fun _ => ν s) Tryd.prog [] ⟨35, [iC k, iS 0, .nsl], [], [AV.i .i64 (.c (.ofNat 0))].map .v⟩ := by
    intro g hg hrun
    have hF : (fR g).Hold (fun _ => ν s) := ⟨fun p hp => (by cases hp), fun p hp => by
      simp only [fR, List.mem_cons, List.not_mem_nil, or_false] at hp
      rcases hp with rfl | rfl
      · exact decide_eq_false (show ¬ ν s < 0 by omega)
      · exact hg⟩
    exact rowM_of (us := [.int .i64 0]) hF mixed tab_ok glO_ok (fun r hr => by cases hr) (fun r hr => by cases hr) (fun r hr => by cases hr) hrun (by decide) (fun p hp => by cases hp) rfl rfl rfl
  have hrow : RowM.Ok (fun _ => ν s) Tryd.prog [] ⟨35, [iC k, iS 0, .nsl], [], [AV.i .i64 (.c (.ofNat 0))].map .v⟩ := by
    cases hg : decide (ν s > 0)
    · exact key false hg hr.1
    · exact key true hg hr.2
  refine ⟨hrow.1, fun ρ w vs hw hn hl => ?_⟩
  refine (hrow.2 ρ w vs hw (fun p hp => by cases hp) ⟨hl.1, fun j x v hx hv => ?_⟩).mono fun e w' ⟨us, g1, g2, g3⟩ => ⟨us, g1, ?_, g3⟩
  · match j, hx with
    | 0, hx =>
      cases hx
      have := hl.2 0 _ v rfl hv
      cases this
      exact .i _ _
    | 1, hx =>
      cases hx
      have := hl.2 1 _ v rfl hv
      cases this
      exact .i _ _
    | 2, hx =>
      cases hx
      have := hl.2 2 _ v rfl hv
      cases this
      exact .nsl
    | j + 3, hx => simp at hx
  · match us, g2 with
    | [u], g2 => exact ⟨g2.1, trivial⟩
    | [], g2 => exact g2.elim
    | _ :: _ :: _, g2 => exact g2.2.elim
theorem rows_ok {ν : Nat → Int} (h0 : 0 ≤ ν 0) (h1 : 0 ≤ ν 1) (h2 : 0 ≤ ν 2) (h3 : 0 ≤ ν 3) : ∀ r ∈ rowsR, r.Ok ν Tryd.prog [] := by
  intro r hr
  simp only [rowsR, List.mem_cons, List.not_mem_nil, or_false] at hr
  rcases hr with rfl | rfl | rfl | rfl
  · exact rgt_ok h0 ⟨rgt_1f, rgt_1t⟩
  · exact rgt_ok h1 ⟨rgt_1f, rgt_1t⟩
  · exact rgt_ok h2 ⟨rgt_2f, rgt_2t⟩
  · exact rgt_ok h3 ⟨rgt_2f, rgt_2t⟩

/-! the law -/
theorem pure_row {ν : Nat → Int} {args : List AV} {us : List Value} (h : RowM.Ok ν Tryd.prog [] ⟨5, args, [], [AV.b true].map .v⟩) (ha : concT ν args = some us) : PureG Tryd.prog [] 5 us (.bool true) := by
  refine ⟨h.1, fun w hw => (h.2 (embF fun _ => none) w us.toArray hw (fun p hp => by cases hp) (concT_lr ha).1).mono fun e w' ⟨vs, g1, g2, g3⟩ => ⟨?_, g3⟩⟩
  match vs, g2 with
  | [u], g2 =>
    have := g2.1
    cases this
    exact g1
  | [], g2 => exact g2.elim
  | _ :: _ :: _, g2 => exact g2.2.elim
theorem run_neg {k : Nat} {n m x y : Int} (h : lawNg k = true) (hF : (fNg k).Hold (fun j => if j = 0 then n else if j = 1 then m else if j = 2 then x else y)) : PureG Tryd.prog [] 5 [.int .i64 n, .int .i64 m, .int .i64 x, .int .i64 y] (.bool true) :=
  pure_row (args := [iS 0, iS 1, iS 2, iS 3]) (rowM_of (us := [.bool true]) hF mixed tab_ok glO_ok (fun r hr => by cases hr) (fun r hr => by cases hr) (fun r hr => by cases hr) h (by decide) (fun p hp => by cases hp) rfl rfl rfl) rfl
/-- One of the numbers as the machine has it. -/
def sees (ν : Nat → Int) (x : AV) (n : Nat) : Prop := conc2 ν x = some (.int .i64 (n : Int))
theorem run_u {a b p q : Nat} {A B Y : AV} {n m x y : Nat} (h : lawU A B Y = true) (hF : fU.Hold (nu4 a b p q)) (hA : sees (nu4 a b p q) A n) (hB : sees (nu4 a b p q) B m) (hx : p = x) (hY : sees (nu4 a b p q) Y y) (hin : [A, B, iS 2, Y].all (inB []) = true) :
    PureG Tryd.prog [] 5 [.int .i64 n, .int .i64 m, .int .i64 x, .int .i64 y] (.bool true) := by
  subst hx
  have hX : sees (nu4 a b p q) (iS 2) p := rfl
  refine pure_row (args := [A, B, iS 2, Y]) (rowM_of (us := [.bool true]) hF mixed tab_ok glO_ok (fun r hr => by cases hr) (wk_row _) (rows_ok (Int.natCast_nonneg _) (Int.natCast_nonneg _) (Int.natCast_nonneg _) (Int.natCast_nonneg _)) h (by decide) (fun p hp => by cases hp) hin rfl rfl) ?_
  unfold concT concT concT concT concT
  rw [hA, hB, hX, hY]
theorem case_y {A B : AV} {a b n m x y : Nat} (he : lawU A B (iS 2) = true) (hd : lawU A B (iS 3) = true) (hx : x < 9223372036854775808) (hy : y < 9223372036854775808) (ha : a < 9223372036854775808) (hb : b < 9223372036854775808) (hab : a ≠ b)
    (a1 : a ≠ 1) (a2 : a ≠ 2) (a3 : a ≠ 3) (b1 : b ≠ 1) (b2 : b ≠ 2) (b3 : b ≠ 3) (hA : ∀ p q, sees (nu4 a b p q) A n) (hB : ∀ p q, sees (nu4 a b p q) B m) (hin2 : [A, B, iS 2, iS 2].all (inB []) = true) (hin3 : [A, B, iS 2, iS 3].all (inB []) = true) :
    PureG Tryd.prog [] 5 [.int .i64 n, .int .i64 m, .int .i64 x, .int .i64 y] (.bool true) := by
  by_cases h : x = y
  · subst h
    obtain ⟨z, hz, hz2⟩ : ∃ z, z < 9223372036854775808 ∧ x ≠ z := if e : x = 0 then ⟨1, by decide, by omega⟩ else ⟨0, by decide, e⟩
    exact run_u (q := z) he (fU_hold ha hb hx hz hab hz2 a1 a2 a3 b1 b2 b3) (hA _ _) (hB _ _) rfl rfl hin2
  · exact run_u hd (fU_hold ha hb hx hy hab h a1 a2 a3 b1 b2 b3) (hA _ _) (hB _ _) rfl rfl hin3
theorem law_nat {n m x y : Nat} (hn : n < 9223372036854775808) (hm : m < 9223372036854775808) (hx : x < 9223372036854775808) (hy : y < 9223372036854775808) : PureG Tryd.prog [] 5 [.int .i64 n, .int .i64 m, .int .i64 x, .int .i64 y] (.bool true) := by
  have fresh : ∀ k : Nat, ∃ z, z < 9223372036854775808 ∧ z ≠ k ∧ z ≠ 1 ∧ z ≠ 2 ∧ z ≠ 3 := fun k => if e : k = 4 then ⟨5, by decide, by omega, by decide, by decide, by decide⟩ else ⟨4, by decide, by omega, by decide, by decide, by decide⟩
  by_cases cn : n = 1 ∨ n = 2 ∨ n = 3
  · by_cases cm : m = 1 ∨ m = 2 ∨ m = 3
    · rcases cn with rfl | rfl | rfl <;> rcases cm with rfl | rfl | rfl
      · exact case_y (a := 4) (b := 5) lawU_c1c1e lawU_c1c1d hx hy (by decide) (by decide) (by decide) (by decide) (by decide) (by decide) (by decide) (by decide) (by decide) (fun _ _ => rfl) (fun _ _ => rfl) rfl rfl
      · exact case_y (a := 4) (b := 5) lawU_c1c2e lawU_c1c2d hx hy (by decide) (by decide) (by decide) (by decide) (by decide) (by decide) (by decide) (by decide) (by decide) (fun _ _ => rfl) (fun _ _ => rfl) rfl rfl
      · exact case_y (a := 4) (b := 5) lawU_c1c3e lawU_c1c3d hx hy (by decide) (by decide) (by decide) (by decide) (by decide) (by decide) (by decide) (by decide) (by decide) (fun _ _ => rfl) (fun _ _ => rfl) rfl rfl
      · exact case_y (a := 4) (b := 5) lawU_c2c1e lawU_c2c1d hx hy (by decide) (by decide) (by decide) (by decide) (by decide) (by decide) (by decide) (by decide) (by decide) (fun _ _ => rfl) (fun _ _ => rfl) rfl rfl
      · exact case_y (a := 4) (b := 5) lawU_c2c2e lawU_c2c2d hx hy (by decide) (by decide) (by decide) (by decide) (by decide) (by decide) (by decide) (by decide) (by decide) (fun _ _ => rfl) (fun _ _ => rfl) rfl rfl
      · exact case_y (a := 4) (b := 5) lawU_c2c3e lawU_c2c3d hx hy (by decide) (by decide) (by decide) (by decide) (by decide) (by decide) (by decide) (by decide) (by decide) (fun _ _ => rfl) (fun _ _ => rfl) rfl rfl
      · exact case_y (a := 4) (b := 5) lawU_c3c1e lawU_c3c1d hx hy (by decide) (by decide) (by decide) (by decide) (by decide) (by decide) (by decide) (by decide) (by decide) (fun _ _ => rfl) (fun _ _ => rfl) rfl rfl
      · exact case_y (a := 4) (b := 5) lawU_c3c2e lawU_c3c2d hx hy (by decide) (by decide) (by decide) (by decide) (by decide) (by decide) (by decide) (by decide) (by decide) (fun _ _ => rfl) (fun _ _ => rfl) rfl rfl
      · exact case_y (a := 4) (b := 5) lawU_c3c3e lawU_c3c3d hx hy (by decide) (by decide) (by decide) (by decide) (by decide) (by decide) (by decide) (by decide) (by decide) (fun _ _ => rfl) (fun _ _ => rfl) rfl rfl
    · have m1 : m ≠ 1 := fun e => cm (.inl e)
      have m2 : m ≠ 2 := fun e => cm (.inr (.inl e))
      have m3 : m ≠ 3 := fun e => cm (.inr (.inr e))
      obtain ⟨z, z0, z1, z2, z3, z4⟩ := fresh m
      rcases cn with rfl | rfl | rfl
      · exact case_y (a := z) (b := m) lawU_c1s1e lawU_c1s1d hx hy z0 hm z1 z2 z3 z4 m1 m2 m3 (fun _ _ => rfl) (fun _ _ => rfl) rfl rfl
      · exact case_y (a := z) (b := m) lawU_c2s1e lawU_c2s1d hx hy z0 hm z1 z2 z3 z4 m1 m2 m3 (fun _ _ => rfl) (fun _ _ => rfl) rfl rfl
      · exact case_y (a := z) (b := m) lawU_c3s1e lawU_c3s1d hx hy z0 hm z1 z2 z3 z4 m1 m2 m3 (fun _ _ => rfl) (fun _ _ => rfl) rfl rfl
  · have n1 : n ≠ 1 := fun e => cn (.inl e)
    have n2 : n ≠ 2 := fun e => cn (.inr (.inl e))
    have n3 : n ≠ 3 := fun e => cn (.inr (.inr e))
    obtain ⟨z, z0, z1, z2, z3, z4⟩ := fresh n
    by_cases cm : m = 1 ∨ m = 2 ∨ m = 3
    · rcases cm with rfl | rfl | rfl
      · exact case_y (a := n) (b := z) lawU_s0c1e lawU_s0c1d hx hy hn z0 (Ne.symm z1) n1 n2 n3 z2 z3 z4 (fun _ _ => rfl) (fun _ _ => rfl) rfl rfl
      · exact case_y (a := n) (b := z) lawU_s0c2e lawU_s0c2d hx hy hn z0 (Ne.symm z1) n1 n2 n3 z2 z3 z4 (fun _ _ => rfl) (fun _ _ => rfl) rfl rfl
      · exact case_y (a := n) (b := z) lawU_s0c3e lawU_s0c3d hx hy hn z0 (Ne.symm z1) n1 n2 n3 z2 z3 z4 (fun _ _ => rfl) (fun _ _ => rfl) rfl rfl
    · by_cases e : m = n
      · subst e
        exact case_y (a := m) (b := z) lawU_s0s0e lawU_s0s0d hx hy hn z0 (Ne.symm z1) n1 n2 n3 z2 z3 z4 (fun _ _ => rfl) (fun _ _ => rfl) rfl rfl
      · have m1 : m ≠ 1 := fun e => cm (.inl e)
        have m2 : m ≠ 2 := fun e => cm (.inr (.inl e))
        have m3 : m ≠ 3 := fun e => cm (.inr (.inr e))
        exact case_y (a := n) (b := m) lawU_s0s1e lawU_s0s1d hx hy hn hm (Ne.symm e) n1 n2 n3 m1 m2 m3 (fun _ _ => rfl) (fun _ _ => rfl) rfl rfl
theorem nat_of {n : Int} (h : (Lit.int .i64 n).wf = true) (h0 : 0 ≤ n) : ∃ k : Nat, n = (k : Int) ∧ k < 9223372036854775808 := by
  obtain ⟨k, rfl⟩ := Int.eq_ofNat_of_zero_le h0
  have h2 : IntKind.i64.min ≤ ((k : Nat) : Int) ∧ ((k : Nat) : Int) ≤ IntKind.i64.max := by simpa [Lit.wf] using h
  rw [show IntKind.i64.max = 9223372036854775807 from rfl] at h2
  exact ⟨k, rfl, by omega⟩
theorem onionUnlike_law (n m x y : Int) (wn : (Lit.int .i64 n).wf = true) (wm : (Lit.int .i64 m).wf = true) (wx : (Lit.int .i64 x).wf = true) (wy : (Lit.int .i64 y).wf = true) : PureG Tryd.prog [] 5 [.int .i64 n, .int .i64 m, .int .i64 x, .int .i64 y] (.bool true) := by
  by_cases h0 : n < 0
  · refine run_neg lawNg_0 ⟨fun p hp => (by cases hp), fun p hp => ?_⟩
    simp only [fNg, List.range_zero, List.map_nil, List.nil_append, List.mem_cons, List.not_mem_nil, or_false] at hp
    subst hp
    exact decide_eq_true h0
  by_cases h1 : m < 0
  · refine run_neg lawNg_1 ⟨fun p hp => (by cases hp), fun p hp => ?_⟩
    simp only [fNg, show List.range 1 = [0] from rfl, List.map_cons, List.map_nil, List.mem_append, List.mem_cons, List.not_mem_nil, or_false] at hp
    rcases hp with rfl | rfl
    · exact decide_eq_false h0
    · exact decide_eq_true h1
  by_cases h2 : x < 0
  · refine run_neg lawNg_2 ⟨fun p hp => (by cases hp), fun p hp => ?_⟩
    simp only [fNg, show List.range 2 = [0, 1] from rfl, List.map_cons, List.map_nil, List.mem_append, List.mem_cons, List.not_mem_nil, or_false] at hp
    rcases hp with (rfl | rfl) | rfl
    · exact decide_eq_false h0
    · exact decide_eq_false h1
    · exact decide_eq_true h2
  by_cases h3 : y < 0
  · refine run_neg lawNg_3 ⟨fun p hp => (by cases hp), fun p hp => ?_⟩
    simp only [fNg, show List.range 3 = [0, 1, 2] from rfl, List.map_cons, List.map_nil, List.mem_append, List.mem_cons, List.not_mem_nil, or_false] at hp
    rcases hp with (rfl | rfl | rfl) | rfl
    · exact decide_eq_false h0
    · exact decide_eq_false h1
    · exact decide_eq_false h2
    · exact decide_eq_true h3
  obtain ⟨a, rfl, la⟩ := nat_of wn (by omega)
  obtain ⟨b, rfl, lb⟩ := nat_of wm (by omega)
  obtain ⟨c, rfl, lc⟩ := nat_of wx (by omega)
  obtain ⟨d, rfl, ld⟩ := nat_of wy (by omega)
  exact law_nat la lb lc ld
end Go.Proofs.YtcikcmphnaogbaaDoor
