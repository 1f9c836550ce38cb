/-
  PackForged: its facts and rows hold; the law. Own work.
-/
import Derived.Test.YtggjplfnalolcaaDoorPFb
import Derived.Test.YtggjplfnalolcaaDoorPFc
import Derived.Test.YtggjplfnalolcaaDoorPFd
import Derived.Test.YtggjplfnalolcaaDoorPFe
import Derived.Test.YtggjplfnalolcaaDoorCards
import Derived.Test.YtggjplfnalolcaaDoorTie
import Derived.LaidMore
import Derived.LaidSub
import Derived.LaidHandle
import Derived.OpenShut
import Derived.Stop.Joined
import Derived.MakeChecks
namespace Go.Proofs.YtggjplfnalolcaaDoor
open Go.Sh
open Go.ChangeShapes Go.WideShapes Go.ChangeAt Go.RowKit
set_option maxRecDepth 100000

theorem own : ownKnob Tryd.prog.godebug = none := by kernel_rfl
/-! the variable that errors.As reads -/
theorem et : Tryd.prog.globalNamed "errors.errorType" = some 0 := by kernel_rfl
theorem rt : (Tryd.prog.cutTypes.find? (·.1 == "internal/reflectlite.rtype")).map (·.2) = some 97 := by kernel_rfl
theorem oneRow : ((List.range 139).filter fun t => Tryd.prog.rowNamed t [101, 114, 114, 111, 114]) = [55] := by kernel_rfl
theorem tsize : Tryd.prog.types.size = 139 := by kernel_rfl
theorem glE_ok : GlOk glE := fun p hp => by
  simp only [glE, List.mem_cons, List.not_mem_nil, or_false] at hp
  subst hp
  exact ⟨by decide, by decide, [eTy], fun _ => rfl⟩
theorem laidE {W : World} (h : laidMetH Tryd.prog [("errors.errorType", Rows.laid_errors_errorType)] W) : Laid glE W := by
  have h' : laidMet Tryd.prog [] W ∧ handlesMet Tryd.prog [("errors.errorType", Rows.laid_errors_errorType)] W := h
  obtain ⟨name, u, ty, e1, e2, e3, e4, e5⟩ := h'.2 _ (List.mem_singleton.2 rfl)
  have en : name = [101, 114, 114, 111, 114] := (Option.some.inj e1).symm
  subst en
  obtain rfl := Option.some.inj (rt.symm.trans e2)
  have hm : ty ∈ (List.range 139).filter fun t => Tryd.prog.rowNamed t [101, 114, 114, 111, 114] := List.mem_filter.2 ⟨List.mem_range.2 (by rw [← tsize]; exact e3), e4⟩
  rw [oneRow] at hm
  obtain rfl := List.mem_singleton.1 hm
  have hh : typeHandle Tryd.prog 55 = .pointer (some ⟨1, 55, none⟩) := by kernel_rfl
  rw [hh] at e5
  have hc : W.cell? ⟨0, 0, none⟩ = some eTy := by unfold eTy; simpa using World.var?_cell et e5 0
  intro p hp ν ρ
  simp only [glE, List.mem_cons, List.not_mem_nil, or_false] at hp
  subst hp
  refine br_cells (by simp) (by decide) fun j c hj => ?_
  match j, hj with
  | 0, hj =>
    cases hj
    exact ⟨eTy, hc, .kv _⟩
  | j + 1, hj => simp at hj
theorem wk_says : saysG noF tree [] glE [] 400 40 12 [] (.b true) = true := by kernel_rfl
theorem wk_ok : PureG Tryd.prog glE 12 [] (.bool true) := pureG_of (ν := fun _ => 0) (args := []) (noF_hold _) mixed tab_ok glE_ok (fun r hr => by cases hr) (fun r hr => by cases hr) wk_says rfl rfl
theorem wk_row (ν : Nat → Int) : ∀ r ∈ [wkR], r.OkG ν Tryd.prog glE := by
  intro r hr
  simp only [List.mem_cons, List.not_mem_nil, or_false] at hr
  subst hr
  exact ⟨_, _, rfl, rfl, wk_ok⟩

/-! bytes that differ -/
theorem a_or8 (x y : Nat) (hx : x < 256) (hy : y < 256) : arith .or .u8 (x : Int) (y : Int) = ((x ||| y : Nat) : Int) := by
  have h : (BitVec.ofInt 8 (x : Int) ||| BitVec.ofInt 8 (y : Int)).toNat = x ||| y := by
    rw [BitVec.toNat_or]
    simp only [BitVec.ofInt_natCast, BitVec.toNat_ofNat, Nat.reducePow, Nat.mod_eq_of_lt hx, Nat.mod_eq_of_lt hy]
  have hl : (BitVec.ofInt 8 (x : Int) ||| BitVec.ofInt 8 (y : Int)).toNat < 256 := (BitVec.ofInt 8 (x : Int) ||| BitVec.ofInt 8 (y : Int)).isLt
  show IntKind.u8.wrap ((BitVec.ofInt 8 (x : Int) ||| BitVec.ofInt 8 (y : Int)).toNat : Int) = _
  rw [wrap8, h]
  rw [h] at hl
  omega

theorem a_xor8 (x y : Nat) (hx : x < 256) (hy : y < 256) : arith .xor .u8 (x : Int) (y : Int) = ((x ^^^ y : Nat) : Int) := by
  have h : (BitVec.ofInt 8 (x : Int) ^^^ BitVec.ofInt 8 (y : Int)).toNat = x ^^^ y := by
    rw [BitVec.toNat_xor]
    simp only [BitVec.ofInt_natCast, BitVec.toNat_ofNat, Nat.reducePow, Nat.mod_eq_of_lt hx, Nat.mod_eq_of_lt hy]
  have hl : (BitVec.ofInt 8 (x : Int) ^^^ BitVec.ofInt 8 (y : Int)).toNat < 256 := (BitVec.ofInt 8 (x : Int) ^^^ BitVec.ofInt 8 (y : Int)).isLt
  show IntKind.u8.wrap ((BitVec.ofInt 8 (x : Int) ^^^ BitVec.ofInt 8 (y : Int)).toNat : Int) = _
  rw [wrap8, h]
  rw [h] at hl
  omega

theorem xor_same (x y : Nat) (h : x ^^^ y = 0) : x = y := by
  have h1 : (x ^^^ y) ^^^ y = 0 ^^^ y := by rw [h]
  rwa [Nat.xor_assoc, Nat.xor_self, Nat.xor_zero, Nat.zero_xor] at h1
theorem byte_nn (x : Int) : 0 ≤ arith .xor .u8 x 0 ∨ True := .inr trivial
theorem or8_zero {a b : Int} (ha : 0 ≤ a ∧ a < 256) (hb : 0 ≤ b ∧ b < 256) (h : arith .or .u8 a b = 0) : a = 0 ∧ b = 0 := by
  obtain ⟨x, rfl⟩ := Int.eq_ofNat_of_zero_le ha.1
  obtain ⟨y, rfl⟩ := Int.eq_ofNat_of_zero_le hb.1
  rw [a_or8 x y (by omega) (by omega)] at h
  have h1 : x ||| y = 0 := by omega
  have h2 := @Nat.left_le_or x y
  have h3 := @Nat.right_le_or x y
  omega
theorem xor8_zero {a b : Int} (ha : 0 ≤ a ∧ a < 256) (hb : 0 ≤ b ∧ b < 256) (h : arith .xor .u8 a b = 0) : a = b := by
  obtain ⟨x, rfl⟩ := Int.eq_ofNat_of_zero_le ha.1
  obtain ⟨y, rfl⟩ := Int.eq_ofNat_of_zero_le hb.1
  rw [a_xor8 x y (by omega) (by omega)] at h
  have h1 : x ^^^ y = 0 := by omega
  rw [xor_same x y h1]
theorem arith8_in (op : BinOp) (a b : Int) (h : op = .or ∨ op = .xor) : 0 ≤ arith op .u8 a b ∧ arith op .u8 a b < 256 := by
  have key : ∀ n : Int, 0 ≤ IntKind.u8.wrap n ∧ IntKind.u8.wrap n < 256 := fun n => by
    simp only [IntKind.wrap, IntKind.bits, IntKind.signed]
    simp
    omega
  rcases h with rfl | rfl
  · exact key _
  · exact key _
theorem joint_in {ν : Nat → Int} : ∀ (a b : List AI), 0 ≤ (jointS a b).val ν ∧ (jointS a b).val ν < 256
  | [], _ => by constructor <;> (show _ ; simp [jointS, AI.val])
  | _ :: _, [] => by constructor <;> (show _ ; simp [jointS, AI.val])
  | x :: r, y :: s => arith8_in .or _ _ (.inl rfl)
def isB (ν : Nat → Int) (x : AI) : Prop := 0 ≤ x.val ν ∧ x.val ν < 256
/-- Its bytes are the same. -/
theorem joint_same {ν : Nat → Int} : ∀ (a b : List AI), a.length = b.length → (∀ x ∈ a, isB ν x) → (∀ x ∈ b, isB ν x) → (jointS a b).val ν = 0 → a.map (AI.val ν) = b.map (AI.val ν)
  | [], [], _, _, _, _ => rfl
  | [], _ :: _, h, _, _, _ => by cases h
  | _ :: _, [], h, _, _, _ => by cases h
  | x :: r, y :: s, hl, ha, hb, h => by
    obtain ⟨h1, h2⟩ := or8_zero (arith8_in .xor _ _ (.inr rfl)) (joint_in r s) h
    rw [List.map_cons, List.map_cons, xor8_zero (ha x (by simp)) (hb y (by simp)) h1, joint_same r s (by simpa using hl) (fun z hz => ha z (by simp [hz])) (fun z hz => hb z (by simp [hz])) h2]
theorem w8_in (ν : Nat → Int) (x : AI) : isB ν (.w .u8 x) := by
  show 0 ≤ IntKind.u8.wrap _ ∧ IntKind.u8.wrap _ < 256
  simp only [IntKind.wrap, IntKind.bits, IntKind.signed]
  simp
  omega
theorem c_in (ν : Nat → Int) {n : Nat} (h : n < 256) : isB ν (nC n) := ⟨Int.natCast_nonneg _, Int.ofNat_lt.2 h⟩
def byt (a i : Nat) : Nat := a / 2 ^ (8 * i) % 256
theorem by8_val {ν : Nat → Int} {s a : Nat} (h : ν s = (a : Int)) : (by8 (.s s)).map (AI.val ν) = (List.range 8).map fun i => ((byt a i : Nat) : Int) := by
  unfold by8
  rw [List.map_map]
  refine List.map_congr_left fun i hi => ?_
  have hi8 : i < 8 := by simpa using hi
  show IntKind.u8.wrap ((ν s).fdiv (2 ^ (min ((8 * i : Nat) : Int).toNat 64))) = _
  have e : min ((8 * i : Nat) : Int).toNat 64 = 8 * i := by
    rw [Int.toNat_natCast]
    omega
  rw [e, h]
  have e2 : ((a : Nat) : Int).fdiv (2 ^ (8 * i)) = ((a / 2 ^ (8 * i) : Nat) : Int) := by
    rw [Int.fdiv_eq_ediv_of_nonneg _ (by exact Int.pow_nonneg (by decide))]
    norm_cast
  rw [e2]
  simp only [IntKind.wrap, IntKind.bits, IntKind.signed, byt]
  simp
theorem byt_inj {a b : Nat} (ha : a < 9223372036854775808) (hb : b < 9223372036854775808) (h : ∀ i, i < 8 → byt a i = byt b i) : a = b := by
  have h0 := h 0 (by omega)
  have h1 := h 1 (by omega)
  have h2 := h 2 (by omega)
  have h3 := h 3 (by omega)
  have h4 := h 4 (by omega)
  have h5 := h 5 (by omega)
  have h6 := h 6 (by omega)
  have h7 := h 7 (by omega)
  simp only [byt, Nat.mul_zero, Nat.pow_zero, Nat.div_one, Nat.reduceMul, Nat.reducePow] at h0 h1 h2 h3 h4 h5 h6 h7
  omega
theorem keyS_in (ν : Nat → Int) (k s : Nat) (hk : k < 256) : ∀ x ∈ keyS k s, isB ν x := by
  intro x hx
  rcases List.mem_cons.1 hx with rfl | hx
  · exact c_in ν hk
  · obtain ⟨i, _, rfl⟩ := List.mem_map.1 hx
    exact w8_in ν _
theorem bytes_at {f g : Nat → Nat} (h : (List.range 8).map (fun i => ((f i : Nat) : Int)) = (List.range 8).map fun i => ((g i : Nat) : Int)) : ∀ i, i < 8 → f i = g i := by
  intro i hi
  have h1 := congrArg (fun l => l[i]?) h
  simp only [List.getElem?_map, List.getElem?_range hi, Option.map_some, Option.some.injEq] at h1
  exact Int.ofNat.inj h1
theorem neSS {ν : Nat → Int} {k s t a b : Nat} (hk : k < 256) (hs : ν s = (a : Int)) (ht : ν t = (b : Int)) (ha : a < 9223372036854775808) (hb : b < 9223372036854775808) (hne : a ≠ b) : compare .neq ((jointS (keyS k s) (keyS k t)).val ν) ((nC 0).val ν) = true := by
  show ((jointS (keyS k s) (keyS k t)).val ν != 0) = true
  rw [bne_iff_ne]
  intro h
  have h1 := joint_same _ _ (by simp [keyS, by8]) (keyS_in ν k s hk) (keyS_in ν k t hk) h
  simp only [keyS, List.map_cons, List.cons.injEq, by8_val hs, by8_val ht] at h1
  exact hne (byt_inj ha hb (bytes_at h1.2))

/-! errors, as they are handed in -/
theorem one_arg {ν : Nat → Int} {ρ : Emb} {x : AV} {vs : Array Value} (hl : LR ν ρ [x] vs) : ∃ u, vs = #[u] ∧ VR ν ρ x u := by
  obtain ⟨h1, h2⟩ := hl
  match vs, h1 with
  | ⟨[u]⟩, _ => exact ⟨u, rfl, h2 0 _ u rfl rfl⟩
theorem vr_A {ν : Nat → Int} {ρ : Emb} {s : List UInt8} {e : AV} {u : Value} (h : VR ν ρ (eA s e) u) : ∃ t v, u = .iface 77 (.agg #[t, v]) ∧ VR ν ρ e v := by
  cases h with
  | ifc _ _ v h =>
    cases h with
    | ag _ vs hs h =>
      match vs, hs with
      | ⟨[t, v]⟩, _ => exact ⟨t, v, rfl, h 1 _ v rfl rfl⟩
theorem vr_N {ν : Nat → Int} {ρ : Emb} {n : Nat} {u : Value} (h : VR ν ρ (eN n) u) : u = .iface 24 (.int .i64 (n : Int)) := by
  cases h with
  | ifc _ _ v h =>
    cases h
    rfl
theorem glE_cell {ν : Nat → Int} {w : World} (h : Laid glE w) : w.cell? ⟨0, 0, none⟩ = some eTy := by
  have hb := h _ List.mem_cons_self ν (embF fun _ => none)
  obtain ⟨C, e, fz, h1, h2, _⟩ := hb.cells (by decide)
  obtain ⟨v, h3, h4⟩ := h2 0 (.kv eTy) rfl
  cases h4
  unfold World.cell?
  rw [h1]
  exact h3
theorem num2_ok {ν : Nat → Int} {s t : List UInt8} {n : Nat} : (numR (eA s (eA t (eN n))) n).Ok ν Tryd.prog glE := by
  refine ⟨⟨_, Tryd.func22, by kernel_rfl, by kernel_rfl⟩, fun ρ w vs hw _ hl => ?_⟩
  obtain ⟨u, rfl, hu⟩ := one_arg hl
  obtain ⟨a, v, rfl, hv⟩ := vr_A hu
  obtain ⟨b, v2, rfl, hv2⟩ := vr_A hv
  obtain rfl := vr_N hv2
  exact (num_2 a b (n : Int) w (glE_cell (ν := ν) hw)).mono fun e w' ⟨he, hB⟩ => ⟨[.int .i64 (n : Int)], he, ⟨rfl, trivial⟩, hB⟩
theorem num3_ok {ν : Nat → Int} {s t q : List UInt8} {n : Nat} : (numR (eA s (eA t (eA q (eN n)))) n).Ok ν Tryd.prog glE := by
  refine ⟨⟨_, Tryd.func22, by kernel_rfl, by kernel_rfl⟩, fun ρ w vs hw _ hl => ?_⟩
  obtain ⟨u, rfl, hu⟩ := one_arg hl
  obtain ⟨a, v, rfl, hv⟩ := vr_A hu
  obtain ⟨b, v2, rfl, hv2⟩ := vr_A hv
  obtain ⟨c, v3, rfl, hv3⟩ := vr_A hv2
  obtain rfl := vr_N hv3
  exact (num_3 a b c (n : Int) w (glE_cell (ν := ν) hw)).mono fun e w' ⟨he, hB⟩ => ⟨[.int .i64 (n : Int)], he, ⟨rfl, trivial⟩, hB⟩
/-! a term of that kind and number, without arguments, may be -/
def fR (g : Bool) : Facts := ⟨[], [(.lss, .s 0, nC 0, false), (.gtr, .s 0, nC 0, g)], []⟩
noncomputable def rgt (k : Nat) (g : Bool) : Bool := saysB (fR g) tree [] glE [] [] [] 64 400 10 13 [iC k, iS 0, .nsl] (iC 0)
theorem rgt_1f : rgt 1 false = true := by unfold rgt; kernel_rfl
theorem rgt_1t : rgt 1 true = true := by unfold rgt; kernel_rfl
theorem rgt_2f : rgt 2 false = true := by unfold rgt; kernel_rfl
theorem rgt_2t : rgt 2 true = true := by unfold rgt; kernel_rfl
/-! the rows of term.right -/
theorem rgt_ok {ν : Nat → Int} {k s : Nat} (h0 : 0 ≤ ν s) (hr : rgt k false = true ∧ rgt k true = true) : (rowR k s).Ok ν Tryd.prog glE := by
  have key : ∀ g : Bool, decide (ν s > 0) = g → rgt k g = true → RowM.Ok (fun _ => ν s) Tryd.prog glE ⟨13, [iC k, iS 0, .nsl], [], [AV.i .i64 (.c (.ofNat 0))].map .v⟩ := by
    intro g hg hrun
    have hF : (fR g).Hold (fun _ => ν s) := ⟨fun p hp => (by cases hp), fun p hp => (by
      simp only [fR, List.mem_cons, List.not_mem_nil, or_false] at hp
      rcases hp with rfl | rfl
      · exact decide_eq_false (show ¬ ν s < 0 by omega)
      · exact hg), fun p hp => by cases hp⟩
    exact rowM_of (us := [.int .i64 0]) hF mixed tab_ok glE_ok (fun r hr => by cases hr) (fun r hr => by cases hr) (fun r hr => by cases hr) hrun (by decide) (fun p hp => by cases hp) rfl rfl rfl
  have hrow : RowM.Ok (fun _ => ν s) Tryd.prog glE ⟨13, [iC k, iS 0, .nsl], [], [AV.i .i64 (.c (.ofNat 0))].map .v⟩ := by
    cases hg : decide (ν s > 0)
    · exact key false hg hr.1
    · exact key true hg hr.2
  refine ⟨hrow.1, fun ρ w vs hw hn hl => ?_⟩
  refine (hrow.2 ρ w vs hw (fun p hp => by cases hp) ⟨hl.1, fun j x v hx hv => ?_⟩).mono fun e w' ⟨us, g1, g2, g3⟩ => ⟨us, g1, ?_, g3⟩
  · match j, hx with
    | 0, hx =>
      cases hx
      have := hl.2 0 _ v rfl hv
      cases this
      exact .i _ _
    | 1, hx =>
      cases hx
      have := hl.2 1 _ v rfl hv
      cases this
      exact .i _ _
    | 2, hx =>
      cases hx
      have := hl.2 2 _ v rfl hv
      cases this
      exact .nsl
    | j + 3, hx => simp at hx
  · match us, g2 with
    | [u], g2 => exact ⟨g2.1, trivial⟩
    | [], g2 => exact g2.elim
    | _ :: _ :: _, g2 => exact g2.2.elim
theorem pfM_ok {ν : Nat → Int} (h0 : 0 ≤ ν 0) (h1 : 0 ≤ ν 1) (h2 : 0 ≤ ν 2) : ∀ r ∈ pfM, r.Ok ν Tryd.prog glE := by
  intro r hr
  simp only [pfM, List.mem_cons, List.not_mem_nil, or_false] at hr
  rcases hr with rfl | rfl | rfl | rfl | rfl
  · exact rgt_ok h1 ⟨rgt_1f, rgt_1t⟩
  · exact rgt_ok h2 ⟨rgt_1f, rgt_1t⟩
  · exact rgt_ok h0 ⟨rgt_2f, rgt_2t⟩
  · exact num2_ok
  · exact num3_ok

/-! the law -/
def nu4 (a b x y : Int) : Nat → Int := fun k => if k = 0 then a else if k = 1 then b else if k = 2 then x else y
theorem pure_row {ν : Nat → Int} {args : List AV} {us : List Value} (h : RowM.Ok ν Tryd.prog glE ⟨3, args, [], [AV.b true].map .v⟩) (ha : concT ν args = some us) : PureG Tryd.prog glE 3 us (.bool true) := by
  refine ⟨h.1, fun w hw => (h.2 (embF fun _ => none) w us.toArray hw (fun p hp => by cases hp) (concT_lr ha).1).mono fun e w' ⟨vs, g1, g2, g3⟩ => ⟨?_, g3⟩⟩
  match vs, g2 with
  | [u], g2 =>
    have := g2.1
    cases this
    exact g1
  | [], g2 => exact g2.elim
  | _ :: _ :: _, g2 => exact g2.2.elim

abbrev pfNo (c : List Cm) : Prop := saysB ⟨[], c, []⟩ tree [] glE [] [] [] 64 400 40 3 [iS 0, iS 1, iS 2, iS 3] (.b true) = true
theorem no_all : pfNo [(.lss, .s 0, nC 0, true)] ∧ pfNo [(.lss, .s 0, nC 0, false), (.geq, .s 0, nC 8, true)] ∧ pfNo [(.lss, .s 0, nC 0, false), (.geq, .s 0, nC 8, false), (.lss, .s 1, nC 0, true)] ∧ pfNo [(.lss, .s 0, nC 0, false), (.geq, .s 0, nC 8, false), (.lss, .s 1, nC 0, false), (.lss, .s 2, nC 0, true)] ∧ pfNo [(.lss, .s 0, nC 0, false), (.geq, .s 0, nC 8, false), (.lss, .s 1, nC 0, false), (.lss, .s 2, nC 0, false), (.eql, .s 1, .s 2, true)] :=
  ⟨by unfold pfNo; kernel_rfl, by unfold pfNo; kernel_rfl, by unfold pfNo; kernel_rfl, by unfold pfNo; kernel_rfl, by unfold pfNo; kernel_rfl⟩
theorem run_no {c n m q : Int} {l : List Cm} (h : pfNo l) (hF : ∀ p ∈ l, compare p.1 (p.2.1.val (nu4 c n m q)) (p.2.2.1.val (nu4 c n m q)) = p.2.2.2) : PureG Tryd.prog glE 3 [.int .i64 c, .int .i64 n, .int .i64 m, .int .i64 q] (.bool true) :=
  pure_row (ν := nu4 c n m q) (args := [iS 0, iS 1, iS 2, iS 3]) (rowM_of (F := ⟨[], l, []⟩) (us := [.bool true]) ⟨fun p hp => (by cases hp), hF, fun p hp => by cases hp⟩ mixed tab_ok glE_ok (fun r hr => by cases hr) (fun r hr => by cases hr) (fun r hr => by cases hr) h (by decide) (fun p hp => by cases hp) rfl rfl rfl) rfl
theorem run_pf {c n m : Nat} {q : Int} {l : List Cm} (hc : c < 8) (hn : n < 9223372036854775808) (hm : m < 9223372036854775808) (hne : n ≠ m) (h : saysB (pfW l) tree [] glE [wkR] pfM [] 64 400 40 3 [iS 0, iS 1, iS 2, iS 3] (.b true) = true)
    (hF : ∀ p ∈ l, compare p.1 (p.2.1.val (nu4 c n m q)) (p.2.2.1.val (nu4 c n m q)) = p.2.2.2) : PureG Tryd.prog glE 3 [.int .i64 c, .int .i64 n, .int .i64 m, .int .i64 q] (.bool true) := by
  have h0 : nu4 c n m q 0 = (c : Int) := rfl
  have h1 : nu4 c n m q 1 = (n : Int) := rfl
  have h2 : nu4 c n m q 2 = (m : Int) := rfl
  have hf : (pfW l).Hold (nu4 c n m q) := by
    refine ⟨wide_val _, fun p hp => ?_, fun p hp => by cases hp⟩
    rcases List.mem_append.1 hp with hp | hp
    · simp only [pfC, List.mem_cons, List.not_mem_nil, or_false] at hp
      rcases hp with rfl | rfl | rfl | rfl | rfl | rfl | rfl
      · exact decide_eq_false (show ¬ nu4 c n m q 0 < 0 by omega)
      · exact decide_eq_false (show ¬ nu4 c n m q 0 ≥ ((8 : Nat) : Int) by omega)
      · exact decide_eq_false (show ¬ nu4 c n m q 1 < 0 by omega)
      · exact decide_eq_false (show ¬ nu4 c n m q 2 < 0 by omega)
      · exact beq_eq_false_iff_ne.2 (show nu4 c n m q 1 ≠ nu4 c n m q 2 by omega)
      · exact beq_self_eq_true _
      · exact neSS (by decide) h2 h1 hm hn (Ne.symm hne)
    · exact hF p hp
  exact pure_row (ν := nu4 c n m q) (args := [iS 0, iS 1, iS 2, iS 3]) (rowM_of (us := [.bool true]) hf mixed tab_ok glE_ok (fun r hr => by cases hr) (wk_row _) (pfM_ok (by omega) (by omega) (by omega)) h (by decide) (fun p hp => by cases hp) rfl rfl rfl) rfl
end Go.Proofs.YtggjplfnalolcaaDoor
