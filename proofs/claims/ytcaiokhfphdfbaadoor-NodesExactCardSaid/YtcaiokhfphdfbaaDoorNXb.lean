/-
  NodesExact: what the functions answer, of every number. Own work.
-/
import Derived.Test.YtcaiokhfphdfbaaDoorNXa
namespace Go.Proofs.YtcaiokhfphdfbaaDoor
open Go.Sh
set_option maxRecDepth 100000

abbrev I64 (n : Int) : Value := .int .i64 n
def noF : Facts := ⟨[], []⟩
theorem noF_hold (ν : Nat → Int) : noF.Hold ν := ⟨fun p hp => (by cases hp), fun p hp => (by cases hp)⟩
def b2 : List Bool := [true, false]
theorem b2_all {p : Bool → Bool} (h : b2.all p = true) (b : Bool) : p b = true := List.all_eq_true.1 h b (by cases b <;> simp [b2])
theorem rg_all {n : Nat} {p : Nat → Bool} (h : (List.range n).all p = true) (k : Nat) (hk : k < n) : p k = true := List.all_eq_true.1 h k (List.mem_range.2 hk)
theorem beq_f {a b : Int} (h : a ≠ b) : (a == b) = false := by simpa using h
def eA (k : Bool) : AV := iC (match k with | true => 0 | false => 1)
def eV (k : Bool) : Int := match k with | true => 0 | false => 1

/-! May, Root -/
def mF (a b : Bool) : Facts := ⟨[], [(.geq, .s 0, nC 1, a), (.leq, .s 0, nC 8, b), (.eql, .s 0, nC 1, false), (.eql, .s 0, nC 2, false), (.eql, .s 0, nC 4, false), (.eql, .s 0, nC 8, false)]⟩
noncomputable def mayR (F : Facts) (a : AV) (m : Bool) : Bool := says F tree [] 400 6 6 [a] (heap0 [] gmax) (.b m) && says F tree [] 400 6 5 [a] (heap0 [] gmax) (.b m)
theorem may_out : (b2.all fun a => b2.all fun b => (a && b) || mayR (mF a b) (iS 0) false) = true := by kernel_rfl
theorem may_in : ([3, 5, 6, 7].all fun n => mayR noF (iC n) false) = true := by kernel_rfl
theorem mayR_pure {ν : Nat → Int} {F : Facts} {a : AV} {m : Bool} {v : Value} (hF : F.Hold ν) (h : mayR F a m = true) (ha : concT ν [a] = some [v]) : Pure Tryd.prog 6 [v] (.bool m) ∧ Pure Tryd.prog 5 [v] (.bool m) := by
  simp only [mayR, Bool.and_eq_true] at h
  exact ⟨pure_of hF mixed tab_ok (fun r hr => by cases hr) h.1 ha rfl, pure_of hF mixed tab_ok (fun r hr => by cases hr) h.2 ha rfl⟩
theorem may_ok (n : Int) : (n = 1 ∨ n = 2 ∨ n = 4 ∨ n = 8) ∨ (Pure Tryd.prog 6 [I64 n] (.bool false) ∧ Pure Tryd.prog 5 [I64 n] (.bool false)) := by
  by_cases h : n = 1 ∨ n = 2 ∨ n = 4 ∨ n = 8
  · exact .inl h
  refine .inr ?_
  by_cases hin : 1 ≤ n ∧ n ≤ 8
  · have hc : n = 3 ∨ n = 5 ∨ n = 6 ∨ n = 7 := by omega
    have hm := List.all_eq_true.1 may_in
    rcases hc with rfl | rfl | rfl | rfl
    · exact mayR_pure (ν := fun _ => 0) (noF_hold _) (hm 3 (by decide)) rfl
    · exact mayR_pure (ν := fun _ => 0) (noF_hold _) (hm 5 (by decide)) rfl
    · exact mayR_pure (ν := fun _ => 0) (noF_hold _) (hm 6 (by decide)) rfl
    · exact mayR_pure (ν := fun _ => 0) (noF_hold _) (hm 7 (by decide)) rfl
  · have h1 := b2_all (b2_all may_out (decide (n ≥ 1))) (decide (n ≤ 8))
    have h2 : (decide (n ≥ 1) && decide (n ≤ 8)) = false := by
      rw [Bool.and_eq_false_iff]
      by_cases h1 : 1 ≤ n
      · exact .inr (decide_eq_false (by omega))
      · exact .inl (decide_eq_false (by omega))
    rw [h2, Bool.false_or] at h1
    refine mayR_pure (ν := fun _ => n) ⟨fun p hp => (by cases hp), fun p hp => ?_⟩ h1 rfl
    simp only [mF, List.mem_cons, List.not_mem_nil, or_false] at hp
    rcases hp with rfl | rfl | rfl | rfl | rfl | rfl
    · rfl
    · rfl
    · exact beq_f (show n ≠ 1 by omega)
    · exact beq_f (show n ≠ 2 by omega)
    · exact beq_f (show n ≠ 4 by omega)
    · exact beq_f (show n ≠ 8 by omega)
def rootT : List Row := [⟨6, [iS 0], .b false⟩]
theorem root_says : says noF tree rootT 400 6 8 [iS 0] (heap0 [] gmax) (iC 0) = true := by kernel_rfl
theorem root_ok {n : Int} (h : Pure Tryd.prog 6 [I64 n] (.bool false)) : Pure Tryd.prog 8 [I64 n] (I64 0) := by
  refine pure_of (ν := fun _ => n) (noF_hold _) mixed tab_ok (fun r hr => ?_) root_says rfl rfl
  simp only [rootT, List.mem_cons, List.not_mem_nil, or_false] at hr
  subst hr
  exact ⟨_, _, rfl, rfl, h⟩

/-! Has -/
def hasF (a b c d : Bool) : Facts := ⟨[], [(.lss, .s 0, nC 0, a), (.lss, .s 1, nC 0, b), (.gtr, .s 0, nC 16, c), (.gtr, .s 1, nC 16, d)]⟩
noncomputable def hasR (F : Facts) (x i : AV) (h : Bool) : Bool := saysG F tree [] glD [] 400 6 9 [x, i] (.b h) && says F tree [] 400 6 10 [x, i] (heap0 [] gmax) (.b h)
theorem has_out : (b2.all fun a => b2.all fun b => b2.all fun c => b2.all fun d => !(a || b || c || d) || hasR (hasF a b c d) (iS 0) (iS 1) false) = true := by kernel_rfl
theorem has_in : ((List.range 17).all fun x => (List.range 17).all fun i => hasR noF (iC x) (iC i) true || hasR noF (iC x) (iC i) false) = true := by kernel_rfl
theorem hasR_pure {ν : Nat → Int} {F : Facts} {x i : AV} {h : Bool} {vs : List Value} (hF : F.Hold ν) (hh : hasR F x i h = true) (ha : concT ν [x, i] = some vs) : PureG Tryd.prog glD 9 vs (.bool h) ∧ Pure Tryd.prog 10 vs (.bool h) := by
  simp only [hasR, Bool.and_eq_true] at hh
  exact ⟨pureG_of hF mixed tab_ok glD_ok (fun r hr => by cases hr) (fun r hr => by cases hr) hh.1 ha rfl, pure_of hF mixed tab_ok (fun r hr => by cases hr) hh.2 ha rfl⟩
theorem has_ok (x i : Int) : ∃ h, PureG Tryd.prog glD 9 [I64 x, I64 i] (.bool h) ∧ Pure Tryd.prog 10 [I64 x, I64 i] (.bool h) := by
  by_cases hin : (0 ≤ x ∧ x ≤ 16) ∧ 0 ≤ i ∧ i ≤ 16
  · obtain ⟨⟨a1, a2⟩, a3, a4⟩ := hin
    obtain ⟨a, rfl⟩ := Int.eq_ofNat_of_zero_le a1
    obtain ⟨b, rfl⟩ := Int.eq_ofNat_of_zero_le a3
    have h1 := rg_all (rg_all has_in a (by omega)) b (by omega)
    rw [Bool.or_eq_true] at h1
    rcases h1 with h1 | h1
    · exact ⟨true, hasR_pure (ν := fun _ => 0) (noF_hold _) h1 rfl⟩
    · exact ⟨false, hasR_pure (ν := fun _ => 0) (noF_hold _) h1 rfl⟩
  · have h1 := b2_all (b2_all (b2_all (b2_all has_out (decide (x < 0))) (decide (i < 0))) (decide (x > 16))) (decide (i > 16))
    have h2 : (decide (x < 0) || decide (i < 0) || decide (x > 16) || decide (i > 16)) = true := by
      simp only [Bool.or_eq_true, decide_eq_true_eq]
      omega
    rw [h2, Bool.not_true, Bool.false_or] at h1
    refine ⟨false, hasR_pure (ν := fun k => if k = 0 then x else i) ⟨fun p hp => (by cases hp), fun p hp => ?_⟩ h1 rfl⟩
    simp only [hasF, List.mem_cons, List.not_mem_nil, or_false] at hp
    rcases hp with rfl | rfl | rfl | rfl <;> rfl

/-! children -/
def lvT (x : Nat) : Nat := [0, 1, 0, 2, 0, 1, 0, 3, 0, 1, 0, 2, 0, 1, 0].getD x 0
def kidT (x : Nat) : Nat × Nat × Bool := match lvT x with | 0 => (0, 0, false) | k + 1 => (x - 2 ^ k, x + 2 ^ k, true)
noncomputable def kidR (F : Facts) (T : List Row) (a l r : AV) (k : Bool) : Bool :=
  saysG F tree T glD [] 400 6 11 [a] (.tp [l, eA k]) && saysG F tree T glD [] 400 6 12 [a] (.tp [r, eA k]) && says F tree T 400 6 13 [a] (heap0 [] gmax) (.tp [l, r, .b k])
def kNeg : Facts := ⟨[], [(.lss, .s 0, nC 0, true), (.gtr, .s 0, nC 0, false)]⟩
def kBig : Facts := ⟨[], [(.lss, .s 0, nC 0, false), (.gtr, .s 0, nC 14, true)]⟩
def kT : List Row := [⟨4, [iS 0], iS 1⟩]
theorem kid_neg : kidR kNeg [] (iS 0) (iC 0) (iC 0) false = true := by kernel_rfl
theorem kid_big : kidR kBig kT (iS 0) (iC 0) (iC 0) false = true := by kernel_rfl
theorem kid_in : ((List.range 15).all fun x => kidR noF [] (iC x) (iC (kidT x).1) (iC (kidT x).2.1) (kidT x).2.2) = true := by kernel_rfl
def KidsOk (x l r : Int) (k : Bool) : Prop := PureG Tryd.prog glD 11 [I64 x] (.tuple #[I64 l, I64 (eV k)]) ∧ PureG Tryd.prog glD 12 [I64 x] (.tuple #[I64 r, I64 (eV k)]) ∧ Pure Tryd.prog 13 [I64 x] (.tuple #[I64 l, I64 r, .bool k])
theorem kidR_pure {ν : Nat → Int} {F : Facts} {T : List Row} {a : AV} {l r : Nat} {k : Bool} {x : Int} (hF : F.Hold ν) (hT : ∀ r ∈ T, r.Ok ν Tryd.prog) (hh : kidR F T a (iC l) (iC r) k = true) (ha : concT ν [a] = some [I64 x]) : KidsOk x l r k := by
  simp only [kidR, Bool.and_eq_true] at hh
  exact ⟨pureG_of hF mixed tab_ok glD_ok hT (fun r hr => by cases hr) hh.1.1 ha (by cases k <;> rfl), pureG_of hF mixed tab_ok glD_ok hT (fun r hr => by cases hr) hh.1.2 ha (by cases k <;> rfl), pure_of hF mixed tab_ok hT hh.2 ha rfl⟩
theorem kids_ok {x : Int} (hx : x < 9223372036854775808) : ∃ l r k, KidsOk x l r k := by
  by_cases h0 : x < 0
  · refine ⟨_, _, false, kidR_pure (ν := fun _ => x) ⟨fun p hp => (by cases hp), fun p hp => ?_⟩ (fun r hr => by cases hr) kid_neg rfl⟩
    simp only [kNeg, List.mem_cons, List.not_mem_nil, or_false] at hp
    rcases hp with rfl | rfl
    · exact decide_eq_true h0
    · exact decide_eq_false (show ¬ x > 0 by omega)
  obtain ⟨a, rfl⟩ := Int.eq_ofNat_of_zero_le (Int.not_lt.1 h0)
  by_cases h1 : a < 15
  · exact ⟨_, _, _, kidR_pure (ν := fun _ => 0) (noF_hold _) (fun r hr => by cases hr) (rg_all kid_in a h1) rfl⟩
  · obtain ⟨k, hk, _, hl⟩ := level_ok (x := a) (by omega)
    refine ⟨_, _, false, kidR_pure (ν := fun j => if j = 0 then (a : Int) else k) ⟨fun p hp => (by cases hp), fun p hp => ?_⟩ (fun r hr => ?_) kid_big rfl⟩
    · simp only [kBig, List.mem_cons, List.not_mem_nil, or_false] at hp
      rcases hp with rfl | rfl
      · exact decide_eq_false (show ¬ (a : Int) < 0 by omega)
      · exact decide_eq_true (show (a : Int) > 14 by omega)
    · simp only [kT, List.mem_cons, List.not_mem_nil, or_false] at hr
      subst hr
      exact ⟨_, _, rfl, rfl, hl⟩

/-! parents -/
def parT (x n : Nat) : Nat × Nat × Bool := match (List.range (2 * n - 1)).find? fun p => (kidT p).2.2 && (Nat.beq (kidT p).1 x || Nat.beq (kidT p).2.1 x) with
  | some p => (p, (kidT p).1 + (kidT p).2.1 - x, true)
  | none => (0, 0, false)
noncomputable def parR (F : Facts) (T : List Row) (x n p s : AV) (k : Bool) : Bool :=
  saysG F tree T glD [] 400 6 14 [x, n] (.tp [p, eA k]) && saysG F tree T glD [] 400 6 15 [x, n] (.tp [s, eA k]) && says F tree T 400 6 16 [x, n] (heap0 [] gmax) (.tp [p, .b k]) && says F tree T 400 6 17 [x, n] (heap0 [] gmax) (.tp [s, .b k])
def pT : List Row := [⟨6, [iS 1], .b false⟩, ⟨5, [iS 1], .b false⟩]
def pNeg : Facts := ⟨[], [(.lss, .s 0, nC 0, true)]⟩
def pBig (n : Nat) : Facts := ⟨[], [(.lss, .s 0, nC 0, false), (.gtr, .s 0, nC (2 * n - 2), true)]⟩
def ns : List Nat := [1, 2, 4, 8]
theorem par_not : parR noF pT (iS 0) (iS 1) (iC 0) (iC 0) false = true := by kernel_rfl
theorem par_neg : (ns.all fun n => parR pNeg [] (iS 0) (iC n) (iC 0) (iC 0) false) = true := by kernel_rfl
theorem par_big : (ns.all fun n => parR (pBig n) [] (iS 0) (iC n) (iC 0) (iC 0) false) = true := by kernel_rfl
theorem par_in : (ns.all fun n => (List.range (2 * n - 1)).all fun x => parR noF [] (iC x) (iC n) (iC (parT x n).1) (iC (parT x n).2.1) (parT x n).2.2) = true := by kernel_rfl
def ParOk (x n p s : Int) (k : Bool) : Prop := PureG Tryd.prog glD 14 [I64 x, I64 n] (.tuple #[I64 p, I64 (eV k)]) ∧ PureG Tryd.prog glD 15 [I64 x, I64 n] (.tuple #[I64 s, I64 (eV k)]) ∧ Pure Tryd.prog 16 [I64 x, I64 n] (.tuple #[I64 p, .bool k]) ∧ Pure Tryd.prog 17 [I64 x, I64 n] (.tuple #[I64 s, .bool k])
theorem parR_pure {ν : Nat → Int} {F : Facts} {T : List Row} {a b : AV} {p s : Nat} {k : Bool} {x n : Int} (hF : F.Hold ν) (hT : ∀ r ∈ T, r.Ok ν Tryd.prog) (hh : parR F T a b (iC p) (iC s) k = true) (ha : concT ν [a, b] = some [I64 x, I64 n]) : ParOk x n p s k := by
  simp only [parR, Bool.and_eq_true] at hh
  exact ⟨pureG_of hF mixed tab_ok glD_ok hT (fun r hr => by cases hr) hh.1.1.1 ha (by cases k <;> rfl), pureG_of hF mixed tab_ok glD_ok hT (fun r hr => by cases hr) hh.1.1.2 ha (by cases k <;> rfl), pure_of hF mixed tab_ok hT hh.1.2 ha rfl, pure_of hF mixed tab_ok hT hh.2 ha rfl⟩
theorem par_none {x n : Int} (h : Pure Tryd.prog 6 [I64 n] (.bool false) ∧ Pure Tryd.prog 5 [I64 n] (.bool false)) : ParOk x n 0 0 false := by
  refine parR_pure (p := 0) (s := 0) (ν := fun j => if j = 0 then x else n) (noF_hold _) (fun r hr => ?_) par_not rfl
  simp only [pT, List.mem_cons, List.not_mem_nil, or_false] at hr
  rcases hr with rfl | rfl
  · exact ⟨_, _, rfl, rfl, h.1⟩
  · exact ⟨_, _, rfl, rfl, h.2⟩
theorem par_ok (x : Int) {n : Nat} (hn : n ∈ ns) : ∃ p s k, ParOk x n p s k := by
  have hpos : 1 ≤ n := by
    simp only [ns, List.mem_cons, List.not_mem_nil, or_false] at hn
    omega
  by_cases h0 : x < 0
  · refine ⟨_, _, false, parR_pure (ν := fun _ => x) ⟨fun p hp => (by cases hp), fun p hp => ?_⟩ (fun r hr => by cases hr) (List.all_eq_true.1 par_neg n hn) rfl⟩
    simp only [pNeg, List.mem_cons, List.not_mem_nil, or_false] at hp
    subst hp
    exact decide_eq_true h0
  obtain ⟨a, rfl⟩ := Int.eq_ofNat_of_zero_le (Int.not_lt.1 h0)
  by_cases h1 : a < 2 * n - 1
  · exact ⟨_, _, _, parR_pure (ν := fun _ => 0) (noF_hold _) (fun r hr => by cases hr) (rg_all (List.all_eq_true.1 par_in n hn) a h1) rfl⟩
  · refine ⟨_, _, false, parR_pure (ν := fun _ => (a : Int)) ⟨fun p hp => (by cases hp), fun p hp => ?_⟩ (fun r hr => by cases hr) (List.all_eq_true.1 par_big n hn) rfl⟩
    simp only [pBig, List.mem_cons, List.not_mem_nil, or_false] at hp
    rcases hp with rfl | rfl
    · exact decide_eq_false (show ¬ (a : Int) < 0 by omega)
    · exact decide_eq_true (show (a : Int) > ((2 * n - 2 : Nat) : Int) by omega)
theorem wk_says : saysG noF tree [] glD [] 400 6 19 [] (.b true) = true := by kernel_rfl
theorem wakes_ok : PureG Tryd.prog glD 19 [] (.bool true) := pureG_of (ν := fun _ => 0) (args := []) (noF_hold _) mixed tab_ok glD_ok (fun r hr => by cases hr) (fun r hr => by cases hr) wk_says rfl rfl
end Go.Proofs.YtcaiokhfphdfbaaDoor
