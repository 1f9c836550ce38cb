/-
  SIGNATURES: SignLong's rows. Own work.
-/
import Derived.Test.YtheidgcgdkmmiaaDoorRg
namespace Go.Proofs.YtheidgcgdkmmiaaDoor
open Go.Sh
open Go.ChangeShapes Go.WideShapes Go.ChangeAt Go.RowKit
set_option maxRecDepth 100000
def ovI : AI := .e .sub .i64 (.s 9000) (nA 65536)
def lnI : AI := .e .add .i64 (nA 65536) ovI
def sgC : List Row := sgT
def loG : List Row := sgG ++ (okT ++ (vfG ++ [rowWk9]))
def loF : Facts := ⟨[], [(.lss, ovI, .c (-1), false), (.gtr, ovI, .c 1, false), (.eql, lnI, .s 9000, true), (.geq, lnI, .c 0, true), (.gtr, .s (pinA (tg 2)), nA 65536, false), (.gtr, ovI, .c 0, false), gtF 2, ltF 2, ltF 6, ltF 8, eqF 2, eqF 6, eqF 8], [(9000, [], 0, tg 2), catR 2 6, catK 2 8]⟩
def lvF : Facts := ⟨[], [(.lss, ovI, .c (-1), false), (.gtr, ovI, .c 1, false), (.eql, lnI, .s 9000, true), (.geq, lnI, .c 0, true), (.gtr, .s (pinA (tg 2)), nA 65536, true), (.gtr, ovI, .c 0, true), ltF 2, eqF 2], [(9000, [], 0, tg 2)]⟩
def loM : List RowM := [rowSeed 68, sg1 78 6, sg2 89 8, rowSeed 99, sg2 113 8]
def lvM : List RowM := [rowSeed 71]
def ovV9 : AV := .i .i64 ovI
theorem lo_go : saysB loF tree sgC gl9 loG loM [] 64 300 8 6 [rw8 0, ovV9] (.b true) = true := by kernel_rfl
theorem lv_go : saysB lvF tree sgC gl9 loG lvM [] 64 300 8 6 [rw8 0, ovV9] (.b true) = true := by kernel_rfl
theorem lo_no1 : saysB ⟨[], [(.lss, .s 9000, .c (-1), true)], []⟩ tree [] gl9 [] [] [] 64 300 8 6 [rw8 0, .i .i64 (.s 9000)] (.b true) = true := by kernel_rfl
theorem lo_no2 : saysB ⟨[], [(.lss, .s 9000, .c (-1), false), (.gtr, .s 9000, .c 1, true)], []⟩ tree [] gl9 [] [] [] 64 300 8 6 [rw8 0, .i .i64 (.s 9000)] (.b true) = true := by kernel_rfl
section
variable {g : Sg} {b : Bk} {n : Nat}
theorem ovI_val {e : Ex} {z : Int} (hz : (n : Int) = 65536 + z) (h1 : -1 ≤ z) (h2 : z ≤ 1) : ovI.val (nuX9 g e n zz0) = z := by
  show IntKind.i64.wrap (nuX9 g e n zz0 9000 - ((65536 : Nat) : Int)) = z
  rw [show nuX9 g e n zz0 9000 = (n : Int) from nu9_n]
  simp only [IntKind.wrap, IntKind.bits, IntKind.signed]
  simp
  omega
theorem lnI_val {e : Ex} {z : Int} (hz : (n : Int) = 65536 + z) (h1 : -1 ≤ z) (h2 : z ≤ 1) : lnI.val (nuX9 g e n zz0) = (n : Int) := by
  show IntKind.i64.wrap (((65536 : Nat) : Int) + ovI.val (nuX9 g e n zz0)) = _
  rw [ovI_val hz h1 h2]
  simp only [IntKind.wrap, IntKind.bits, IntKind.signed]
  simp
  omega
theorem cat0 {e : Ex} (hn : n < 1000000000) : 0 ≤ nuX9 g e n zz0 (pinL (tg 2)) ∧ lst (nuX9 g e n zz0) (tg 2) = lst0 (nuX9 g e n zz0) 9000 ++ ([] : List AI).map (AI.val (nuX9 g e n zz0)) ++ lst0 (nuX9 g e n zz0) 0 := by
  have hL : nuX9 g e n zz0 (pinL (tg 2)) = (n : Int) := nu9_L (t := 2) (by decide)
  refine ⟨by rw [hL]; omega, ?_⟩
  rw [lst0_zero, lst0_nought _ (by decide) (by decide), List.map_nil, List.append_nil, List.append_nil, show nuX9 g e n zz0 9000 = (n : Int) from nu9_n]
  unfold lst
  rw [hL, Int.toNat_natCast]
  refine List.ext_getElem? fun j => ?_
  by_cases hj : j < n
  · rw [List.getElem?_map, List.getElem?_range hj, List.getElem?_replicate, if_pos hj]
    exact congrArg some ((nu9_B (t := 2) (by decide) (by omega)).trans (by unfold sgZ; rw [if_pos (by decide)]; rfl))
  · rw [List.getElem?_eq_none (by simpa using hj), List.getElem?_eq_none (by simpa using hj)]
theorem pinA2 {e : Ex} : nuX9 g e n zz0 (pinA (tg 2)) = (n : Int) := nu9_A (t := 2) (by decide)
theorem loF_hold (H : g.Ok n zz0) {z : Int} (hz : (n : Int) = 65536 + z) (h1 : -1 ≤ z) (h2 : z ≤ 0) : loF.Hold (nuX9 g (b.e g zz0) n zz0) := by
  have vo := ovI_val (g := g) (e := b.e g zz0) hz h1 (by omega)
  have vl := lnI_val (g := g) (e := b.e g zz0) hz h1 (by omega)
  have vn : nuX9 g (b.e g zz0) n zz0 9000 = (n : Int) := nu9_n
  have hn : n < 1000000000 := by omega
  refine ⟨fun p hp => (by cases hp), fun p hp => ?_, fun p hp => ?_⟩
  · simp only [loF, List.mem_cons, List.not_mem_nil, or_false] at hp
    rcases hp with rfl | rfl | rfl | rfl | rfl | rfl | rfl | rfl | rfl | rfl | rfl | rfl | rfl
    · show decide (ovI.val _ < -1) = false
      rw [vo]
      exact decide_eq_false (by omega)
    · show decide (ovI.val _ > 1) = false
      rw [vo]
      exact decide_eq_false (by omega)
    · show (lnI.val _ == nuX9 g (b.e g zz0) n zz0 9000) = true
      rw [vl, vn]
      exact beq_self_eq_true _
    · show decide (lnI.val _ ≥ 0) = true
      rw [vl]
      exact decide_eq_true (by omega)
    · show decide (nuX9 g (b.e g zz0) n zz0 (pinA (tg 2)) > ((65536 : Nat) : Int)) = false
      rw [pinA2]
      exact decide_eq_false (by omega)
    · show decide (ovI.val _ > 0) = false
      rw [vo]
      exact decide_eq_false (by omega)
    · exact gtF_ok (.inl rfl) (by omega)
    · exact ltF_ok (by decide) hn
    · exact ltF_ok (by decide) hn
    · exact ltF_ok (by decide) hn
    · exact eqF_ok (by decide)
    · exact eqF_ok (by decide)
    · exact eqF_ok (by decide)
  · simp only [loF, List.mem_cons, List.not_mem_nil, or_false] at hp
    rcases hp with rfl | rfl | rfl
    · exact cat0 hn
    · exact catR_ok H (.inl rfl) (.inl rfl) hn
    · exact catK_ok (.inl rfl) (.inl rfl) hn
theorem lvF_hold {z : Int} (hz : (n : Int) = 65536 + z) (h1 : z = 1) : lvF.Hold (nuX9 g (b.e g zz0) n zz0) := by
  have vo := ovI_val (g := g) (e := b.e g zz0) hz (by omega) (by omega)
  have vl := lnI_val (g := g) (e := b.e g zz0) hz (by omega) (by omega)
  have vn : nuX9 g (b.e g zz0) n zz0 9000 = (n : Int) := nu9_n
  have hn : n < 1000000000 := by omega
  refine ⟨fun p hp => (by cases hp), fun p hp => ?_, fun p hp => ?_⟩
  · simp only [lvF, List.mem_cons, List.not_mem_nil, or_false] at hp
    rcases hp with rfl | rfl | rfl | rfl | rfl | rfl | rfl | rfl
    · show decide (ovI.val _ < -1) = false
      rw [vo]
      exact decide_eq_false (by omega)
    · show decide (ovI.val _ > 1) = false
      rw [vo]
      exact decide_eq_false (by omega)
    · show (lnI.val _ == nuX9 g (b.e g zz0) n zz0 9000) = true
      rw [vl, vn]
      exact beq_self_eq_true _
    · show decide (lnI.val _ ≥ 0) = true
      rw [vl]
      exact decide_eq_true (by omega)
    · show decide (nuX9 g (b.e g zz0) n zz0 (pinA (tg 2)) > ((65536 : Nat) : Int)) = true
      rw [pinA2]
      exact decide_eq_true (by omega)
    · show decide (ovI.val _ > 0) = true
      rw [vo]
      exact decide_eq_true (by omega)
    · exact ltF_ok (by decide) hn
    · exact eqF_ok (by decide)
  · simp only [lvF, List.mem_cons, List.not_mem_nil, or_false] at hp
    subst hp
    exact cat0 hn
theorem loG_ok {zz : Nat → Nat} (H : g.Ok n zz) (B : b.Ok g n zz) : ∀ r ∈ loG, r.OkG (nuX9 g (b.e g zz) n zz) Tryd.prog gl9 := by
  intro r hr
  rcases List.mem_append.1 hr with hr | hr
  · exact sgG_ok H r hr
  rcases List.mem_append.1 hr with hr | hr
  · exact okT_ok H r hr
  rcases List.mem_append.1 hr with hr | hr
  · exact vfG_ok H B r hr
  · simp only [List.mem_cons, List.not_mem_nil, or_false] at hr
    subst hr
    exact rowWk9_ok
theorem loM_ok {e : Ex} (H : g.Ok n zz0) (hn : n < 1000000000) : ∀ r ∈ loM, r.Ok (nuX9 g e n zz0) Tryd.prog gl9 := by
  intro r hr
  simp only [loM, List.mem_cons, List.not_mem_nil, or_false] at hr
  rcases hr with rfl | rfl | rfl | rfl | rfl
  · exact rowSeed_ok H
  · exact sg1_ok H (.inl rfl) hn
  · exact sg2_ok H (.inl rfl) hn
  · exact rowSeed_ok H
  · exact sg2_ok H (.inl rfl) hn
theorem lvM_ok {e : Ex} (H : g.Ok n zz0) : ∀ r ∈ lvM, r.Ok (nuX9 g e n zz0) Tryd.prog gl9 := by
  intro r hr
  simp only [lvM, List.mem_cons, List.not_mem_nil, or_false] at hr
  subst hr
  exact rowSeed_ok H
end
end Go.Proofs.YtheidgcgdkmmiaaDoor
