/-
  THE LADDER: what dh's product answers. Own work.
-/
import Derived.Test.YtlalonomdblhdaaDb
namespace Go.Proofs.Ytlalonomdblhdaa
open Go.Sh
set_option maxRecDepth 100000

theorem eget : (heapL dnowE.H dnowE.n).get 66 = some (b32 (cel 7)) := by kernel_rfl
theorem nubE (r : Nat) : concT (nub [0, 0, 0, 0, 0, 0, 0, r]) (cel 7) = some (celV r) := by kernel_rfl
theorem nubE' (k u x2 z2 x3 z3 q r : Nat) : concT (nub [k, u, x2, z2, x3, z3, q, r]) (cel 7) = some (celV r) := by kernel_rfl
theorem e_named {w0 : World} {k u x2 z2 x3 z3 q r : Nat} {act : Act} {w : World} (h : Holds 36 w0 (nub [k, u, x2, z2, x3, z3, q, r]) dnowE act w) : Holds 36 w0 (nub [0, 0, 0, 0, 0, 0, 0, r]) dnowE act w := by
  refine Holds.renumS (e := dnowE.e) (H := dnowE.H) (n := dnowE.n) h (by decide) (fun p hp => ?_) fun p hp => ?_
  · simp only [dnowE, List.mem_cons, List.not_mem_nil, or_false] at hp
    subst hp
    exact .inr ⟨66, 0, rfl, by decide, by simp [dnowE]⟩
  · simp only [dnowE, List.mem_cons, List.not_mem_nil, or_false] at hp
    subst hp
    exact ⟨by decide, by decide, b32 (cel 7), celV r, eget, rfl, rfl, blk32_map _, nubE' k u x2 z2 x3 z3 q r, nubE r⟩
theorem e_row1 {k u x2 z2 x3 z3 q r : Nat} (m2 : z2 < B4) (hq : z2 ^ expInv % prime = q) : (⟨27, [rw8 3], rw8 6⟩ : Row).Ok (nub [k, u, x2, z2, x3, z3, q, r]) Try.prog := rowInvB m2 (by kernel_rfl) (by rw [hq]; kernel_rfl)
theorem e_row2 {k u x2 z2 x3 z3 q r : Nat} (l2 : x2 < B4) (lq : q < B4) (hr : x2 * q % prime = r) : (⟨26, [rw8 2, rw8 6], rw8 7⟩ : Row).Ok (nub [k, u, x2, z2, x3, z3, q, r]) Try.prog := rowMulB l2 lq (by kernel_rfl) (by kernel_rfl) (by rw [hr]; kernel_rfl)

theorem product_run (k u : Nat) (hu : u < B4) (w0 : World) : Tri Try.prog 36 (.seq dpA (.seq dpB (.seq (.seq dpC (.block 0 (.loop dBody))) dpE))) (Holds 36 w0 (nub [k, u]) dnow0) fun ex act w => (ex = .normal ∨ ex = .ret) ∧ Holds 36 w0 (nub [0, 0, 0, 0, 0, 0, 0, (lad k (em u)).val]) dnowE act w := by
  refine Tri.seq (Tri.run (noFacts_hold _) mixed tab_ok (fun r hr => by cases hr) dgoA) ?_ (fun ex a w hne h => (hne h.1).elim)
  refine Tri.weak (Pre := Holds 36 w0 (nub [k, u]) dnowA) ?_ (fun _ _ h => h.2) (fun _ _ _ h => h)
  refine Tri.seq (Tri.run (noFacts_hold _) mixed tab_ok (fun r hr => by cases hr) dgoB) ?_ (fun ex a w hne h => (hne h.1).elim)
  refine Tri.weak (Pre := Holds 36 w0 (nub [k, u]) dnowB) ?_ (fun _ _ h => h.2) (fun _ _ _ h => h)
  refine Tri.seq (Mid := fun ex act w => ex = .normal ∧ dJ w0 k u 0 act w) ?_ ?_ (fun ex a w hne h => (hne h.1).elim)
  · refine Tri.seq (Tri.run (noFacts_hold _) mixed tab_ok (fun r hr => by cases hr) dgoC) ?_ (fun ex a w hne h => (hne h.1).elim)
    refine Tri.weak (Pre := dJ w0 k u 255) ?_ (fun act w h => ?_) (fun _ _ _ h => h)
    · refine Tri.block (d_loop w0 k u hu) (fun a w h => by cases h.1) (fun act w h => ⟨rfl, h.2⟩) (fun j a w hj h => ?_) (fun a w h => by cases h.1)
      have := h.1
      simp only [Ex.exit.injEq] at this
      exact (hj this).elim
    · obtain ⟨q0, q1, q2, q3⟩ := dgetI dInit
      refine ⟨Nat.le_refl _, 1, 0, u, 1, by decide, by decide, hu, by decide, lad_begin k u, fun l => ?_⟩
      exact d_named h.2 (by decide) q0 q1 q2 q3 (nub0 k _) (nub1 k u _) (nub0 k _) (nub1 k u _) (nubInit k u []) (nubIn k u 1 0 u 1 l)
  · intro c hc act w ⟨_, hi, x2, z2, x3, z3, l2, m2, l3, m3, hs, hH⟩
    have rows : ∀ r ∈ dET, r.Ok (nub [k, u, x2, z2, x3, z3, z2 ^ expInv % prime, (lad k (em u)).val]) Try.prog := by
      intro r hr
      simp only [dET, List.mem_cons, List.not_mem_nil, or_false] at hr
      rcases hr with rfl | rfl
      · exact e_row1 m2 rfl
      · exact e_row2 l2 (prime_lt _) (lad_end hs)
    exact ((Tri.run (noFacts_hold _) mixed tab_ok rows dgoE).weak (fun _ _ h => h) (fun ex act w h => ⟨.inr h.1, e_named h.2⟩)) c hc act w (hH _)

theorem dp_args : ∀ p ∈ dnow0.e, ([rw8 0, rw8 1] : List AV)[p.1]? = some p.2 := by
  intro p hp
  simp only [dnow0, List.mem_cons, List.not_mem_nil, or_false] at hp
  rcases hp with rfl | rfl <;> rfl
theorem dp_ins (k u : Nat) : concT (nub [k, u]) [rw8 0, rw8 1] = some [byt k, byt u] := by kernel_rfl
theorem dp_outs (r : Nat) : conc (nub [0, 0, 0, 0, 0, 0, 0, r]) (rw8 7) = some (byt r) := by kernel_rfl
theorem dp_res : resA (trL dnowE.e) (heapL dnowE.H dnowE.n) [.c 4 (some 32)] = some (rw8 7) := by kernel_rfl
theorem dp_tab : tree.get 15 = some t15 := by kernel_rfl

/-- WHAT product ANSWERS. -/
theorem product_ok (k u : Nat) (hu : u < B4) : Pure Try.prog 15 [byt k, byt u] (byt (lad k (em u)).val) := by
  have key := product_run k u hu
  generalize (lad k (em u)).val = r at key ⊢
  exact pure_tri (ν := nub [k, u]) (ν' := nub [0, 0, 0, 0, 0, 0, 0, r]) (args := [rw8 0, rw8 1]) (r := rw8 7) (o := dnowE) tree tab_ok dp_tab dp_shape (dp_ins k u) (by decide) dnow0.e dp_args key dp_res (dp_outs r)

end Go.Proofs.Ytlalonomdblhdaa
