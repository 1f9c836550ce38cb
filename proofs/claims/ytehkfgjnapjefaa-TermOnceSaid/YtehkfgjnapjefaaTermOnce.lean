/-
  TermOnce: made again each term is what it was, and nothing grows; what is made of others stands behind them. For all steps.
-/
import Derived.Test.YtehkfgjnapjefaaSPj
namespace Go.Proofs.Ytehkfgjnapjefaa
open Go.ChangeShapes Go.WideShapes Go.ChangeAt Go.RowKit Go.Maps
set_option maxRecDepth 100000
section
attribute [local go_sem ↓] Go.wp_at_zero Go.wp_at_succ
set_option maxHeartbeats 8000000 in
theorem once_low (v : Value) (S : List St) (w : World) (H1 : Hid (Steps w v S)) : Calls Try.prog 5 #[v] w fun e w' => e = .returned (.bool true) ∧ Below w.heap.size w w' := by
  go_enter Try.func5, Try.ntmps5
  go_wp2_with (first
    | (go_at_call 11; refine (heavy_ok H1.out).mono ?_; rintro ev w ⟨rfl, r1, rfl, hr⟩; have R1 := (show Hid _ from hr); clear hr)
    | (go_at_call 12; refine (build_ok H1.out (R1.out (by first | assumption | simpa using ‹¬ r1 = true›)).2).mono ?_; rintro ev w1 ⟨aa, bb, L, rfl, T, hL⟩; have O := T.one; clear T R1)
    | (go_at_call 28; refine (len_one O).mono ?_; rintro ev w' ⟨rfl, rfl⟩))
  · go_ret
    exact ⟨rfl, Below.refl _ _⟩
  go_loopw [7] (fun i wr => ∃ j : Nat, i = .int .i64 j ∧ j ≤ L.length ∧ One w wr aa L) (fun i _ => L.length - (intOf i).toNat)
  case atStart => exact ⟨0, rfl, by omega, O⟩
  case round =>
    obtain ⟨j, rfl, hj, O⟩ := hrel
    by_cases hlt : j < L.length
    · obtain ⟨⟨k, m, xs⟩, hat⟩ : ∃ t, L[j]? = some t := ⟨_, List.getElem?_eq_getElem hlt⟩
      have hxl : xs.length ≤ 400 := by
        obtain ⟨h1, h2⟩ := List.getElem?_eq_some_iff.1 hat
        have := (shape_k (O.wf.good j h1).1).2.2.2
        rwa [h2] at this
      have HAT := (show Hid _ from hat)
      have hwf := O.wf
      have HWF := (show Hid (Wf L) from hwf)
      clear hat hwf
      go_wp2_with (go_at_call 13; refine (node_one O HAT.out).mono ?_; rintro ev w2 ⟨p, c, rfl, hown, B2, O2⟩; clear O)
      have O3 := O2.alloc (.cells #[.int .i64 k, .int .i64 m, .slice p xs.length c] 33)
      have e0 : (w2.alloc (.cells #[.int .i64 k, .int .i64 m, .slice p xs.length c] 33)).cell? ⟨w2.heap.size, 0, none⟩ = some (.int .i64 k) := by simp [go_sem]
      have e1 : (w2.alloc (.cells #[.int .i64 k, .int .i64 m, .slice p xs.length c] 33)).cell? ⟨w2.heap.size, 1, none⟩ = some (.int .i64 m) := by simp [go_sem]
      have e2 : (w2.alloc (.cells #[.int .i64 k, .int .i64 m, .slice p xs.length c] 33)).cell? ⟨w2.heap.size, 2, none⟩ = some (.slice p xs.length c) := by simp [go_sem]
      have hown3 := hown.alloc (.cells #[.int .i64 k, .int .i64 m, .slice p xs.length c] 33)
      have HR := (show Hid _ from hown3)
      clear hown hown3 O2
      generalize w2.alloc (.cells #[.int .i64 k, .int .i64 m, .slice p xs.length c] 33) = w3 at *
      generalize w2.heap.size = h at *
      go_loopw [10] (fun q wr => ∃ t : Nat, q = .int .i64 t ∧ t ≤ xs.length ∧ wr = w3) (fun q _ => xs.length - (intOf q).toNat)
      case atStart => exact ⟨0, rfl, by omega, rfl⟩
      case round =>
        obtain ⟨t, rfl, ht, rfl⟩ := hrel
        by_cases htl : t < xs.length
        · obtain ⟨g, rfl, _, _, _, hc⟩ := row_open HR.out (by omega)
          have hcell := hc t (by omega)
          rw [List.getElem?_map, List.getElem?_eq_getElem htl] at hcell
          have hb := arg_in HWF.out HAT.out htl
          rw [List.getD_eq_getElem?_getD, List.getElem?_eq_getElem htl] at hb
          simp only [Option.map_some, Option.getD_some] at hcell hb
          generalize xs[t] = x at hcell hb
          obtain ⟨hb0, hb1⟩ := hb
          have hd0 : ¬ x < 0 := by omega
          have hd1 : ¬ (j : Int) ≤ x := by omega
          clear hc
          go_wp2
          exact ⟨⟨t + 1, by simp, by omega, trivial⟩, by simp [intOf]; omega⟩
        · go_wp2_with (first
            | (go_at_call 29; refine (make_again O3 HAT.out (irow_of HR.out).reads).mono ?_; rintro ev w4 ⟨rfl, O4⟩; clear O3)
            | (go_at_call 28; refine (len_one O4).mono ?_; rintro ev w' ⟨rfl, rfl⟩))
          exact ⟨⟨j + 1, by simp, by omega, O4⟩, by simp [intOf]; omega⟩
    · go_wp2_with (go_at_call 17; refine (wakes_ok _).mono ?_; rintro ev w6 ⟨rfl, B6⟩)
      go_ret
      exact ⟨rfl, O.below.trans (B6.mono O.below.size)⟩
end
theorem termOnce_law {v : Value} {S : List St} {w : World} (h : Steps w v S) : Calls Try.prog 5 #[v] w fun e w' => e = .returned (.bool true) ∧ Below w.heap.size w w' := once_low v S w h
theorem termOnce_lifted (os : Os) (started : os.Started) (H : Type) (enc : TypeId × Value → H) :
    ReturnsInHanded {} Try.checked os 5 .any (Rows.termOnceSpec.pre6 enc Try.prog Try.f5 Rows.termOnceRow.domain false) (Rows.termOnceSpec.post enc Try.prog Try.f5 false true false false) := by
  refine returnsInHanded_of_change (C := Try.checked) own started (by kernel_rfl) Try.func5
    (ChangeSpec.witness6 (enc := enc) (C := Try.checked) false ⟨#[], #[.slice none 0 0], []⟩ 8 (by kernel_rfl) (by kernel_rfl) (by kernel_rfl) (by kernel_rfl)) ?_
  intro W base args ds gs before hval0 hW hcnd _
  have hval : ∀ (j : Nat) t v, Try.f5.params[j]? = some t → args[j]? = some v → Value.okWide Try.prog W .any base t v := hval0
  have hW' := hW
  obtain ⟨p, q, hA0, hV, rfl, hfz, hnd⟩ := hW
  have hA : DataW.TrodAll enc Try.prog W 0 (fun _ => true) true Try.f5.params.toList args.toList ds p := hA0
  rw [Try.params5] at hA hval
  obtain ⟨v0, vs0, d0, ds0, p0, q0, hargs, rfl, rfl, h0, r0⟩ := trodAll_cons hA
  obtain ⟨rfl, rfl, rfl⟩ := trodAll_nil r0
  obtain rfl : args = #[v0] := by cases args; simp_all
  obtain ⟨rfl, rfl⟩ := trodVars_none hV
  obtain ⟨z0, k0⟩ := open_steps (hval 0 _ v0 rfl rfl) h0
  clear hA0 hval0
  simp only [List.append_nil, List.nil_append] at hW'
  have hlt : ∀ x ∈ p0, x.block < W.heap.size := fun x hx => hW'.lt x hx
  refine (termOnce_law k0).mono fun e W' ⟨he, hg⟩ => ?_
  subst he
  exact ⟨_, rfl, post_below (pa := p0) (pv := []) hW' (fun _ _ _ => trodAll_cons_mk (shut_bool Try.underlying4 _) trodAll_mk0) (fun sp hsp => (by have hh := (trodAll_cons_mk (kept_arg laidOut (by kernel_rfl) (of_decide_eq_true (by kernel_rfl)) h0 hg (fun x hx => hlt x (by simp [hx])) (fun x hx => hsp x (by simp [hx]))) trodAll_mk0); simp only [List.append_nil] at hh; exact hh)) (fun _ _ => rfl) (by simp)
    hg (ok_one (by kernel_rfl) rfl (okWide_bool_mk Try.underlying4 _))⟩

/-- THE STATEMENT. -/
theorem termOnce_holds : Rows.TermOnceSaid :=
  OpenClaim.holds_of_wide 5 Try.f5 rfl rfl rfl rfl rfl rfl rfl ⟨rfl, rfl, rfl, rfl, rfl⟩ rfl rfl rfl rfl rfl (by kernel_rfl) Try.func5 (by kernel_rfl)
    (of_decide_eq_true (by kernel_rfl)) (by unfold Func.isWrapper; first | (rw [if_pos (by decide +kernel)]; kernel_rfl) | (rw [if_neg (by decide +kernel)]; exact ⟨rfl, rfl⟩))
    (fun os started H enc _ => termOnce_lifted os started H enc)
#print axioms termOnce_holds

end Go.Proofs.Ytehkfgjnapjefaa
