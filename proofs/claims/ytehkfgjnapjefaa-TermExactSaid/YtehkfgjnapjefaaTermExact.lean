/-
  TermExact: whatever is made, in any order, right or not: each answer, and each node, is the page's. For all steps and places.
-/
import Derived.Test.YtehkfgjnapjefaaSPk
namespace Go.Proofs.Ytehkfgjnapjefaa
open Go.ChangeShapes Go.WideShapes Go.ChangeAt Go.RowKit Go.Maps
set_option maxRecDepth 100000
section
attribute [local go_sem ↓] Go.wp_at_zero Go.wp_at_succ
set_option maxHeartbeats 4000000 in
theorem exact_low (v : Value) (at_ : Int) (S : List St) (w : World) (H1 : Hid (Steps w v S)) : Calls Try.prog 3 #[v, .int .i64 at_] w fun e w' => e = .returned (.bool true) ∧ Below w.heap.size w w' := by
  go_enter Try.func3, Try.ntmps3
  go_wp2_with (first
    | (go_at_call 11; refine (heavy_ok H1.out).mono ?_; rintro ev w ⟨rfl, r1, rfl, hr⟩; have R1 := (show Hid _ from hr); clear hr)
    | (go_at_call 12; refine (build_ok H1.out (R1.out (by first | assumption | simpa using ‹¬ r1 = true›)).2).mono ?_; rintro ev w1 ⟨aa, bb, L, rfl, T, hL⟩; clear R1))
  · go_ret
    exact ⟨rfl, Below.refl _ _⟩
  go_loopw [8] (fun i wr => ∃ j : Nat, i = .int .i64 j ∧ j ≤ L.length ∧ Two w wr aa bb L L) (fun i _ => L.length - (intOf i).toNat)
  case atStart => exact ⟨0, rfl, by omega, T⟩
  case round =>
    obtain ⟨j, rfl, hj, T⟩ := hrel
    obtain ⟨np, cp, x4, _⟩ := T.head
    by_cases hlt : j < L.length
    · obtain ⟨⟨k, m, xs⟩, hat⟩ : ∃ t, L[j]? = some t := ⟨_, List.getElem?_eq_getElem hlt⟩
      have HAT := (show Hid _ from hat)
      clear hat
      go_wp2
      clear x4
      go_loopw [9] (fun i wr => ∃ q : Nat, i = .int .i64 q ∧ q ≤ 2 ∧ Two w wr aa bb L L) (fun i _ => 2 - (intOf i).toNat)
      case atStart => exact ⟨0, rfl, by omega, T⟩
      case round =>
        obtain ⟨q, rfl, hq, T⟩ := hrel
        by_cases hq2 : q < 2
        · go_wp2_with (go_at_call 13; refine (node_two T HAT.out).mono ?_; rintro ev w2 ⟨p, c, rfl, R⟩; clear T)
          have R3 := R.alloc (.cells #[.int .i64 k, .int .i64 m, .slice p xs.length c] 33)
          have e0 : (w2.alloc (.cells #[.int .i64 k, .int .i64 m, .slice p xs.length c] 33)).cell? ⟨w2.heap.size, 0, none⟩ = some (.int .i64 k) := by simp [go_sem]
          have e1 : (w2.alloc (.cells #[.int .i64 k, .int .i64 m, .slice p xs.length c] 33)).cell? ⟨w2.heap.size, 1, none⟩ = some (.int .i64 m) := by simp [go_sem]
          have e2 : (w2.alloc (.cells #[.int .i64 k, .int .i64 m, .slice p xs.length c] 33)).cell? ⟨w2.heap.size, 2, none⟩ = some (.slice p xs.length c) := by simp [go_sem]
          have hh3 : w2.heap.size < (w2.alloc (.cells #[.int .i64 k, .int .i64 m, .slice p xs.length c] 33)).heap.size := by simp
          clear R
          generalize w2.alloc (.cells #[.int .i64 k, .int .i64 m, .slice p xs.length c] 33) = w3 at *
          generalize w2.heap.size = h at *
          obtain ⟨g, cp, p4, c4, y0, hbb, hg, n0, n1, n2, hrd, hxl, hjl⟩ := R3.two.pnode HAT.out
          have HRD := (show Hid _ from hrd)
          clear hrd
          go_region_held3 (fun w' => w'.cell? ⟨bb, 0, none⟩ = some (.slice (some ⟨g, 0, none⟩) L.length cp) ∧ w'.cell? ⟨g, j * 3, none⟩ = some (.int .i64 k) ∧ w'.cell? ⟨g, j * 3 + 1, none⟩ = some (.int .i64 m) ∧ w'.cell? ⟨g, j * 3 + 2, none⟩ = some (.slice p4 xs.length c4) ∧ w'.cell? ⟨h, 0, none⟩ = some (.int .i64 k) ∧ w'.cell? ⟨h, 1, none⟩ = some (.int .i64 m) ∧ w'.cell? ⟨h, 2, none⟩ = some (.slice p xs.length c))
            (first | exact ⟨y0, n0, n1, n2, e0, e1, e2⟩ | exact S3)
            (first
            | (go_at_call 14; refine (term_ok (w := w3.drew) k m k m (by omega) (RdW.below R3.rd (Below.refl _ _).drew) (RdW.below HRD.out (Below.refl _ _).drew)).mono ?_; rintro ev w4 ⟨rfl, B3⟩; rw [show decide ((k, m, xs) = (k, m, xs)) = true from decide_eq_true rfl]
               have S3 := And.intro ((B3.cell (p := ⟨bb, 0, none⟩) hbb).trans y0) (And.intro ((B3.cell (p := ⟨g, j * 3, none⟩) hg).trans n0) (And.intro ((B3.cell (p := ⟨g, j * 3 + 1, none⟩) hg).trans n1) (And.intro ((B3.cell (p := ⟨g, j * 3 + 2, none⟩) hg).trans n2) (And.intro ((B3.cell (p := ⟨h, 0, none⟩) hh3).trans e0) (And.intro ((B3.cell (p := ⟨h, 1, none⟩) hh3).trans e1) ((B3.cell (p := ⟨h, 2, none⟩) hh3).trans e2)))))))
            | (go_at_call 30; fail))
          try simp only [Exit.then]
          have y2 := (B3.cell (p := ⟨h, 2, none⟩) hh3).trans e2
          have R4 := R3.step ((Below.refl _ w3).drew.trans B3)
          clear R3 S3 y0 n0 n1 n2 e0 e1 e2
          go_wp2_with (go_at_call 15; refine (spoil_two R4 (by omega)).mono ?_; rintro ev w8 ⟨⟨r8, rfl⟩, T8⟩; clear R4)
          exact ⟨⟨q + 1, by simp, by omega, T8⟩, by simp [intOf]; omega⟩
        · go_wp2
          exact ⟨⟨j + 1, by simp, by omega, T⟩, by simp [intOf]; omega⟩
    · by_cases hin : 0 ≤ at_ ∧ at_ < L.length
      · obtain ⟨q, rfl⟩ : ∃ q : Nat, at_ = q := ⟨at_.toNat, by omega⟩
        have hqL : q < L.length := by omega
        obtain ⟨⟨k, m, xs⟩, hat⟩ : ∃ t, L[q]? = some t := ⟨_, List.getElem?_eq_getElem hqL⟩
        have HAT := (show Hid _ from hat)
        have hd : decide (∀ x ∈ [(q : Int)], 0 ≤ x ∧ x < (L.length : Int)) = true := decide_eq_true (fun x hx => by simp at hx; omega)
        clear hat hin
        go_wp2_with (first
          | (go_at_call 13; refine (node_two T HAT.out).mono ?_; rintro ev w2 ⟨p, c, rfl, R⟩; have T2 := R.two; clear T R x4)
          | (go_at_call 16; refine (has_two ((T2.alloc _).alloc _) (lit_two _ _ _ _) (by simp)).mono ?_; rintro ev w5 ⟨rfl, T5, B5⟩; rw [hd]; clear T2)
          | (go_at_call 17; refine (wakes_ok _).mono ?_; rintro ev w6 ⟨rfl, B6⟩))
        go_ret
        exact ⟨rfl, T5.below.trans (B6.mono T5.below.size)⟩
      · have hd : decide (∀ x ∈ [at_], 0 ≤ x ∧ x < (L.length : Int)) = false := decide_eq_false (fun h => hin (by simpa using h))
        have HI := (show Hid _ from hin)
        clear hin
        go_wp2_with (first
          | (go_at_call 13; refine (node_two_no T at_ HI.out).mono ?_; rintro ev w2 ⟨rfl, T2⟩; clear T x4)
          | (go_at_call 16; refine (has_two ((T2.alloc _).alloc _) (lit_two _ _ _ _) (by simp)).mono ?_; rintro ev w5 ⟨rfl, T5, B5⟩; rw [hd]
             have z0 : w5.cell? ⟨w2.heap.size, 0, none⟩ = some (.int .i64 0) := (B5.cell (p := ⟨w2.heap.size, 0, none⟩) (by simp; omega)).trans (by simp [go_sem])
             have z1 : w5.cell? ⟨w2.heap.size, 1, none⟩ = some (.int .i64 0) := (B5.cell (p := ⟨w2.heap.size, 1, none⟩) (by simp; omega)).trans (by simp [go_sem])
             have z2 : w5.cell? ⟨w2.heap.size, 2, none⟩ = some (.slice none 0 0) := (B5.cell (p := ⟨w2.heap.size, 2, none⟩) (by simp; omega)).trans (by simp [go_sem])
             clear T2 B5)
          | (go_at_call 14; refine (term_ok (xs := []) (ys := []) 0 0 0 0 (by simp) ⟨none, 0, rfl, .inl rfl⟩ ⟨none, 0, rfl, .inl rfl⟩).mono ?_; rintro ev w7 ⟨rfl, B7⟩; rw [show decide (((0 : Int), (0 : Int), ([] : List Int)) = (0, 0, [])) = true from decide_eq_true rfl])
          | (go_at_call 17; refine (wakes_ok _).mono ?_; rintro ev w6 ⟨rfl, B6⟩))
        go_ret
        exact ⟨rfl, T5.below.trans ((B7.trans (B6.mono B7.size)).mono T5.below.size)⟩
end
theorem termExact_law {v : Value} {S : List St} {w : World} (h : Steps w v S) (at_ : Int) : Calls Try.prog 3 #[v, .int .i64 at_] w fun e w' => e = .returned (.bool true) ∧ Below w.heap.size w w' := exact_low v at_ S w h
theorem termExact_lifted (os : Os) (started : os.Started) (H : Type) (enc : TypeId × Value → H) :
    ReturnsInHanded {} Try.checked os 3 .any (Rows.termExactSpec.pre6 enc Try.prog Try.f3 Rows.termExactRow.domain false) (Rows.termExactSpec.post enc Try.prog Try.f3 false true false false) := by
  refine returnsInHanded_of_change (C := Try.checked) own started (by kernel_rfl) Try.func3
    (ChangeSpec.witness6 (enc := enc) (C := Try.checked) false ⟨#[], #[.slice none 0 0, .int .i64 0], []⟩ 8 (by kernel_rfl) (by kernel_rfl) (by kernel_rfl) (by kernel_rfl)) ?_
  intro W base args ds gs before hval0 hW hcnd _
  have hval : ∀ (j : Nat) t v, Try.f3.params[j]? = some t → args[j]? = some v → Value.okWide Try.prog W .any base t v := hval0
  have hW' := hW
  obtain ⟨p, q, hA0, hV, rfl, hfz, hnd⟩ := hW
  have hA : DataW.TrodAll enc Try.prog W 0 (fun _ => true) true Try.f3.params.toList args.toList ds p := hA0
  rw [Try.params3] at hA hval
  obtain ⟨v0, vs0, d0, ds0, p0, q0, hargs, rfl, rfl, h0, r0⟩ := trodAll_cons hA
  obtain ⟨v1, vs1, d1, ds1, p1, q1, rfl, rfl, rfl, h1, r1⟩ := trodAll_cons r0
  obtain ⟨rfl, rfl, rfl⟩ := trodAll_nil r1
  obtain rfl : args = #[v0, v1] := by cases args; simp_all
  obtain ⟨rfl, rfl⟩ := trodVars_none hV
  obtain ⟨z0, k0⟩ := open_steps (hval 0 _ v0 rfl rfl) h0
  obtain ⟨a1, rfl, rfl, rfl, b1⟩ := open_int Try.underlying3 (hval 1 _ v1 rfl rfl) h1
  have s1 := plain_int (H := H) Try.underlying3 b1
  clear hA0 hval0
  simp only [List.append_nil, List.nil_append] at hW'
  have hlt : ∀ x ∈ p0, x.block < W.heap.size := fun x hx => hW'.lt x hx
  refine (termExact_law k0 a1).mono fun e W' ⟨he, hg⟩ => ?_
  subst he
  exact ⟨_, rfl, post_below (pa := p0) (pv := []) hW' (fun _ _ _ => trodAll_cons_mk (shut_bool Try.underlying4 _) trodAll_mk0) (fun sp hsp => (by have hh := (trodAll_cons_mk (kept_arg laidOut (by kernel_rfl) (of_decide_eq_true (by kernel_rfl)) h0 hg (fun x hx => hlt x (by simp [hx])) (fun x hx => hsp x (by simp [hx]))) (trodAll_cons_mk (s1 _ _ _ _ _) trodAll_mk0)); simp only [List.append_nil] at hh; exact hh)) (fun _ _ => rfl) (by simp)
    hg (ok_one (by kernel_rfl) rfl (okWide_bool_mk Try.underlying4 _))⟩

/-- THE STATEMENT. -/
theorem termExact_holds : Rows.TermExactSaid :=
  OpenClaim.holds_of_wide 3 Try.f3 rfl rfl rfl rfl rfl rfl rfl ⟨rfl, rfl, rfl, rfl, rfl⟩ rfl rfl rfl rfl rfl (by kernel_rfl) Try.func3 (by kernel_rfl)
    (of_decide_eq_true (by kernel_rfl)) (by unfold Func.isWrapper; first | (rw [if_pos (by decide +kernel)]; kernel_rfl) | (rw [if_neg (by decide +kernel)]; exact ⟨rfl, rfl⟩))
    (fun os started H enc _ => termExact_lifted os started H enc)
#print axioms termExact_holds

end Go.Proofs.Ytehkfgjnapjefaa
