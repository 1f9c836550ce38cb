/-
  TermMemory: what is told of terms is the caller's own: written over, it is told again as it was. For all steps.
-/
import Derived.Test.YtehkfgjnapjefaaSPq
namespace Go.Proofs.Ytehkfgjnapjefaa
open Go.ChangeShapes Go.WideShapes Go.ChangeAt Go.RowKit Go.Maps
set_option maxRecDepth 100000
section
attribute [local go_sem ↓] Go.wp_at_zero Go.wp_at_succ
set_option maxHeartbeats 8000000 in
theorem memory_low (v : Value) (S : List St) (w : World) (H1 : Hid (Steps w v S)) : Calls Try.prog 8 #[v] w fun e w' => e = .returned (.bool true) ∧ Below w.heap.size w w' := by
  go_enter Try.func8, Try.ntmps8
  go_wp2_with (first
    | (go_at_call 11; refine (heavy_ok H1.out).mono ?_; rintro ev w ⟨rfl, r1, rfl, hr⟩; have R1 := (show Hid _ from hr); clear hr)
    | (go_at_call 12; refine (build_ok H1.out (R1.out (by first | assumption | simpa using ‹¬ r1 = true›)).2).mono ?_; rintro ev w1 ⟨aa, bb, L, rfl, T, hL⟩; clear R1))
  · go_ret
    exact ⟨rfl, Below.refl _ _⟩
  go_loopw [6] (fun i wr => ∃ j : Nat, i = .int .i64 j ∧ j ≤ L.length ∧ Two w wr aa bb L L) (fun i _ => L.length - (intOf i).toNat)
  case atStart => exact ⟨0, rfl, by omega, T⟩
  case round =>
    obtain ⟨j, rfl, hj, T⟩ := hrel
    obtain ⟨np, cp, x4, _⟩ := T.head
    by_cases hlt : j < L.length
    · have hbl := ben_len L j
      go_wp2_with (first
        | (go_at_call 26; refine (T.ben hlt).mono ?_; rintro ev w1 ⟨px, cx, rfl, ox, B1⟩; have hxb := fun k hk => (row_base ox (k := k) hk).2; have HXB := (show Hid _ from hxb); have RX := T.withRow B1 ox; clear T ox B1 hxb x4)
        | (go_at_call 26; refine (RX.two.ben hlt).mono ?_; rintro ev w2 ⟨py, cy, rfl, oy, B2⟩; have RX2 := RX.step B2; have OY := (show Hid _ from oy); clear RX B2 oy)
        | (go_at_call 21; refine (ints_ok (by omega) RX2.row.reads.rdw (irow_of OY.out).reads.rdw).mono ?_; rintro ev w3 ⟨rfl, B3⟩; rw [show decide (benOf L j = benOf L j) = true from decide_eq_true rfl]; have RX3 := RX2.step B3; have oy := own_step OY.out B3; have OY3 := (show Hid _ from oy); clear RX2 OY oy B3)
        | (go_at_call 15; refine (spoil_ok RX3.row (by omega)).mono ?_; rintro ev w4 ⟨⟨r4, rfl⟩, K4⟩; have T4 := RX3.spoiled K4; have oy := row_keeps OY3.out K4 (fun k hk hk2 => by have h1 := (row_base OY3.out hk).1; have h2 := HXB.out k hk2; omega); have OY4 := (show Hid _ from oy); clear RX3 OY3 oy K4 HXB)
        | (go_at_call 26; refine (T4.ben hlt).mono ?_; rintro ev w5 ⟨pz, cz, rfl, oz, B5⟩; have T5 := T4.step B5; have oy := own_step OY4.out B5; have OY5 := (show Hid _ from oy); have OZ := (show Hid _ from oz); clear T4 OY4 oy oz B5)
        | (go_at_call 21; refine (ints_ok (by omega) (irow_of OY5.out).reads.rdw (irow_of OZ.out).reads.rdw).mono ?_; rintro ev w6 ⟨rfl, B6⟩; rw [show decide (benOf L j = benOf L j) = true from decide_eq_true rfl]; have T6 := T5.step B6; clear T5 OY5 OZ B6))
      exact ⟨⟨j + 1, by simp, by omega, T6⟩, by simp [intOf]; omega⟩
    · go_wp2
      clear x4
      go_loopw [12] (fun i wr => ∃ j : Nat, i = .int .i64 j ∧ j ≤ L.length ∧ Two w wr aa bb L L) (fun i _ => L.length - (intOf i).toNat)
      case atStart => exact ⟨0, rfl, by omega, T⟩
      case round =>
        obtain ⟨j, rfl, hj, T⟩ := hrel
        obtain ⟨np, cp, x4, _⟩ := T.head
        by_cases hlt : j < L.length
        · obtain ⟨⟨k, m, xs⟩, hat⟩ : ∃ t, L[j]? = some t := ⟨_, List.getElem?_eq_getElem hlt⟩
          have HAT := (show Hid _ from hat)
          clear hat
          go_wp2_with (go_at_call 13; refine (node_two T HAT.out).mono ?_; rintro ev w2 ⟨p, c, rfl, R⟩; clear T x4)
          have R3 := R.alloc (.cells #[.int .i64 k, .int .i64 m, .slice p xs.length c] 33)
          have e0 : (w2.alloc (.cells #[.int .i64 k, .int .i64 m, .slice p xs.length c] 33)).cell? ⟨w2.heap.size, 0, none⟩ = some (.int .i64 k) := by simp [go_sem]
          have e1 : (w2.alloc (.cells #[.int .i64 k, .int .i64 m, .slice p xs.length c] 33)).cell? ⟨w2.heap.size, 1, none⟩ = some (.int .i64 m) := by simp [go_sem]
          have e2 : (w2.alloc (.cells #[.int .i64 k, .int .i64 m, .slice p xs.length c] 33)).cell? ⟨w2.heap.size, 2, none⟩ = some (.slice p xs.length c) := by simp [go_sem]
          have hh3 : w2.heap.size < (w2.alloc (.cells #[.int .i64 k, .int .i64 m, .slice p xs.length c] 33)).heap.size := by simp
          clear R
          generalize w2.alloc (.cells #[.int .i64 k, .int .i64 m, .slice p xs.length c] 33) = w3 at *
          generalize w2.heap.size = h at *
          obtain ⟨g, cp, p4, c4, y0, hbb, hg, n0, n1, n2, hrd, hxl, hjl⟩ := R3.two.pnode HAT.out
          have HRD := (show Hid _ from hrd)
          clear hrd
          go_region_held3 (fun w' => w'.cell? ⟨bb, 0, none⟩ = some (.slice (some ⟨g, 0, none⟩) L.length cp) ∧ w'.cell? ⟨g, j * 3, none⟩ = some (.int .i64 k) ∧ w'.cell? ⟨g, j * 3 + 1, none⟩ = some (.int .i64 m) ∧ w'.cell? ⟨g, j * 3 + 2, none⟩ = some (.slice p4 xs.length c4) ∧ w'.cell? ⟨h, 0, none⟩ = some (.int .i64 k) ∧ w'.cell? ⟨h, 1, none⟩ = some (.int .i64 m) ∧ w'.cell? ⟨h, 2, none⟩ = some (.slice p xs.length c))
            (first | exact ⟨y0, n0, n1, n2, e0, e1, e2⟩ | exact S3)
            (first
            | (go_at_call 14; refine (term_ok (w := w3.drew) k m k m (by omega) (RdW.below R3.rd (Below.refl _ _).drew) (RdW.below HRD.out (Below.refl _ _).drew)).mono ?_; rintro ev w4 ⟨rfl, B3⟩; rw [show decide ((k, m, xs) = (k, m, xs)) = true from decide_eq_true rfl]
               have S3 := And.intro ((B3.cell (p := ⟨bb, 0, none⟩) hbb).trans y0) (And.intro ((B3.cell (p := ⟨g, j * 3, none⟩) hg).trans n0) (And.intro ((B3.cell (p := ⟨g, j * 3 + 1, none⟩) hg).trans n1) (And.intro ((B3.cell (p := ⟨g, j * 3 + 2, none⟩) hg).trans n2) (And.intro ((B3.cell (p := ⟨h, 0, none⟩) hh3).trans e0) (And.intro ((B3.cell (p := ⟨h, 1, none⟩) hh3).trans e1) ((B3.cell (p := ⟨h, 2, none⟩) hh3).trans e2)))))))
            | (go_at_call 30; fail))
          try simp only [Exit.then]
          have R4 := R3.step ((Below.refl _ w3).drew.trans B3)
          clear R3 S3 y0 n0 n1 n2 e0 e1 e2
          go_wp2
          exact ⟨⟨j + 1, by simp, by omega, R4.two⟩, by simp [intOf]; omega⟩
        · go_wp2_with (go_at_call 17; refine (wakes_ok _).mono ?_; rintro ev w6 ⟨rfl, B6⟩)
          go_ret
          exact ⟨rfl, T.below.trans (B6.mono T.below.size)⟩
end
theorem termMemory_law {v : Value} {S : List St} {w : World} (h : Steps w v S) : Calls Try.prog 8 #[v] w fun e w' => e = .returned (.bool true) ∧ Below w.heap.size w w' := memory_low v S w h
theorem termMemory_lifted (os : Os) (started : os.Started) (H : Type) (enc : TypeId × Value → H) :
    ReturnsInHanded {} Try.checked os 8 .any (Rows.termMemorySpec.pre6 enc Try.prog Try.f8 Rows.termMemoryRow.domain false) (Rows.termMemorySpec.post enc Try.prog Try.f8 false true false false) := by
  refine returnsInHanded_of_change (C := Try.checked) own started (by kernel_rfl) Try.func8
    (ChangeSpec.witness6 (enc := enc) (C := Try.checked) false ⟨#[], #[.slice none 0 0], []⟩ 8 (by kernel_rfl) (by kernel_rfl) (by kernel_rfl) (by kernel_rfl)) ?_
  intro W base args ds gs before hval0 hW hcnd _
  have hval : ∀ (j : Nat) t v, Try.f8.params[j]? = some t → args[j]? = some v → Value.okWide Try.prog W .any base t v := hval0
  have hW' := hW
  obtain ⟨p, q, hA0, hV, rfl, hfz, hnd⟩ := hW
  have hA : DataW.TrodAll enc Try.prog W 0 (fun _ => true) true Try.f8.params.toList args.toList ds p := hA0
  rw [Try.params8] at hA hval
  obtain ⟨v0, vs0, d0, ds0, p0, q0, hargs, rfl, rfl, h0, r0⟩ := trodAll_cons hA
  obtain ⟨rfl, rfl, rfl⟩ := trodAll_nil r0
  obtain rfl : args = #[v0] := by cases args; simp_all
  obtain ⟨rfl, rfl⟩ := trodVars_none hV
  obtain ⟨z0, k0⟩ := open_steps (hval 0 _ v0 rfl rfl) h0
  clear hA0 hval0
  simp only [List.append_nil, List.nil_append] at hW'
  have hlt : ∀ x ∈ p0, x.block < W.heap.size := fun x hx => hW'.lt x hx
  refine (termMemory_law k0).mono fun e W' ⟨he, hg⟩ => ?_
  subst he
  exact ⟨_, rfl, post_below (pa := p0) (pv := []) hW' (fun _ _ _ => trodAll_cons_mk (shut_bool Try.underlying4 _) trodAll_mk0) (fun sp hsp => (by have hh := (trodAll_cons_mk (kept_arg laidOut (by kernel_rfl) (of_decide_eq_true (by kernel_rfl)) h0 hg (fun x hx => hlt x (by simp [hx])) (fun x hx => hsp x (by simp [hx]))) trodAll_mk0); simp only [List.append_nil] at hh; exact hh)) (fun _ _ => rfl) (by simp)
    hg (ok_one (by kernel_rfl) rfl (okWide_bool_mk Try.underlying4 _))⟩

/-- THE STATEMENT. -/
theorem termMemory_holds : Rows.TermMemorySaid :=
  OpenClaim.holds_of_wide 8 Try.f8 rfl rfl rfl rfl rfl rfl rfl ⟨rfl, rfl, rfl, rfl, rfl⟩ rfl rfl rfl rfl rfl (by kernel_rfl) Try.func8 (by kernel_rfl)
    (of_decide_eq_true (by kernel_rfl)) (by unfold Func.isWrapper; first | (rw [if_pos (by decide +kernel)]; kernel_rfl) | (rw [if_neg (by decide +kernel)]; exact ⟨rfl, rfl⟩))
    (fun os started H enc _ => termMemory_lifted os started H enc)
#print axioms termMemory_holds

end Go.Proofs.Ytehkfgjnapjefaa
