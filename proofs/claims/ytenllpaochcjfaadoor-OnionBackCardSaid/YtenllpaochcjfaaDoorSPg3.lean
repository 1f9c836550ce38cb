/-
  THE PAGE's Put, the walks: number 0, kind k. Own work.
-/
import Derived.Test.YtenllpaochcjfaaDoorSPg0
namespace Go.Proofs.YtenllpaochcjfaaDoor
open Go.RowKit Go.Maps
set_option maxRecDepth 100000
attribute [local go_sem ↓] Go.wp_at_zero Go.wp_at_succ
section
variable {w : World} {bb m cp : Nat} {np : Option Addr} {p : Option Addr} {l c : Nat} {xs : List Int} {L : List Tm} {F : Nat → Prop}
set_option maxHeartbeats 4000000 in
theorem pput_out0 (k : Int) (hk1 : 1 ≤ k) (hk9 : k ≤ 9) (A : Hid (PAr w bb L F)) (HV : Hid (RdW w (.slice p l c) xs)) (hl : xs.length = l) (h4 : l ≤ 400) (hcnt : decide (cntOk k l) = true) (hfit : decide (∀ x ∈ xs, 0 ≤ x ∧ x < (L.length : Int)) = false) : Calls Tryd.prog 37 #[.pointer (some ⟨bb, 0, none⟩), .int .i64 k, .int .i64 0, .slice p l c] w fun e w' => e = .returned (.tuple #[.int .i64 0, .int .i64 8]) ∧ Below w.heap.size w w' := by
  obtain ⟨np, cp, c0, hbb⟩ := A.out.head
  go_enter Tryd.func37, Tryd.ntmps37
  go_wp2_with (first
    | (go_at_call 56; refine (count_ok' _ _ _).mono ?_; rintro ev w' ⟨rfl, rfl⟩; rw [hcnt])
    | (go_at_call 15; refine (phas_ok hbb c0 HV.out (by omega)).mono ?_; rintro ev w1 ⟨rfl, B1⟩; rw [hfit]))
  go_ret2
  exact ⟨rfl, B1⟩
end
section
variable {w : World} {bb m cp : Nat} {np : Option Addr} {p : Option Addr} {l c : Nat} {xs : List Int} {L : List Tm} {F : Nat → Prop}
set_option maxHeartbeats 4000000 in
theorem pput_cnt0 (k : Int) (hk1 : 1 ≤ k) (hk9 : k ≤ 9) (hcnt : decide (cntOk k l) = false)  : Calls Tryd.prog 37 #[.pointer (some ⟨bb, 0, none⟩), .int .i64 k, .int .i64 0, .slice p l c] w fun e w' => e = .returned (.tuple #[.int .i64 0, .int .i64 2]) ∧ Below w.heap.size w w' := by
  go_enter Tryd.func37, Tryd.ntmps37
  go_wp2_with (go_at_call 56; refine (count_ok' _ _ _).mono ?_; rintro ev w' ⟨rfl, rfl⟩; rw [hcnt])
  go_ret2
  exact ⟨rfl, Below.refl _ _⟩
end
section
variable {w : World} {bb m cp : Nat} {np : Option Addr} {p : Option Addr} {l c : Nat} {xs : List Int} {L : List Tm} {F : Nat → Prop}
set_option maxHeartbeats 8000000 in
theorem pput_fit0 (k : Int) (hk1 : 1 ≤ k) (hk9 : k ≤ 9) (A : Hid (PAr w bb L F)) (HV : Hid (RdW w (.slice p l c) xs)) (HN : Hid (NilCap (.slice p l c))) (hl : xs.length = l) (h4 : l ≤ 400) (hcnt : decide (cntOk k l) = true) (hfit : decide (∀ x ∈ xs, 0 ≤ x ∧ x < (L.length : Int)) = true) (HM : Hid (Named (k, 0, xs))) : Calls Tryd.prog 37 #[.pointer (some ⟨bb, 0, none⟩), .int .i64 k, .int .i64 0, .slice p l c] w fun e w' => e = .returned (.tuple #[.int .i64 (put L (k, 0, xs)).1, .int .i64 (put L (k, 0, xs)).2.1]) ∧ ∃ F', PAr w' bb (put L (k, 0, xs)).2.2 F' ∧ Keeps F w w' ∧ ∀ k, F' k → F k ∨ w.heap.size ≤ k := by
  obtain ⟨np, cp, vs, c0, f0, hrow, hR, ho⟩ := A.out.ex
  have hbb := A.out.lt _ A.out.self
  have hmax := A.out.wf.len
  have HR := (show Hid _ from hR)
  have HO := (show Hid _ from ho)
  have HW := (show Hid _ from hrow)
  have hff : fitsIn L.length (k, 0, xs) := of_decide_eq_true hfit
  have HF := (show Hid _ from hff)
  clear hR ho hff hrow
  generalize hm : L.length = m at *
  go_enter Tryd.func37, Tryd.ntmps37
  go_wp2_with (first
    | (go_at_call 56; refine (count_ok' _ _ _).mono ?_; rintro ev w ⟨rfl, rfl⟩; rw [hcnt])
    | (go_at_call 15; refine (phas_ok hbb c0 HV.out (by omega)).mono ?_; rintro ev w1 ⟨rfl, B1⟩; rw [hfit]))
  have hs1 := B1.size
  have hbb1 : bb < w1.heap.size := Nat.lt_of_lt_of_le hbb hs1
  have hB2 : Below w.heap.size w (w1.alloc (.cells #[.int .i64 k, .int .i64 0, .slice p l c] 79)) := B1.alloc hs1 _
  have d0 : (w1.alloc (.cells #[.int .i64 k, .int .i64 0, .slice p l c] 79)).cell? ⟨w1.heap.size, 0, none⟩ = some (.int .i64 k) := by simp [go_sem]
  have d1 : (w1.alloc (.cells #[.int .i64 k, .int .i64 0, .slice p l c] 79)).cell? ⟨w1.heap.size, 1, none⟩ = some (.int .i64 0) := by simp [go_sem]
  have d2 : (w1.alloc (.cells #[.int .i64 k, .int .i64 0, .slice p l c] 79)).cell? ⟨w1.heap.size, 2, none⟩ = some (.slice p l c) := by simp [go_sem]
  have e2 : (w1.alloc (.cells #[.int .i64 k, .int .i64 0, .slice p l c] 79)).frozen? ⟨w1.heap.size, 2, none⟩ = false := by simp [go_sem]
  have hsz : (w1.alloc (.cells #[.int .i64 k, .int .i64 0, .slice p l c] 79)).heap.size = w1.heap.size + 1 := by simp
  generalize w1.alloc (.cells #[.int .i64 k, .int .i64 0, .slice p l c] 79) = w2 at *
  generalize w1.heap.size = h at *
  clear B1
  go_loopw [11] (fun i wr => ∃ j : Nat, j ≤ m ∧ i = .int .i64 j ∧ (∀ t, t < j → L[t]? ≠ some (k, 0, xs)) ∧ Below (h + 1) w2 wr) (fun i _ => m - (intOf i).toNat)
  case atStart => exact ⟨0, by omega, rfl, fun t ht => by omega, Below.refl _ _⟩
  case round =>
    obtain ⟨j, hj, rfl, hnot, hB⟩ := hrel
    have HT := (show Hid _ from hnot)
    clear hnot
    have hB' : Below w.heap.size w wr := hB2.trans (hB.mono (by omega))
    have c0' := (hB'.cell (p := ⟨bb, 0, none⟩) hbb).trans c0
    have g0 := (hB.cell (p := ⟨h, 0, none⟩) (by simp)).trans d0
    have g1 := (hB.cell (p := ⟨h, 1, none⟩) (by simp)).trans d1
    have g2 := (hB.cell (p := ⟨h, 2, none⟩) (by simp)).trans d2
    have q2 := (hB.frozen (p := ⟨h, 2, none⟩) (by simp)).trans e2
    have hsr := hB.size
    by_cases hlt : j < m
    · have A' := A.out.below hB'
      obtain ⟨g, cp2, p4, c4, c0'', _, hg, _, n0, n1, n2, hRd, h44⟩ := A'.node j (by omega)
      have hat : L[j]? = some L[j] := List.getElem?_eq_getElem (by omega)
      generalize L[j] = t at n0 n1 n2 hRd h44 hat
      obtain ⟨k1, m1, ys⟩ := t
      simp only at n0 n1 n2 hRd h44
      rw [c0'] at c0''
      simp only [Option.some.injEq, Value.slice.injEq] at c0''
      obtain ⟨rfl, -, rfl⟩ := c0''
      have hrd := hRd.rdw
      have HRD := (show Hid _ from hrd)
      have HAT := (show Hid _ from hat)
      clear hRd hat A' hrd
      by_cases heq : (k1, m1, ys) = (k, 0, xs)
      · have hd : decide ((k1, m1, ys) = (k, 0, xs)) = true := decide_eq_true heq
        have HQ := (show Hid _ from heq)
        clear heq
        go_wp2
        go_region_held3 (fun w' => w'.cell? ⟨bb, 0, none⟩ = some (.slice (some ⟨g, 0, none⟩) m cp) ∧ w'.cell? ⟨g, j * 3, none⟩ = some (.int .i64 k1) ∧ w'.cell? ⟨g, j * 3 + 1, none⟩ = some (.int .i64 m1) ∧ w'.cell? ⟨g, j * 3 + 2, none⟩ = some (.slice p4 ys.length c4) ∧ w'.cell? ⟨h, 0, none⟩ = some (.int .i64 k) ∧ w'.cell? ⟨h, 1, none⟩ = some (.int .i64 0) ∧ w'.cell? ⟨h, 2, none⟩ = some (.slice p l c))
          (first | exact ⟨c0', n0, n1, n2, g0, g1, g2⟩ | exact S3)
          (first
          | (go_at_call 57; refine (term_ok (w := wr.drew) k1 m1 k 0 (by omega) (RdW.below HRD.out (Below.refl _ _).drew) (RdW.below HV.out hB'.drew)).mono ?_; rintro ev w3 ⟨rfl, B3⟩; rw [hd]
             have S3 := And.intro ((B3.cell (p := ⟨bb, 0, none⟩) (by have := hB'.size; exact Nat.lt_of_lt_of_le hbb this)).trans c0') (And.intro ((B3.cell (p := ⟨g, j * 3, none⟩) hg).trans n0) (And.intro ((B3.cell (p := ⟨g, j * 3 + 1, none⟩) hg).trans n1) (And.intro ((B3.cell (p := ⟨g, j * 3 + 2, none⟩) hg).trans n2) (And.intro ((B3.cell (p := ⟨h, 0, none⟩) (show h < wr.heap.size by omega)).trans g0) (And.intro ((B3.cell (p := ⟨h, 1, none⟩) (show h < wr.heap.size by omega)).trans g1) ((B3.cell (p := ⟨h, 2, none⟩) (show h < wr.heap.size by omega)).trans g2)))))))
          | (go_at_call 11; fail))
        try simp only [Exit.then]
        go_wp2
        go_ret2
        obtain ⟨hin, hidx⟩ := idx_at A.out.wf (show L[j]? = some (k, 0, xs) by rw [HAT.out, HQ.out])
        have hp := put_in HM.out.1 (show fitsIn L.length (k, 0, xs) by rw [hm]; exact HF.out) hin
        rw [hidx] at hp
        exact pput_same hp A.out (hB'.drew.trans (B3.mono hB'.size))
      · have hd : decide ((k1, m1, ys) = (k, 0, xs)) = false := decide_eq_false heq
        have HQ := (show Hid _ from heq)
        clear heq
        go_wp2
        go_region_held3 (fun w' => w'.cell? ⟨bb, 0, none⟩ = some (.slice (some ⟨g, 0, none⟩) m cp) ∧ w'.cell? ⟨g, j * 3, none⟩ = some (.int .i64 k1) ∧ w'.cell? ⟨g, j * 3 + 1, none⟩ = some (.int .i64 m1) ∧ w'.cell? ⟨g, j * 3 + 2, none⟩ = some (.slice p4 ys.length c4) ∧ w'.cell? ⟨h, 0, none⟩ = some (.int .i64 k) ∧ w'.cell? ⟨h, 1, none⟩ = some (.int .i64 0) ∧ w'.cell? ⟨h, 2, none⟩ = some (.slice p l c))
          (first | exact ⟨c0', n0, n1, n2, g0, g1, g2⟩ | exact S3)
          (first
          | (go_at_call 57; refine (term_ok (w := wr.drew) k1 m1 k 0 (by omega) (RdW.below HRD.out (Below.refl _ _).drew) (RdW.below HV.out hB'.drew)).mono ?_; rintro ev w3 ⟨rfl, B3⟩; rw [hd]
             have S3 := And.intro ((B3.cell (p := ⟨bb, 0, none⟩) (by have := hB'.size; exact Nat.lt_of_lt_of_le hbb this)).trans c0') (And.intro ((B3.cell (p := ⟨g, j * 3, none⟩) hg).trans n0) (And.intro ((B3.cell (p := ⟨g, j * 3 + 1, none⟩) hg).trans n1) (And.intro ((B3.cell (p := ⟨g, j * 3 + 2, none⟩) hg).trans n2) (And.intro ((B3.cell (p := ⟨h, 0, none⟩) (show h < wr.heap.size by omega)).trans g0) (And.intro ((B3.cell (p := ⟨h, 1, none⟩) (show h < wr.heap.size by omega)).trans g1) ((B3.cell (p := ⟨h, 2, none⟩) (show h < wr.heap.size by omega)).trans g2)))))))
          | (go_at_call 11; fail))
        try simp only [Exit.then]
        go_wp2
        refine ⟨⟨j + 1, by omega, by simp, fun t ht => ?_, hB.drew.trans (B3.mono (by have : h + 1 ≤ wr.heap.size := (by omega); exact this))⟩, by simp [intOf]; omega⟩
        rcases Nat.lt_or_ge t j with h1 | h1
        · exact HT.out t h1
        · obtain rfl : t = j := by omega
          rw [HAT.out]
          intro e
          cases e
          exact HQ.out rfl
    · have hnotin := not_in (L := L) (t := (k, 0, xs)) (j := j) (by omega) HT.out
      have HNI := (show Hid _ from hnotin)
      clear hnotin
      by_cases hfull : 1048576 ≤ m
      · have hff : (1048576 : Int) ≤ (m : Int) := by omega
        go_wp2
        go_ret2
        exact pput_same (put_full HM.out.1 (show fitsIn L.length (k, 0, xs) by rw [hm]; exact HF.out) HNI.out (by omega)) A.out hB'
      · have hff : ¬ (1048576 : Int) ≤ (m : Int) := by omega
        have hbh : bb ≠ h := by omega
        go_wp2_with (go_at_call 11; refine (twin_ok (RdW.below HV.out hB') (by omega) HN.out).mono ?_; rintro ev w4 ⟨p5, c5, rfl, hown4, B4⟩; rw [hl] at hown4; simp only [hl]
                     have c4' := (B4.cell (p := ⟨bb, 0, none⟩) (by have := hB'.size; exact Nat.lt_of_lt_of_le hbb this)).trans c0'
                     have k0 := (B4.cell (p := ⟨h, 0, none⟩) (show h < wr.heap.size by omega)).trans g0
                     have k1 := (B4.cell (p := ⟨h, 1, none⟩) (show h < wr.heap.size by omega)).trans g1
                     have k2 := (B4.cell (p := ⟨h, 2, none⟩) (show h < wr.heap.size by omega)).trans g2
                     have k3 := (B4.frozen (p := ⟨h, 2, none⟩) (show h < wr.heap.size by omega)).trans q2)
        have x0 := (World.cell?_setCell_other w4 ⟨h, 2, none⟩ ⟨bb, 0, none⟩ (.slice p5 l c5) (by simp)).trans c4'
        have x1 := (World.cell?_setCell_other w4 ⟨h, 2, none⟩ ⟨h, 0, none⟩ (.slice p5 l c5) (by simp)).trans k0
        have x2 := (World.cell?_setCell_other w4 ⟨h, 2, none⟩ ⟨h, 1, none⟩ (.slice p5 l c5) (by simp)).trans k1
        have x3 := World.cell?_setCell_same (v := .slice p5 l c5) (h := k2)
        have hB4 : Below w.heap.size w w4 := hB'.trans (B4.mono hB'.size)
        have hB5 : Below w.heap.size w (w4.setCell ⟨h, 2, none⟩ (.slice p5 l c5)) := hB4.setCell (p := ⟨h, 2, none⟩) (by simpa using hs1) _
        have x4 : (w4.setCell ⟨h, 2, none⟩ (.slice p5 l c5)).frozen? ⟨bb, 0, none⟩ = false := (hB5.frozen (p := ⟨bb, 0, none⟩) hbb).trans f0
        have hrow5 : (w4.setCell ⟨h, 2, none⟩ (.slice p5 l c5)).ownsRow 0 79 3 (.slice np m cp) m (cellsOf L vs) := row_keeps (F := fun _ => False) HW.out (Keeps.of_below hB5) (fun _ _ h => h)
        have hbb5 : bb < (w4.setCell ⟨h, 2, none⟩ (.slice p5 l c5)).heap.size := Nat.lt_of_lt_of_le hbb hB5.size
        have HK := (show Hid (w4.ownsRow wr.heap.size 3 1 (.slice p5 l c5) l (xs.map (Value.int .i64))) from hown4)
        have hh4 : h < wr.heap.size := by omega
        have hnbo : some bb ≠ (Value.slice np m cp).ownBlock := fun e => (HO.out bb e.symm).2 rfl
        clear c0' g0 g1 g2 q2 c4' k0 k1 k2 k3 hown4 d0 d1 d2 e2 c0 f0
        generalize hw5 : w4.setCell ⟨h, 2, none⟩ (.slice p5 l c5) = w5 at *
        have HW5 := (show Hid _ from hw5)
        clear hw5
        obtain ⟨i0, hi, hz0, hz1, hz2⟩ := info_parts (P := Tryd.prog) (e := 79) (z := .agg #[.int .i64 0, .int .i64 0, .slice none 0 0]) (size := 3) (bytes := 40) (by kernel_rfl)
        have rowA : ∀ ob, (w5.drew.alloc ob).ownsRow 0 79 3 (.slice np m cp) m (cellsOf L vs) := fun ob => World.ownsRow.alloc (show w5.drew.ownsRow 0 79 3 (.slice np m cp) m (cellsOf L vs) from hrow5) ob
        have hab5 : ∀ ob, bb < (w5.drew.alloc ob).heap.size := fun ob => Nat.lt_of_lt_of_le hbb5 ((Below.refl _ w5.drew).alloc (Nat.le_refl _) ob).size
        go_region_law (refine step_append_lies _ (by rfl) _ _ 32 (by rfl) 0 79 i0 _ 3 40 Tryd.underlying32 hi hz0 hz1 hz2 (by rfl) (by decide) (.slice np m cp) m (cellsOf L vs) (by rfl) (rowA _) ⟨w5.drew.heap.size, 0, none⟩ 1 1 [.int .i64 k, .int .i64 0, .slice p5 l c5] (by rfl) (by rfl) (World.news_of_block (heap_alloc_new w5.drew _)) (by simp [Value.oneCell']) (by omega) (by unfold maxLen; omega) (by omega) (Nat.zero_le _) _ rfl ?_; intro g cap w6 hown6 hg6 hat6 hlt6; have hs6 := (hg6.cell_far ⟨bb, 0, none⟩ (hab5 _) hnbo).trans ((World.cell?_alloc_lt w5.drew _ ⟨bb, 0, none⟩ hbb5).trans x0); have hf6 : w6.frozen? ⟨bb, 0, none⟩ = false := (hg6.frozen_far ⟨bb, 0, none⟩ (hab5 _) hnbo).trans ((((Below.refl _ w5.drew).alloc (Nat.le_refl _) _).frozen (p := ⟨bb, 0, none⟩) hbb5).trans x4))
        all_goals (
          try simp only [Exit.then]
          have x9 := World.cell?_setCell_same (v := .slice (some ⟨g, 0, none⟩) (m + 1) cap) (h := hs6)
          have HG := (show Hid _ from hg6)
          have HAT6 := (show Hid _ from hat6)
          have H6 := (show Hid _ from hown6)
          clear hg6 hat6 hown6
          go_wp2
          go_ret2
          have hw5 := HW5.out
          subst hw5
          subst hm
          have hp := put_new HM.out.1 HF.out HNI.out (by omega)
          rw [hp]
          exact ⟨by simp, par_grown A.out.wf A.out.self A.out.lt HW.out HR.out HO.out HM.out HNI.out (by omega) HF.out hB4 hs1 hh4 HK.out H6.out ⟨HG.out.os, HG.out.tape, HG.out.output, HG.out.size, HG.out.block⟩ HAT6.out hs6 hf6⟩)
end
end Go.Proofs.YtenllpaochcjfaaDoor
