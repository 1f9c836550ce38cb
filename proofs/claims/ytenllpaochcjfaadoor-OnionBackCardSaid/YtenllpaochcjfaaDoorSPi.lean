/-
  STEPS: Build: both arenas hold the same terms. Own work.
-/
import Derived.Test.YtenllpaochcjfaaDoorSPh
import Derived.Deep.RegionHeld3
namespace Go.Proofs.YtenllpaochcjfaaDoor
open Go.RowKit Go.Maps
set_option maxRecDepth 100000
attribute [local go_sem ↓] Go.wp_at_zero Go.wp_at_succ
theorem cells2 {w w' : World} {b o : Nat} {s : St} (hst : StAt w b o s) (hb : b < w.heap.size) (hB : Below w.heap.size w w') : w'.cell? ⟨b, o, none⟩ = some (.int .i64 s.k) ∧ w'.cell? ⟨b, o + 1, none⟩ = some (.int .i64 s.n) := ⟨(hst.below hb hB).k, (hst.below hb hB).n⟩
theorem put_len (L : List Tm) (t : Tm) : (put L t).2.2.length ≤ L.length + 1 := by
  unfold put
  (repeat' split) <;> simp
set_option maxHeartbeats 8000000 in
theorem build_low (p1 : Option Addr) (n1 c1 : Nat) (S : List St) (w : World) (H1 : Hid (Steps w (.slice p1 n1 c1) S)) (Q1 : Hid (∀ i s, S[i]? = some s → i < 150 → s.xs.length ≤ 420)) : Calls Tryd.prog 25 #[.slice p1 n1 c1] w fun e w' => ∃ aa bb L, e = .returned (.tuple #[.pointer (some ⟨aa, 0, none⟩), .pointer (some ⟨bb, 0, none⟩), .bool true]) ∧ Two w w' aa bb L L ∧ L.length ≤ 150 := by
  go_enter Tryd.func25, Tryd.ntmps25
  go_wp2_with (go_at_call 27; refine (new_ar _).mono ?_; rintro ev w1 ⟨aa, Fa, rfl, A1, h1, B1⟩; have T1 := two_new (w := w) (o := .cells #[.slice none 0 0] 34) rfl A1 h1 B1; clear A1 h1 B1)
  generalize w1.alloc (.cells #[.slice none 0 0] 34) = w2 at *
  generalize w1.heap.size = bb at *
  go_loopw [7] (fun i wr => ∃ (j : Nat) (L : List Tm), i = .int .i64 j ∧ j ≤ 150 ∧ j ≤ n1 ∧ L.length ≤ j ∧ Two w wr aa bb L L) (fun i _ => 150 - (intOf i).toNat)
  case atStart => exact ⟨0, [], rfl, by omega, by omega, by simp, T1⟩
  case round =>
    obtain ⟨j, L, rfl, hj, hjn, hLj, T⟩ := hrel
    by_cases hlt : j < n1 ∧ j < 150
    · obtain ⟨h1, h2⟩ := hlt
      obtain ⟨b, o, k, m, q, c4, xs, raw, rfl, hb, hsj, hst⟩ := steps_at H1.out h1
      have hx : xs.length ≤ 420 := Q1.out j _ hsj h2
      have hm : m < 9223372036854775808 := hst.inn.2
      have ha : RdW w (.slice q xs.length c4) xs := hst.args
      have hn : NilCap (.slice q xs.length c4) := hst.nilc
      have HA := (show Hid _ from ha)
      have HST := (show Hid _ from hst)
      have HX := (show Hid _ from hx)
      have HM := (show Hid _ from hm)
      have HN := (show Hid (NilCap (.slice q xs.length c4)) from hn)
      have x2 : wr.cell? ⟨b, o + j * 4 + 2, none⟩ = some (.slice q xs.length c4) := (hst.below hb T.below).v
      have x3 : wr.cell? ⟨b, o + j * 4 + 3, none⟩ = some (.bool raw) := (hst.below hb T.below).raw
      obtain ⟨np, cp, x4, _⟩ := T.head
      clear hst hsj hx hm ha hn
      cases raw with
      | false =>
        go_wp2_with (first
          | (go_at_call 9; refine (some_two T HA.out L.length (by have := HX.out; omega)).mono ?_; rintro ev w3 ⟨p3, c3, rfl, U⟩; clear T)
          | (go_at_call 11; refine (twin_two U (by have := HX.out; simp; omega)).mono ?_; rintro ev w4 ⟨p4, c5, rfl, R4⟩; clear U; simp only [List.length_map] at R4 ⊢))
        go_region_held3 (fun w' => w'.cell? ⟨b, o + j * 4, none⟩ = some (.int .i64 k) ∧ w'.cell? ⟨b, o + j * 4 + 1, none⟩ = some (.int .i64 m))
          (first | exact cells2 HST.out hb R4.below.drew | exact cells2 HST.out hb R5.below)
          (first
          | (go_at_call 26; refine (make_two R4.drew k m HM.out).mono ?_; rintro ev w5 ⟨rfl, R5⟩)
          | (go_at_call 27; fail))
        try simp only [Exit.then]
        clear R4
        go_wp2
        go_region_held3 (fun w' => w'.cell? ⟨b, o + j * 4, none⟩ = some (.int .i64 k) ∧ w'.cell? ⟨b, o + j * 4 + 1, none⟩ = some (.int .i64 m))
          (first | exact cells2 HST.out hb R5.below.drew | exact cells2 HST.out hb R6.below)
          (first
          | (go_at_call 37; refine (put_two R5.drew k m HM.out).mono ?_; rintro ev w6 ⟨rfl, R6⟩)
          | (go_at_call 27; fail))
        try simp only [Exit.then]
        clear R5
        go_wp2_with (first
          | (go_at_call 14; refine (ints_two R6 (by have := HX.out; simp; omega)).mono ?_; rintro ev w7 ⟨rfl, R7⟩; clear R6)
          | (go_at_call 40; refine (spoil_two R7 (by have := HX.out; simp; omega)).mono ?_; rintro ev w8 ⟨⟨r8, rfl⟩, T8⟩; clear R7))
        have hlen := put_len L (k, m, xs.map (someI L.length))
        exact ⟨⟨j + 1, _, by simp, by omega, by omega, by omega, T8⟩, by simp [intOf]; omega⟩
      | true =>
        have U := T.raw HA.out HN.out
        go_wp2_with (go_at_call 11; refine (twin_two U (by have := HX.out; omega)).mono ?_; rintro ev w4 ⟨p4, c5, rfl, R4⟩; clear U)
        clear T
        go_region_held3 (fun w' => w'.cell? ⟨b, o + j * 4, none⟩ = some (.int .i64 k) ∧ w'.cell? ⟨b, o + j * 4 + 1, none⟩ = some (.int .i64 m))
          (first | exact cells2 HST.out hb R4.below.drew | exact cells2 HST.out hb R5.below)
          (first
          | (go_at_call 26; refine (make_two R4.drew k m HM.out).mono ?_; rintro ev w5 ⟨rfl, R5⟩)
          | (go_at_call 27; fail))
        try simp only [Exit.then]
        clear R4
        go_wp2
        go_region_held3 (fun w' => w'.cell? ⟨b, o + j * 4, none⟩ = some (.int .i64 k) ∧ w'.cell? ⟨b, o + j * 4 + 1, none⟩ = some (.int .i64 m))
          (first | exact cells2 HST.out hb R5.below.drew | exact cells2 HST.out hb R6.below)
          (first
          | (go_at_call 37; refine (put_two R5.drew k m HM.out).mono ?_; rintro ev w6 ⟨rfl, R6⟩)
          | (go_at_call 27; fail))
        try simp only [Exit.then]
        clear R5
        go_wp2_with (first
          | (go_at_call 14; refine (ints_two R6 (by have := HX.out; simp; omega)).mono ?_; rintro ev w7 ⟨rfl, R7⟩; clear R6)
          | (go_at_call 40; refine (spoil_two R7 (by have := HX.out; simp; omega)).mono ?_; rintro ev w8 ⟨⟨r8, rfl⟩, T8⟩; clear R7))
        have hlen := put_len L (k, m, xs)
        exact ⟨⟨j + 1, _, by simp, by omega, by omega, by omega, T8⟩, by simp [intOf]; omega⟩
    · rcases (show ¬ j < n1 ∨ (j < n1 ∧ ¬ j < 150) by omega) with h1 | ⟨h1, h2⟩
      all_goals (
        clear hlt
        obtain ⟨np, cp, x4, hbb⟩ := T.head
        go_wp2
        go_region_held3 (fun w' => w'.cell? ⟨bb, 0, none⟩ = some (.slice np L.length cp))
          (first | exact x4)
          (first
          | (go_at_call 41; refine (len_two T.drew).mono ?_; rintro ev w' ⟨rfl, rfl⟩)
          | (go_at_call 27; fail))
        try simp only [Exit.then]
        go_wp2
        all_goals exact bodyPost_ret (v := .tuple #[.pointer (some ⟨aa, 0, none⟩), .pointer (some ⟨bb, 0, none⟩), .bool true]) (by simp [results, Tryd.results25, go_sem]) rfl ⟨aa, bb, L, rfl, T.drew, by omega⟩)
/-- BUILD. -/
theorem build_ok {v : Value} {S : List St} {w : World} (h : Steps w v S) (hx : ∀ i s, S[i]? = some s → i < 150 → s.xs.length ≤ 420) : Calls Tryd.prog 25 #[v] w fun e w' => ∃ aa bb L, e = .returned (.tuple #[.pointer (some ⟨aa, 0, none⟩), .pointer (some ⟨bb, 0, none⟩), .bool true]) ∧ Two w w' aa bb L L ∧ L.length ≤ 150 := by
  have h' := h
  obtain ⟨p, c, rfl, _⟩ := h
  exact build_low p _ c S w h' hx
end Go.Proofs.YtenllpaochcjfaaDoor
