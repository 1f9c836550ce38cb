/-
  TERMOPENS: the walk. Own work.
-/
import Derived.Test.YtehkfgjnapjefaaSPy
import Derived.Deep.RegionHeld3
import Derived.Deep.QuietTactic
import Derived.BigQuiet
namespace Go.Proofs.Ytehkfgjnapjefaa
open Go.RowKit Go.Maps
set_option maxRecDepth 100000
attribute [local go_sem ↓] Go.wp_at_zero Go.wp_at_succ
theorem inl_dec {L : List Tm} {i : Int} : decide (∀ x ∈ [i], 0 ≤ x ∧ x < (L.length : Int)) = decide (inL L i) := decide_eq_decide.2 (by simp [inL])
set_option maxHeartbeats 16000000 in
theorem opens_low (v : Value) (i k : Int) (raw : Bool) (S : List St) (w : World) (H1 : Hid (Steps w v S)) : Calls Try.prog 4 #[v, .int .i64 i, .int .i64 k, .bool raw] w fun e w' => e = .returned (.bool true) ∧ Below w.heap.size w w' := by
  go_enter Try.func4, Try.ntmps4
  go_wp2_with (first
    | (go_at_call 11; refine (heavy_ok H1.out).mono ?_; rintro ev w ⟨rfl, r1, rfl, hr⟩; have R1 := (show Hid _ from hr); clear hr)
    | (go_at_call 12; refine (build_ok H1.out (R1.out (by first | assumption | simpa using ‹¬ r1 = true›)).2).mono ?_; rintro ev w1 ⟨aa, bb, L, rfl, T, hL⟩; obtain ⟨np, cp, x4, x5⟩ := T.head; clear R1)
    | (go_at_call 18; refine (some_ok (lit2 w1 i k _) L.length (by omega) (by simp)).mono ?_; rintro ev w2 ⟨p2, c2, rfl, hown2, B2⟩; have T2 := (T.alloc (.cells #[.int .i64 i, .int .i64 k] 3)).step B2; simp only [List.map_cons, List.map_nil, List.length_cons, List.length_nil] at hown2 ⊢
       obtain ⟨g2, rfl, _, hg2, _, hc2⟩ := row_open hown2 (by omega)
       have q0 := hc2 0 (by omega)
       have q1 := hc2 1 (by omega)
       simp only [List.getElem?_cons_zero, List.getElem?_cons_succ] at q0 q1
       clear T hown2 hc2 x4 x5))
  · go_ret
    exact ⟨rfl, Below.refl _ _⟩
  · go_quiet (fail)
    try simp only [Exit.then]
    have T := T2.step (below_drewN (Below.refl _ w2) nq)
    generalize w2.drewN nq = w3 at *
    clear T2 q0 q1
    generalize someI (L.length : Int) i = i1 at *
    generalize someI (L.length : Int) k = k1 at *
    obtain ⟨zs1, s1, ho1⟩ : ∃ a b, openOf L i1 k1 = (a, b) := ⟨_, _, rfl⟩
    obtain ⟨zs2, s2, ho2⟩ : ∃ a b, unboxOf L i1 k1 = (a, b) := ⟨_, _, rfl⟩
    obtain ⟨zs3, s3, ho3⟩ : ∃ a b, signedOf L i1 k1 = (a, b) := ⟨_, _, rfl⟩
    have hz1 : zs1.length ≤ 400 := by have := open_len T.wf i1 k1; rwa [ho1] at this
    have hz2 : zs2.length ≤ 400 := by have := unbox_len T.wf i1 k1; rwa [ho2] at this
    have hz3 : zs3.length ≤ 400 := by have := signed_len T.wf i1 k1; rwa [ho3] at this
    have HO1 := (show Hid _ from ho1)
    have HO2 := (show Hid _ from ho2)
    have HO3 := (show Hid _ from ho3)
    clear ho1 ho2 ho3
    by_cases hin : inL L i1
    · obtain ⟨q, rfl⟩ : ∃ q : Nat, i1 = q := ⟨i1.toNat, by have := hin.1; omega⟩
      have hqL : q < L.length := by have := hin.2; omega
      obtain ⟨⟨kd, m, xs⟩, hat⟩ : ∃ t, L[q]? = some t := ⟨_, List.getElem?_eq_getElem hqL⟩
      have HAT := (show Hid _ from hat)
      have HIN := (show Hid _ from hin)
      have hbl := ben_len L q
      clear hat hin
      go_wp2_with (first
      | (go_at_call 19; refine (open_two T q k1 HO1.out).mono ?_; rintro ev w51 ⟨p51, c51, rfl, Ra5⟩; clear T)
      | (go_at_call 20; refine (popen_two Ra5.two q k1 HO1.out).mono ?_; rintro ev w52 ⟨p52, c52, rfl, hr5, B52⟩; have Rb5 := Ra5.step B52; have HR5 := (show Hid _ from hr5); clear Ra5 hr5 B52)
      | (go_at_call 21; refine (ints_ok (by omega) Rb5.row.reads.rdw HR5.out).mono ?_; rintro ev w53 ⟨rfl, B53⟩; rw [show decide (zs1 = zs1) = true from decide_eq_true rfl]; have Rc5 := Rb5.step B53; clear Rb5 HR5 B53)
      | (go_at_call 15; refine (spoil_ok Rc5.row (by omega)).mono ?_; rintro ev w54 ⟨⟨r54, rfl⟩, K54⟩; have T6 := Rc5.spoiled K54; clear Rc5 K54)
      | (go_at_call 22; refine (unbox_two T6 q k1 HO2.out).mono ?_; rintro ev w61 ⟨p61, c61, rfl, Ra6⟩; clear T6)
      | (go_at_call 23; refine (punbox_two Ra6.two q k1 HO2.out).mono ?_; rintro ev w62 ⟨p62, c62, rfl, hr6, B62⟩; have Rb6 := Ra6.step B62; have HR6 := (show Hid _ from hr6); clear Ra6 hr6 B62)
      | (go_at_call 21; refine (ints_ok (by omega) Rb6.row.reads.rdw HR6.out).mono ?_; rintro ev w63 ⟨rfl, B63⟩; rw [show decide (zs2 = zs2) = true from decide_eq_true rfl]; have Rc6 := Rb6.step B63; clear Rb6 HR6 B63)
      | (go_at_call 15; refine (spoil_ok Rc6.row (by omega)).mono ?_; rintro ev w64 ⟨⟨r64, rfl⟩, K64⟩; have T7 := Rc6.spoiled K64; clear Rc6 K64)
      | (go_at_call 24; refine (signed_two T7 q k1 HO3.out).mono ?_; rintro ev w71 ⟨p71, c71, rfl, Ra7⟩; clear T7)
      | (go_at_call 25; refine (psigned_two Ra7.two q k1 HO3.out).mono ?_; rintro ev w72 ⟨p72, c72, rfl, hr7, B72⟩; have Rb7 := Ra7.step B72; have HR7 := (show Hid _ from hr7); clear Ra7 hr7 B72)
      | (go_at_call 21; refine (ints_ok (by omega) Rb7.row.reads.rdw HR7.out).mono ?_; rintro ev w73 ⟨rfl, B73⟩; rw [show decide (zs3 = zs3) = true from decide_eq_true rfl]; have Rc7 := Rb7.step B73; clear Rb7 HR7 B73)
      | (go_at_call 15; refine (spoil_ok Rc7.row (by omega)).mono ?_; rintro ev w74 ⟨⟨r74, rfl⟩, K74⟩; have T8 := Rc7.spoiled K74; clear Rc7 K74)
      | (go_at_call 26; refine (T8.ben hqL).mono ?_; rintro ev w81 ⟨p8, c8, rfl, ox, B8⟩; have Ra8 := T8.withRow B8 ox; clear T8 ox B8)
      | (go_at_call 16; refine (has_two (Ra8.two.alloc _) (reads_lit [(q : Int)] rfl rfl _).rdw (by simp)).mono ?_; rintro ev w82 ⟨rfl, _, B9⟩; rw [inl_dec, show decide (inL L (q : Int)) = true from decide_eq_true HIN.out]; have Rb8 := (Ra8.alloc _).step B9; clear Ra8 B9)
      | (go_at_call 27; refine (Rb8.two.pben hqL (by omega)).mono ?_; rintro ev w83 ⟨p9, c9, rfl, hr9, B10⟩; have Rc8 := Rb8.step B10; have HR9 := (show Hid _ from hr9); clear Rb8 hr9 B10)
      | (go_at_call 21; refine (ints_ok (by omega) Rc8.row.reads.rdw HR9.out).mono ?_; rintro ev w84 ⟨rfl, B11⟩; rw [show decide (benOf L q = benOf L q) = true from decide_eq_true rfl]; have T9 := Rc8.two.step B11; clear Rc8 HR9 B11)
      | (go_at_call 13; refine (node_two T9 HAT.out).mono ?_; rintro ev w85 ⟨p10, c10, rfl, R9⟩; clear T9))
      have R3 := R9.alloc (.cells #[.int .i64 kd, .int .i64 m, .slice p10 xs.length c10] 33)
      have e0 : (w85.alloc (.cells #[.int .i64 kd, .int .i64 m, .slice p10 xs.length c10] 33)).cell? ⟨w85.heap.size, 0, none⟩ = some (.int .i64 kd) := by simp [go_sem]
      have e1 : (w85.alloc (.cells #[.int .i64 kd, .int .i64 m, .slice p10 xs.length c10] 33)).cell? ⟨w85.heap.size, 1, none⟩ = some (.int .i64 m) := by simp [go_sem]
      have e2 : (w85.alloc (.cells #[.int .i64 kd, .int .i64 m, .slice p10 xs.length c10] 33)).cell? ⟨w85.heap.size, 2, none⟩ = some (.slice p10 xs.length c10) := by simp [go_sem]
      have hh3 : w85.heap.size < (w85.alloc (.cells #[.int .i64 kd, .int .i64 m, .slice p10 xs.length c10] 33)).heap.size := by simp
      clear R9
      generalize w85.alloc (.cells #[.int .i64 kd, .int .i64 m, .slice p10 xs.length c10] 33) = w86 at *
      generalize w85.heap.size = h at *
      obtain ⟨g, cp, p4, c4, y0, hbb, hg, n0, n1, n2, hrd, hxl, hjl⟩ := R3.two.pnode HAT.out
      have HRD := (show Hid _ from hrd)
      have hqI : (q : Int) < L.length := by omega
      clear hrd
      go_region_held3 (fun w' => w'.cell? ⟨bb, 0, none⟩ = some (.slice (some ⟨g, 0, none⟩) L.length cp) ∧ w'.cell? ⟨g, q * 3, none⟩ = some (.int .i64 kd) ∧ w'.cell? ⟨g, q * 3 + 1, none⟩ = some (.int .i64 m) ∧ w'.cell? ⟨g, q * 3 + 2, none⟩ = some (.slice p4 xs.length c4) ∧ w'.cell? ⟨h, 0, none⟩ = some (.int .i64 kd) ∧ w'.cell? ⟨h, 1, none⟩ = some (.int .i64 m) ∧ w'.cell? ⟨h, 2, none⟩ = some (.slice p10 xs.length c10))
        (first | exact ⟨y0, n0, n1, n2, e0, e1, e2⟩ | exact S3 | exact S4)
        (first
        | (go_at_call 14; refine (term_ok (w := w86.drew) kd m kd m (by omega) (RdW.below R3.rd (Below.refl _ _).drew) (RdW.below HRD.out (Below.refl _ _).drew)).mono ?_; rintro ev w4 ⟨rfl, B3⟩; rw [show decide ((kd, m, xs) = (kd, m, xs)) = true from decide_eq_true rfl]
           have S3 := And.intro ((B3.cell (p := ⟨bb, 0, none⟩) hbb).trans y0) (And.intro ((B3.cell (p := ⟨g, q * 3, none⟩) hg).trans n0) (And.intro ((B3.cell (p := ⟨g, q * 3 + 1, none⟩) hg).trans n1) (And.intro ((B3.cell (p := ⟨g, q * 3 + 2, none⟩) hg).trans n2) (And.intro ((B3.cell (p := ⟨h, 0, none⟩) hh3).trans e0) (And.intro ((B3.cell (p := ⟨h, 1, none⟩) hh3).trans e1) ((B3.cell (p := ⟨h, 2, none⟩) hh3).trans e2)))))))
        | (go_at_call 17; refine (wakes_ok _).mono ?_; rintro ev w6 ⟨rfl, B6⟩
           have HB6 := B3.trans (B6.mono B3.size)
           have S4 := And.intro ((HB6.cell (p := ⟨bb, 0, none⟩) hbb).trans y0) (And.intro ((HB6.cell (p := ⟨g, q * 3, none⟩) hg).trans n0) (And.intro ((HB6.cell (p := ⟨g, q * 3 + 1, none⟩) hg).trans n1) (And.intro ((HB6.cell (p := ⟨g, q * 3 + 2, none⟩) hg).trans n2) (And.intro ((HB6.cell (p := ⟨h, 0, none⟩) hh3).trans e0) (And.intro ((HB6.cell (p := ⟨h, 1, none⟩) hh3).trans e1) ((HB6.cell (p := ⟨h, 2, none⟩) hh3).trans e2)))))))
        | (go_at_call 30; fail))
      try simp only [Exit.then]
      go_wp2
      go_ret
      exact ⟨rfl, R3.below.trans (((Below.refl _ w86).drew.trans HB6).mono R3.below.size)⟩
    · have HIN := (show Hid _ from hin)
      clear hin
      go_wp2_with (first
      | (go_at_call 19; refine (open_two T i1 k1 HO1.out).mono ?_; rintro ev w51 ⟨p51, c51, rfl, Ra5⟩; clear T)
      | (go_at_call 20; refine (popen_two Ra5.two i1 k1 HO1.out).mono ?_; rintro ev w52 ⟨p52, c52, rfl, hr5, B52⟩; have Rb5 := Ra5.step B52; have HR5 := (show Hid _ from hr5); clear Ra5 hr5 B52)
      | (go_at_call 21; refine (ints_ok (by omega) Rb5.row.reads.rdw HR5.out).mono ?_; rintro ev w53 ⟨rfl, B53⟩; rw [show decide (zs1 = zs1) = true from decide_eq_true rfl]; have Rc5 := Rb5.step B53; clear Rb5 HR5 B53)
      | (go_at_call 15; refine (spoil_ok Rc5.row (by omega)).mono ?_; rintro ev w54 ⟨⟨r54, rfl⟩, K54⟩; have T6 := Rc5.spoiled K54; clear Rc5 K54)
      | (go_at_call 22; refine (unbox_two T6 i1 k1 HO2.out).mono ?_; rintro ev w61 ⟨p61, c61, rfl, Ra6⟩; clear T6)
      | (go_at_call 23; refine (punbox_two Ra6.two i1 k1 HO2.out).mono ?_; rintro ev w62 ⟨p62, c62, rfl, hr6, B62⟩; have Rb6 := Ra6.step B62; have HR6 := (show Hid _ from hr6); clear Ra6 hr6 B62)
      | (go_at_call 21; refine (ints_ok (by omega) Rb6.row.reads.rdw HR6.out).mono ?_; rintro ev w63 ⟨rfl, B63⟩; rw [show decide (zs2 = zs2) = true from decide_eq_true rfl]; have Rc6 := Rb6.step B63; clear Rb6 HR6 B63)
      | (go_at_call 15; refine (spoil_ok Rc6.row (by omega)).mono ?_; rintro ev w64 ⟨⟨r64, rfl⟩, K64⟩; have T7 := Rc6.spoiled K64; clear Rc6 K64)
      | (go_at_call 24; refine (signed_two T7 i1 k1 HO3.out).mono ?_; rintro ev w71 ⟨p71, c71, rfl, Ra7⟩; clear T7)
      | (go_at_call 25; refine (psigned_two Ra7.two i1 k1 HO3.out).mono ?_; rintro ev w72 ⟨p72, c72, rfl, hr7, B72⟩; have Rb7 := Ra7.step B72; have HR7 := (show Hid _ from hr7); clear Ra7 hr7 B72)
      | (go_at_call 21; refine (ints_ok (by omega) Rb7.row.reads.rdw HR7.out).mono ?_; rintro ev w73 ⟨rfl, B73⟩; rw [show decide (zs3 = zs3) = true from decide_eq_true rfl]; have Rc7 := Rb7.step B73; clear Rb7 HR7 B73)
      | (go_at_call 15; refine (spoil_ok Rc7.row (by omega)).mono ?_; rintro ev w74 ⟨⟨r74, rfl⟩, K74⟩; have T8 := Rc7.spoiled K74; clear Rc7 K74)
      | (go_at_call 26; refine (ben_no T8 i1 (decide_eq_false HIN.out)).mono ?_; rintro ev w81 ⟨rfl, rfl⟩)
      | (go_at_call 16; refine (has_two (T8.alloc _) (reads_lit [i1] rfl rfl _).rdw (by simp)).mono ?_; rintro ev w82 ⟨rfl, T9, B9⟩; rw [inl_dec, show decide (inL L i1) = false from decide_eq_false HIN.out]; clear T8)
      | (go_at_call 17; refine (wakes_ok _).mono ?_; rintro ev w6 ⟨rfl, B6⟩))
      go_ret
      exact ⟨rfl, T9.below.trans (B6.mono T9.below.size)⟩
  · clear x4 x5
    generalize i = i1 at *
    generalize k = k1 at *
    obtain ⟨zs1, s1, ho1⟩ : ∃ a b, openOf L i1 k1 = (a, b) := ⟨_, _, rfl⟩
    obtain ⟨zs2, s2, ho2⟩ : ∃ a b, unboxOf L i1 k1 = (a, b) := ⟨_, _, rfl⟩
    obtain ⟨zs3, s3, ho3⟩ : ∃ a b, signedOf L i1 k1 = (a, b) := ⟨_, _, rfl⟩
    have hz1 : zs1.length ≤ 400 := by have := open_len T.wf i1 k1; rwa [ho1] at this
    have hz2 : zs2.length ≤ 400 := by have := unbox_len T.wf i1 k1; rwa [ho2] at this
    have hz3 : zs3.length ≤ 400 := by have := signed_len T.wf i1 k1; rwa [ho3] at this
    have HO1 := (show Hid _ from ho1)
    have HO2 := (show Hid _ from ho2)
    have HO3 := (show Hid _ from ho3)
    clear ho1 ho2 ho3
    by_cases hin : inL L i1
    · obtain ⟨q, rfl⟩ : ∃ q : Nat, i1 = q := ⟨i1.toNat, by have := hin.1; omega⟩
      have hqL : q < L.length := by have := hin.2; omega
      obtain ⟨⟨kd, m, xs⟩, hat⟩ : ∃ t, L[q]? = some t := ⟨_, List.getElem?_eq_getElem hqL⟩
      have HAT := (show Hid _ from hat)
      have HIN := (show Hid _ from hin)
      have hbl := ben_len L q
      clear hat hin
      go_wp2_with (first
      | (go_at_call 19; refine (open_two T q k1 HO1.out).mono ?_; rintro ev w51 ⟨p51, c51, rfl, Ra5⟩; clear T)
      | (go_at_call 20; refine (popen_two Ra5.two q k1 HO1.out).mono ?_; rintro ev w52 ⟨p52, c52, rfl, hr5, B52⟩; have Rb5 := Ra5.step B52; have HR5 := (show Hid _ from hr5); clear Ra5 hr5 B52)
      | (go_at_call 21; refine (ints_ok (by omega) Rb5.row.reads.rdw HR5.out).mono ?_; rintro ev w53 ⟨rfl, B53⟩; rw [show decide (zs1 = zs1) = true from decide_eq_true rfl]; have Rc5 := Rb5.step B53; clear Rb5 HR5 B53)
      | (go_at_call 15; refine (spoil_ok Rc5.row (by omega)).mono ?_; rintro ev w54 ⟨⟨r54, rfl⟩, K54⟩; have T6 := Rc5.spoiled K54; clear Rc5 K54)
      | (go_at_call 22; refine (unbox_two T6 q k1 HO2.out).mono ?_; rintro ev w61 ⟨p61, c61, rfl, Ra6⟩; clear T6)
      | (go_at_call 23; refine (punbox_two Ra6.two q k1 HO2.out).mono ?_; rintro ev w62 ⟨p62, c62, rfl, hr6, B62⟩; have Rb6 := Ra6.step B62; have HR6 := (show Hid _ from hr6); clear Ra6 hr6 B62)
      | (go_at_call 21; refine (ints_ok (by omega) Rb6.row.reads.rdw HR6.out).mono ?_; rintro ev w63 ⟨rfl, B63⟩; rw [show decide (zs2 = zs2) = true from decide_eq_true rfl]; have Rc6 := Rb6.step B63; clear Rb6 HR6 B63)
      | (go_at_call 15; refine (spoil_ok Rc6.row (by omega)).mono ?_; rintro ev w64 ⟨⟨r64, rfl⟩, K64⟩; have T7 := Rc6.spoiled K64; clear Rc6 K64)
      | (go_at_call 24; refine (signed_two T7 q k1 HO3.out).mono ?_; rintro ev w71 ⟨p71, c71, rfl, Ra7⟩; clear T7)
      | (go_at_call 25; refine (psigned_two Ra7.two q k1 HO3.out).mono ?_; rintro ev w72 ⟨p72, c72, rfl, hr7, B72⟩; have Rb7 := Ra7.step B72; have HR7 := (show Hid _ from hr7); clear Ra7 hr7 B72)
      | (go_at_call 21; refine (ints_ok (by omega) Rb7.row.reads.rdw HR7.out).mono ?_; rintro ev w73 ⟨rfl, B73⟩; rw [show decide (zs3 = zs3) = true from decide_eq_true rfl]; have Rc7 := Rb7.step B73; clear Rb7 HR7 B73)
      | (go_at_call 15; refine (spoil_ok Rc7.row (by omega)).mono ?_; rintro ev w74 ⟨⟨r74, rfl⟩, K74⟩; have T8 := Rc7.spoiled K74; clear Rc7 K74)
      | (go_at_call 26; refine (T8.ben hqL).mono ?_; rintro ev w81 ⟨p8, c8, rfl, ox, B8⟩; have Ra8 := T8.withRow B8 ox; clear T8 ox B8)
      | (go_at_call 16; refine (has_two (Ra8.two.alloc _) (reads_lit [(q : Int)] rfl rfl _).rdw (by simp)).mono ?_; rintro ev w82 ⟨rfl, _, B9⟩; rw [inl_dec, show decide (inL L (q : Int)) = true from decide_eq_true HIN.out]; have Rb8 := (Ra8.alloc _).step B9; clear Ra8 B9)
      | (go_at_call 27; refine (Rb8.two.pben hqL (by omega)).mono ?_; rintro ev w83 ⟨p9, c9, rfl, hr9, B10⟩; have Rc8 := Rb8.step B10; have HR9 := (show Hid _ from hr9); clear Rb8 hr9 B10)
      | (go_at_call 21; refine (ints_ok (by omega) Rc8.row.reads.rdw HR9.out).mono ?_; rintro ev w84 ⟨rfl, B11⟩; rw [show decide (benOf L q = benOf L q) = true from decide_eq_true rfl]; have T9 := Rc8.two.step B11; clear Rc8 HR9 B11)
      | (go_at_call 13; refine (node_two T9 HAT.out).mono ?_; rintro ev w85 ⟨p10, c10, rfl, R9⟩; clear T9))
      have R3 := R9.alloc (.cells #[.int .i64 kd, .int .i64 m, .slice p10 xs.length c10] 33)
      have e0 : (w85.alloc (.cells #[.int .i64 kd, .int .i64 m, .slice p10 xs.length c10] 33)).cell? ⟨w85.heap.size, 0, none⟩ = some (.int .i64 kd) := by simp [go_sem]
      have e1 : (w85.alloc (.cells #[.int .i64 kd, .int .i64 m, .slice p10 xs.length c10] 33)).cell? ⟨w85.heap.size, 1, none⟩ = some (.int .i64 m) := by simp [go_sem]
      have e2 : (w85.alloc (.cells #[.int .i64 kd, .int .i64 m, .slice p10 xs.length c10] 33)).cell? ⟨w85.heap.size, 2, none⟩ = some (.slice p10 xs.length c10) := by simp [go_sem]
      have hh3 : w85.heap.size < (w85.alloc (.cells #[.int .i64 kd, .int .i64 m, .slice p10 xs.length c10] 33)).heap.size := by simp
      clear R9
      generalize w85.alloc (.cells #[.int .i64 kd, .int .i64 m, .slice p10 xs.length c10] 33) = w86 at *
      generalize w85.heap.size = h at *
      obtain ⟨g, cp, p4, c4, y0, hbb, hg, n0, n1, n2, hrd, hxl, hjl⟩ := R3.two.pnode HAT.out
      have HRD := (show Hid _ from hrd)
      have hqI : (q : Int) < L.length := by omega
      clear hrd
      go_region_held3 (fun w' => w'.cell? ⟨bb, 0, none⟩ = some (.slice (some ⟨g, 0, none⟩) L.length cp) ∧ w'.cell? ⟨g, q * 3, none⟩ = some (.int .i64 kd) ∧ w'.cell? ⟨g, q * 3 + 1, none⟩ = some (.int .i64 m) ∧ w'.cell? ⟨g, q * 3 + 2, none⟩ = some (.slice p4 xs.length c4) ∧ w'.cell? ⟨h, 0, none⟩ = some (.int .i64 kd) ∧ w'.cell? ⟨h, 1, none⟩ = some (.int .i64 m) ∧ w'.cell? ⟨h, 2, none⟩ = some (.slice p10 xs.length c10))
        (first | exact ⟨y0, n0, n1, n2, e0, e1, e2⟩ | exact S3 | exact S4)
        (first
        | (go_at_call 14; refine (term_ok (w := w86.drew) kd m kd m (by omega) (RdW.below R3.rd (Below.refl _ _).drew) (RdW.below HRD.out (Below.refl _ _).drew)).mono ?_; rintro ev w4 ⟨rfl, B3⟩; rw [show decide ((kd, m, xs) = (kd, m, xs)) = true from decide_eq_true rfl]
           have S3 := And.intro ((B3.cell (p := ⟨bb, 0, none⟩) hbb).trans y0) (And.intro ((B3.cell (p := ⟨g, q * 3, none⟩) hg).trans n0) (And.intro ((B3.cell (p := ⟨g, q * 3 + 1, none⟩) hg).trans n1) (And.intro ((B3.cell (p := ⟨g, q * 3 + 2, none⟩) hg).trans n2) (And.intro ((B3.cell (p := ⟨h, 0, none⟩) hh3).trans e0) (And.intro ((B3.cell (p := ⟨h, 1, none⟩) hh3).trans e1) ((B3.cell (p := ⟨h, 2, none⟩) hh3).trans e2)))))))
        | (go_at_call 17; refine (wakes_ok _).mono ?_; rintro ev w6 ⟨rfl, B6⟩
           have HB6 := B3.trans (B6.mono B3.size)
           have S4 := And.intro ((HB6.cell (p := ⟨bb, 0, none⟩) hbb).trans y0) (And.intro ((HB6.cell (p := ⟨g, q * 3, none⟩) hg).trans n0) (And.intro ((HB6.cell (p := ⟨g, q * 3 + 1, none⟩) hg).trans n1) (And.intro ((HB6.cell (p := ⟨g, q * 3 + 2, none⟩) hg).trans n2) (And.intro ((HB6.cell (p := ⟨h, 0, none⟩) hh3).trans e0) (And.intro ((HB6.cell (p := ⟨h, 1, none⟩) hh3).trans e1) ((HB6.cell (p := ⟨h, 2, none⟩) hh3).trans e2)))))))
        | (go_at_call 30; fail))
      try simp only [Exit.then]
      go_wp2
      go_ret
      exact ⟨rfl, R3.below.trans (((Below.refl _ w86).drew.trans HB6).mono R3.below.size)⟩
    · have HIN := (show Hid _ from hin)
      clear hin
      go_wp2_with (first
      | (go_at_call 19; refine (open_two T i1 k1 HO1.out).mono ?_; rintro ev w51 ⟨p51, c51, rfl, Ra5⟩; clear T)
      | (go_at_call 20; refine (popen_two Ra5.two i1 k1 HO1.out).mono ?_; rintro ev w52 ⟨p52, c52, rfl, hr5, B52⟩; have Rb5 := Ra5.step B52; have HR5 := (show Hid _ from hr5); clear Ra5 hr5 B52)
      | (go_at_call 21; refine (ints_ok (by omega) Rb5.row.reads.rdw HR5.out).mono ?_; rintro ev w53 ⟨rfl, B53⟩; rw [show decide (zs1 = zs1) = true from decide_eq_true rfl]; have Rc5 := Rb5.step B53; clear Rb5 HR5 B53)
      | (go_at_call 15; refine (spoil_ok Rc5.row (by omega)).mono ?_; rintro ev w54 ⟨⟨r54, rfl⟩, K54⟩; have T6 := Rc5.spoiled K54; clear Rc5 K54)
      | (go_at_call 22; refine (unbox_two T6 i1 k1 HO2.out).mono ?_; rintro ev w61 ⟨p61, c61, rfl, Ra6⟩; clear T6)
      | (go_at_call 23; refine (punbox_two Ra6.two i1 k1 HO2.out).mono ?_; rintro ev w62 ⟨p62, c62, rfl, hr6, B62⟩; have Rb6 := Ra6.step B62; have HR6 := (show Hid _ from hr6); clear Ra6 hr6 B62)
      | (go_at_call 21; refine (ints_ok (by omega) Rb6.row.reads.rdw HR6.out).mono ?_; rintro ev w63 ⟨rfl, B63⟩; rw [show decide (zs2 = zs2) = true from decide_eq_true rfl]; have Rc6 := Rb6.step B63; clear Rb6 HR6 B63)
      | (go_at_call 15; refine (spoil_ok Rc6.row (by omega)).mono ?_; rintro ev w64 ⟨⟨r64, rfl⟩, K64⟩; have T7 := Rc6.spoiled K64; clear Rc6 K64)
      | (go_at_call 24; refine (signed_two T7 i1 k1 HO3.out).mono ?_; rintro ev w71 ⟨p71, c71, rfl, Ra7⟩; clear T7)
      | (go_at_call 25; refine (psigned_two Ra7.two i1 k1 HO3.out).mono ?_; rintro ev w72 ⟨p72, c72, rfl, hr7, B72⟩; have Rb7 := Ra7.step B72; have HR7 := (show Hid _ from hr7); clear Ra7 hr7 B72)
      | (go_at_call 21; refine (ints_ok (by omega) Rb7.row.reads.rdw HR7.out).mono ?_; rintro ev w73 ⟨rfl, B73⟩; rw [show decide (zs3 = zs3) = true from decide_eq_true rfl]; have Rc7 := Rb7.step B73; clear Rb7 HR7 B73)
      | (go_at_call 15; refine (spoil_ok Rc7.row (by omega)).mono ?_; rintro ev w74 ⟨⟨r74, rfl⟩, K74⟩; have T8 := Rc7.spoiled K74; clear Rc7 K74)
      | (go_at_call 26; refine (ben_no T8 i1 (decide_eq_false HIN.out)).mono ?_; rintro ev w81 ⟨rfl, rfl⟩)
      | (go_at_call 16; refine (has_two (T8.alloc _) (reads_lit [i1] rfl rfl _).rdw (by simp)).mono ?_; rintro ev w82 ⟨rfl, T9, B9⟩; rw [inl_dec, show decide (inL L i1) = false from decide_eq_false HIN.out]; clear T8)
      | (go_at_call 17; refine (wakes_ok _).mono ?_; rintro ev w6 ⟨rfl, B6⟩))
      go_ret
      exact ⟨rfl, T9.below.trans (B6.mono T9.below.size)⟩
end Go.Proofs.Ytehkfgjnapjefaa
