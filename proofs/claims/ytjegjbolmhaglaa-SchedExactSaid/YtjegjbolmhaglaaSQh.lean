/-
  A PAIR OF ARENAS: T of any term; Pairs; like. Own work.
-/
import Derived.Test.YtjegjbolmhaglaaSQg
namespace Go.Proofs.Ytjegjbolmhaglaa
open Go.RowKit Go.Maps
set_option maxRecDepth 100000
attribute [local go_sem ↓] Go.wp_at_zero Go.wp_at_succ
section
variable {w wr w' : World} {pb aa bb m : Nat} {L L' L1 : List Tm} {G G' : Nat → Prop}
set_option maxHeartbeats 8000000 in
theorem t_ok {ws : World} (P : Hid (Pr w ws pb aa bb L L m)) (hL : L.length ≤ 1000) (i : Nat) (hi : i < L.length) : Calls Try.prog 51 #[.pointer (some ⟨pb, 0, none⟩), .int .i64 i] ws fun e w' => e = .returned (.int .i64 i) ∧ ∃ m', Pr w w' pb aa bb L L m' := by
  obtain ⟨i0, hi', hz0, hz1, hz2⟩ := info_parts (P := Try.prog) (e := 3) (z := .int .i64 0) (size := 1) (bytes := 8) (by kernel_rfl)
  have hwb := P.out.below.size
  have c2 : ∃ mp mc, ws.cell? ⟨pb, 2, none⟩ = some (.slice mp m mc) := by
    obtain ⟨mp, mc, G, T, A⟩ := P.out.ex
    exact ⟨mp, mc, A.c2⟩
  obtain ⟨mp0, mc0, c2⟩ := c2
  have hm0 := P.out.hm
  go_enter Try.func51, Try.ntmps51
  go_wp2
  clear c2
  go_loopw [5] (fun v wq => ∃ m1 : Nat, v = .int .i64 m1 ∧ Pr w wq pb aa bb L L m1) (fun v _ => L.length - (intOf v).toNat)
  case atStart => exact ⟨m, rfl, P.out⟩
  case round =>
    obtain ⟨m1, rfl, P1⟩ := hrel
    have hm1 := P1.hm
    have hwb1 := P1.below.size
    obtain ⟨mp, mc, G, T, A⟩ := P1.ex
    have a0 := A.c0
    have a1 := A.c1
    have a2 := A.c2
    have hpb := T.lt pb A.self
    by_cases hlt : m1 ≤ i
    · have hmL : m1 < L.length := by omega
      have hle : (m1 : Int) ≤ i := by omega
      have hlI : (m1 : Int) < L.length := by omega
      obtain ⟨⟨k, n, xs⟩, hat⟩ : ∃ t, L[m1]? = some t := ⟨_, List.getElem?_eq_getElem hmL⟩
      obtain ⟨g, cp, p4, c4, y0, hbb, hg, n0, n1, n2, hrd, hxl, _⟩ := T.pn.node hat
      have hgood := T.wf.good m1 hmL
      rw [(List.getElem?_eq_some_iff.1 hat).2] at hgood
      have hput : put L (k, n, xs) = ((m1 : Int), 0, L) := by
        have hidx := idx_at T.wf hat
        rw [put_in hgood.1 (fitsIn_mono hgood.2.2 (by omega)) hidx.1, hidx.2]
      have HPUT := (show Hid _ from hput)
      have HFIT := (show Hid (∀ z ∈ xs, 0 ≤ z ∧ z < (m1 : Int)) from hgood.2.2)
      have hnn := hgood.2.1
      simp only at hnn
      have HRD := (show Hid _ from hrd)
      have HT := (show Hid _ from T)
      have HA := (show Hid _ from A)
      clear hrd hput hgood hat T A
      go_wp2
      have e0 : (wr.alloc (.cells #[.int .i64 k, .int .i64 n, .slice p4 xs.length c4] 43)).cell? ⟨wr.heap.size, 0, none⟩ = some (.int .i64 k) := by simp [go_sem]
      have e1 : (wr.alloc (.cells #[.int .i64 k, .int .i64 n, .slice p4 xs.length c4] 43)).cell? ⟨wr.heap.size, 1, none⟩ = some (.int .i64 n) := by simp [go_sem]
      have e2 : (wr.alloc (.cells #[.int .i64 k, .int .i64 n, .slice p4 xs.length c4] 43)).cell? ⟨wr.heap.size, 2, none⟩ = some (.slice p4 xs.length c4) := by simp [go_sem]
      have hh3 : wr.heap.size < (wr.alloc (.cells #[.int .i64 k, .int .i64 n, .slice p4 xs.length c4] 43)).heap.size := by simp
      have hBa : Below wr.heap.size wr (wr.alloc (.cells #[.int .i64 k, .int .i64 n, .slice p4 xs.length c4] 43)) := (Below.refl _ wr).alloc (Nat.le_refl _) _
      have T3 := HT.out.add hBa (P := fun k => k = wr.heap.size) (fun k hk => by subst hk; exact ⟨Nat.le_refl _, hh3⟩)
      have A3 := HA.out.stay HT.out.lt (stay_below hBa)
      have P3 := P1.step hBa
      have HT3 := (show Hid _ from T3)
      have HA3 := (show Hid _ from A3)
      have HP3 := (show Hid _ from P3)
      have HR3 := (show Hid _ from RdW.below HRD.out hBa)
      clear P1 HT HA HRD T3 A3 P3 a0 a1 a2 y0 n0 n1 n2
      generalize wr.alloc (.cells #[.int .i64 k, .int .i64 n, .slice p4 xs.length c4] 43) = w3 at *
      generalize wr.heap.size = h at *
      have d0 := HA3.out.c0
      have hpb3 := HT3.out.lt pb (.inl HA3.out.self)
      go_region_held3 (fun w' => w'.cell? ⟨pb, 0, none⟩ = some (.pointer (some ⟨aa, 0, none⟩)) ∧ w'.cell? ⟨h, 0, none⟩ = some (.int .i64 k) ∧ w'.cell? ⟨h, 1, none⟩ = some (.int .i64 n) ∧ w'.cell? ⟨h, 2, none⟩ = some (.slice p4 xs.length c4))
        (first | exact ⟨d0, e0, e1, e2⟩ | exact S4 | exact S5)
        (first
        | (go_at_call 81; refine (ts_low (ws := w3.drew) (HP3.out.step (Below.refl _ _).drew) p4 _ c4 xs rfl (by omega) HFIT.out (RdW.below HR3.out (Below.refl _ _).drew)).mono ?_; rintro ev w4 ⟨p5, c5, rfl, hown5, B5⟩
           have S4 := And.intro ((B5.cell (p := ⟨pb, 0, none⟩) hpb3).trans d0) (And.intro ((B5.cell (p := ⟨h, 0, none⟩) hh3).trans e0) (And.intro ((B5.cell (p := ⟨h, 1, none⟩) hh3).trans e1) ((B5.cell (p := ⟨h, 2, none⟩) hh3).trans e2)))
           have B5' := (Below.refl _ w3).drew.trans B5
           have T4 := HT3.out.step B5'
           have A4 := HA3.out.stay (fun k hk => HT3.out.lt k (.inl hk)) (stay_below B5'))
        | (go_at_call 14; refine (T4.onA (Q := fun e _ => e = .returned (.tuple #[.int .i64 m1, .int .i64 0])) (fun G' _ O => make_on O k n (irow_of hown5).reads hnn HPUT.out)).mono ?_; rintro ev w5 ⟨rfl, T5, K5⟩
           have S5 := And.intro ((K5.cell (p := ⟨pb, 0, none⟩) (T4.lt pb (.inl A4.self)) (fun hn => hn (.inl A4.self))).trans S4.1) (And.intro ((K5.cell (p := ⟨h, 0, none⟩) (T4.lt h (.inr rfl)) (fun hn => hn (.inr rfl))).trans S4.2.1) (And.intro ((K5.cell (p := ⟨h, 1, none⟩) (T4.lt h (.inr rfl)) (fun hn => hn (.inr rfl))).trans S4.2.2.1) ((K5.cell (p := ⟨h, 2, none⟩) (T4.lt h (.inr rfl)) (fun hn => hn (.inr rfl))).trans S4.2.2.2)))
           have A5 := A4.stay (fun k hk => T4.lt k (.inl hk)) (K5.mono (fun k hk => .inl hk)))
        | (go_at_call 13; fail))
      try simp only [Exit.then]
      have T6 := T5.mono (G' := G) (fun k hk => .inl hk)
      have HT6 := (show Hid _ from T6)
      have HA6 := (show Hid _ from A5)
      have a2 := HA6.out.c2
      have f2 := HA6.out.f2
      have hpb5 := HT6.out.lt pb HA6.out.self
      have hnp : ¬ (Value.slice mp m1 mc).ownBlock = some pb := fun h => (HA6.out.apart pb h).2 rfl
      have HNP := (show Hid _ from hnp)
      have hw5 := HT6.out.below.size
      clear T5 T6 A5 S4 S5 T4 A4 K5 B5 B5' hown5 d0 e0 e1 e2 hnp
      go_wp2_with (at_builtin; refine wpList_append_own_at _ rfl (.tmp 63) (.tmp 65) 22 rfl w.heap.size 3 i0 (.int .i64 0) 1 8 Try.underlying22 hi' hz0 hz1 hz2 rfl (by decide) (.slice mp m1 mc) m1 _ rfl (World.ownsRow.alloc HA6.out.row _) ⟨w5.heap.size, 0, none⟩ 1 1 [.int .i64 m1] rfl rfl (news1 _ _ _) (fun u hu => by simp at hu; subst hu; rfl) (by unfold maxLen; omega) (by omega) (by simp; omega) ?_; intro v7 w7 hown7 hgrow7 _ hat7; obtain ⟨p8, c8, rfl⟩ := row_slice hown7; have a2' : w7.cell? ⟨pb, 2, none⟩ = some (.slice mp m1 mc) := ((Keeps.of_grown (F := fun k => (Value.slice mp m1 mc).ownBlock = some k) hgrow7 (fun k hk => hk)).cell (p := ⟨pb, 2, none⟩) (by simp; omega) HNP.out).trans (by rw [World.cell?_alloc_lt _ _ ⟨pb, 2, none⟩ hpb5]; exact a2); have f2' : w7.frozen? ⟨pb, 2, none⟩ = false := ((Keeps.of_grown (F := fun k => (Value.slice mp m1 mc).ownBlock = some k) hgrow7 (fun k hk => hk)).frozen (p := ⟨pb, 2, none⟩) (by simp; omega) HNP.out).trans (((Below.refl _ w5).alloc (Nat.le_refl _) _).frozen (p := ⟨pb, 2, none⟩) hpb5 |>.trans f2))
      exact ⟨⟨m1 + 1, by simp, pr_more HT6.out HA6.out hmL hown7 hgrow7 hat7⟩, by simp [intOf]; omega⟩
    · have hle : ¬ (m1 : Int) ≤ i := by omega
      have hii : (i : Int) < m1 := by omega
      obtain ⟨g, rfl, hg, a3⟩ := A.at (i := i) (by omega)
      clear T A
      have HP1 := (show Hid _ from P1)
      clear P1
      go_wp2
      go_ret
      exact ⟨rfl, m1, HP1.out⟩
end
end Go.Proofs.Ytjegjbolmhaglaa
