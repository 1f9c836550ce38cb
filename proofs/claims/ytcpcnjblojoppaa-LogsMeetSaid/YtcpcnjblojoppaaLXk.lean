/-
  LAYER 25: logs that are alike are told so. Own work.
-/
import Derived.Test.YtcpcnjblojoppaaLXj
namespace Go.Proofs.Ytcpcnjblojoppaa
open Go.ChangeShapes Go.WideShapes Go.ChangeAt Go.RowKit Go.Maps
set_option maxRecDepth 100000
attribute [local go_sem ↓] Go.wp_at_zero Go.wp_at_succ
theorem sl_len {w : World} {v : Value} {S : List Lg} {p : Option Addr} {n c : Nat} (h : Logs w v S) (hv : v = .slice p n c) : S.length = n := by
  obtain ⟨_, _, rfl, _⟩ := h
  cases hv
  rfl
theorem ints_same {w : World} {v u : Value} {xs : List Int} (hn : xs.length ≤ 1000) (hx : RdW w v xs) (hy : RdW w u xs) : Calls Try.prog 13 #[v, u] w fun e w' => e = .returned (.bool true) ∧ Below w.heap.size w w' := by
  refine (ints_ok (by omega) hx hy).mono ?_
  rintro e w' ⟨rfl, hB⟩
  exact ⟨by simp, hB⟩
set_option maxHeartbeats 8000000 in
theorem klogs_low (p p' : Option Addr) (n c c' : Nat) (S T : List Lg) (hn : S.length = n) (hn' : T.length = n) (h4 : n ≤ 1000) (hx : Hid (∀ i (h : i < S.length), S[i].xs.length ≤ 1000)) (ws : World) (HS : Hid (Logs ws (.slice p n c) S)) (HT : Hid (Logs ws (.slice p' n c') T)) (HA : Hid (Alike S T)) : Calls Try.prog 18 #[.slice p n c, .slice p' n c'] ws fun e w' => e = .returned (.bool true) ∧ Below ws.heap.size ws w' := by
  go_enter Try.func18, Try.ntmps18
  go_wp2
  go_loopw [5] (fun i wr => ∃ j : Nat, i = .int .i64 j ∧ j ≤ n ∧ Below ws.heap.size ws wr) (fun i _ => n - (intOf i).toNat)
  case atStart => exact ⟨0, rfl, by omega, Below.refl _ _⟩
  case round =>
    obtain ⟨j, rfl, hj, hB⟩ := hrel
    by_cases hlt : j < n
    · obtain ⟨b, o, k, m, q, c4, xs, rfl, hb0, hsj, hst0⟩ := logs_at HS.out (j := j) (by omega)
      obtain ⟨b', o', k', m', q', c4', xs', rfl, hb0', hsj', hst0'⟩ := logs_at HT.out (j := j) (by omega)
      obtain ⟨_, e1⟩ := List.getElem?_eq_some_iff.1 hsj
      obtain ⟨_, e2⟩ := List.getElem?_eq_some_iff.1 hsj'
      obtain ⟨a0, a1, a2⟩ := HA.out.2 j (by omega) (by omega)
      have hx1 := hx.out j (by omega)
      rw [e1, e2] at a0 a1 a2
      rw [e1] at hx1
      simp only at a0 a1 a2 hx1
      subst a0 a1 a2
      have hst := hst0.below hb0 hB
      have hst' := hst0'.below hb0' hB
      have hb := Nat.lt_of_lt_of_le hb0 hB.size
      have hb' := Nat.lt_of_lt_of_le hb0' hB.size
      have x0 := hst.c
      have x1 := hst.b
      have x2 := hst.v
      have y0 := hst'.c
      have y1 := hst'.b
      have y2 := hst'.v
      simp only at x0 x1 x2 y0 y1 y2
      have hr := (show Hid _ from hst.args)
      have hr' := (show Hid _ from hst'.args)
      clear hst hst' hst0 hst0' hsj hsj' e1 e2
      go_wp2
      go_region_held3 (fun w' => w'.cell? ⟨b, o + j * 3, none⟩ = some (.int .i64 k') ∧ w'.cell? ⟨b, o + j * 3 + 1, none⟩ = some (.int .i64 m') ∧ w'.cell? ⟨b, o + j * 3 + 2, none⟩ = some (.slice q xs'.length c4) ∧ w'.cell? ⟨b', o' + j * 3, none⟩ = some (.int .i64 k') ∧ w'.cell? ⟨b', o' + j * 3 + 1, none⟩ = some (.int .i64 m') ∧ w'.cell? ⟨b', o' + j * 3 + 2, none⟩ = some (.slice q' xs'.length c4'))
        (first | exact ⟨x0, x1, x2, y0, y1, y2⟩ | exact ⟨v0, v1, v2, u0, u1, u2⟩)
        (first | (go_at_call 13; refine (ints_same (w := wr.drew) hx1 hr.out hr'.out).mono ?_; rintro ev w3 ⟨rfl, B3⟩; have v0 := (B3.cell (p := ⟨b, o + j * 3, none⟩) hb).trans x0; have v1 := (B3.cell (p := ⟨b, o + j * 3 + 1, none⟩) hb).trans x1; have v2 := (B3.cell (p := ⟨b, o + j * 3 + 2, none⟩) hb).trans x2; have u0 := (B3.cell (p := ⟨b', o' + j * 3, none⟩) hb').trans y0; have u1 := (B3.cell (p := ⟨b', o' + j * 3 + 1, none⟩) hb').trans y1; have u2 := (B3.cell (p := ⟨b', o' + j * 3 + 2, none⟩) hb').trans y2))
      simp only [Exit.then]
      go_at_K
      go_wp2
      exact ⟨⟨j + 1, by simp, by omega, hB.drew.trans (B3.mono hB.size)⟩, by simp [intOf]; omega⟩
    · obtain rfl : j = n := by omega
      go_wp2
      go_ret
      exact ⟨rfl, hB⟩
theorem klogs_ok {w : World} {v u : Value} {S T : List Lg} (h : Logs w v S) (h' : Logs w u T) (hA : Alike S T) (h4 : S.length ≤ 1000) (hx : ∀ i (h : i < S.length), S[i].xs.length ≤ 1000) : Calls Try.prog 18 #[v, u] w fun e w' => e = .returned (.bool true) ∧ Below w.heap.size w w' := by
  have h1 := h
  have h2 := h'
  obtain ⟨p, c, rfl, _⟩ := h1
  obtain ⟨p', c', rfl, _⟩ := h2
  have hl := hA.1
  rw [hl] at h' ⊢
  exact klogs_low p p' _ c c' S T rfl hl h4 hx w h h' hA
end Go.Proofs.Ytcpcnjblojoppaa
