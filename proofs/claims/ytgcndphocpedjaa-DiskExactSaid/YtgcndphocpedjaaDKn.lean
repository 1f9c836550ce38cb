/-
  DISK: heavy, Bytes. Own work.
-/
import Derived.Test.YtgcndphocpedjaaDKm
namespace Go.Proofs.Ytgcndphocpedjaa
open Go.ChangeShapes Go.WideShapes Go.ChangeAt Go.RowKit Go.Maps Go.Deep
set_option maxRecDepth 100000
attribute [local go_sem ↓] Go.wp_at_zero Go.wp_at_succ
theorem rdv_shape {w : World} {v : Value} {cs : List Value} (h : RdV w v cs) : ∃ p c, v = .slice p cs.length c := by
  obtain ⟨p, c, e, _⟩ := h
  exact ⟨p, c, e⟩
structure HvPost (w : World) (S : List Ac) (e : Ending) (w' : World) : Prop where
  same : w' = w
  ex : ∃ r, e = .returned (.bool r) ∧ (r = false → S.length ≤ 400 ∧ ∀ i (h : i < S.length), i < 100 → S[i].bs.length ≤ 200 ∧ S[i].ks.length ≤ 200)
set_option maxHeartbeats 4000000 in
theorem heavy_ok {w : World} {v : Value} {S : List Ac} (H : Acts w v S) : Calls Try.prog 7 #[v] w (HvPost w S) := by
  obtain ⟨p, c, rfl, _⟩ := id H
  go_enter Try.func7, Try.ntmps7
  go_wp2
  all_goals first
    | (go_ret; exact ⟨rfl, true, by simp, fun h => by cases h⟩)
    | skip
  have hl : S.length ≤ 400 := by omega
  go_loopw [3] (fun i wq => wq = w ∧ ∃ j : Nat, i = .int .i64 j ∧ j ≤ S.length ∧ j ≤ 100 ∧ Hid (∀ i (h : i < S.length), i < j → S[i].bs.length ≤ 200 ∧ S[i].ks.length ≤ 200)) (fun i _ => S.length - (intOf i).toNat)
  case atStart => exact ⟨rfl, 0, rfl, by omega, by omega, fun i h hi => by omega⟩
  case round =>
    obtain ⟨rfl, j, rfl, hj, hj2, HA⟩ := hrel
    by_cases hlt : j < S.length
    · have hjI : (j : Int) < S.length := by omega
      by_cases h100 : j < 100
      · have h100I : (j : Int) < 100 := by omega
        obtain ⟨b, o, rfl, hb, A⟩ := acts_nth H hlt
        have a2 := A.c2
        have a4 := A.c4
        obtain ⟨pb, cb, e1⟩ := rdv_shape A.rb
        obtain ⟨pk, ck, e2⟩ := rdv_shape A.rk
        rw [e1, List.length_map] at a2
        rw [e2, List.length_map] at a4
        have hmore : S[j].bs.length ≤ 200 → S[j].ks.length ≤ 200 → Hid (∀ i (h : i < S.length), i < j + 1 → S[i].bs.length ≤ 200 ∧ S[i].ks.length ≤ 200) := fun h1 h2 i h hi => by
          by_cases hij : i = j
          · subst hij
            exact ⟨h1, h2⟩
          · exact HA.out i h (by omega)
        have HM := (show Hid _ from hmore)
        clear hmore e1 e2 A
        generalize S[j].bs.length = lb at *
        generalize S[j].ks.length = lk at *
        go_wp2
        all_goals first
          | (refine ⟨⟨trivial, j + 1, by simp, by omega, by omega, HM.out (by omega) (by omega)⟩, by simp [intOf]; omega⟩)
          | (go_ret; exact ⟨rfl, true, by simp, fun h => by cases h⟩)
      · have h100I : ¬ (j : Int) < 100 := by omega
        go_wp2
        go_ret
        exact ⟨rfl, false, by simp, fun _ => ⟨hl, fun i h hi => HA.out i h (by omega)⟩⟩
    · have hjI : ¬ (j : Int) < S.length := by omega
      go_wp2
      go_ret
      exact ⟨rfl, false, by simp, fun _ => ⟨hl, fun i h hi => HA.out i h (by omega)⟩⟩
set_option maxHeartbeats 4000000 in
theorem bytes_same {w : World} {u v : Value} {bs : List Int} (h1 : RdV w u (bs.map (Value.int .u8))) (h2 : RdV w v (bs.map (Value.int .u8))) (hl : bs.length ≤ 1000) : Calls Try.prog 20 #[u, v] w fun e w' => e = .returned (.bool true) ∧ Below w.heap.size w w' := by
  obtain ⟨p, c, rfl⟩ := rdv_shape h1
  obtain ⟨q, e, rfl⟩ := rdv_shape h2
  simp only [List.length_map] at h1 h2 ⊢
  go_enter Try.func20, Try.ntmps20
  go_wp2
  go_loopw [5] (fun i wq => ∃ j : Nat, i = .int .i64 j ∧ j ≤ bs.length ∧ Below w.heap.size w wq) (fun i _ => bs.length - (intOf i).toNat)
  case atStart => exact ⟨0, rfl, by omega, Below.refl _ _⟩
  case round =>
    obtain ⟨j, rfl, hj, hB⟩ := hrel
    by_cases hlt : j < bs.length
    · have hjI : (j : Int) < bs.length := by omega
      obtain ⟨b, o, rfl, hbl, hc⟩ := rdv_nth h1 (t := j) (by simpa using hlt)
      obtain ⟨b', o', rfl, hbl', hc'⟩ := rdv_nth h2 (t := j) (by simpa using hlt)
      rw [List.getElem?_map, List.getElem?_eq_getElem hlt, Option.map_some] at hc hc'
      generalize bs[j] = z at hc hc'
      have x1 := (hB.cell (p := ⟨b, o + j, none⟩) hbl).trans hc
      have x2 := (hB.cell (p := ⟨b', o' + j, none⟩) hbl').trans hc'
      clear hc hc'
      go_wp2
      go_region
      all_goals simp only [Exit.then]
      all_goals go_wp2
      all_goals exact ⟨⟨j + 1, by simp, by omega, hB.trans (by first | exact Below.refl _ _ | exact (Below.refl _ _).drew | exact below_drewN (Below.refl _ _) _)⟩, by simp [intOf]; omega⟩
    · have hjI : ¬ (j : Int) < bs.length := by omega
      go_wp2
      go_ret
      exact ⟨by simp, hB⟩
end Go.Proofs.Ytgcndphocpedjaa
