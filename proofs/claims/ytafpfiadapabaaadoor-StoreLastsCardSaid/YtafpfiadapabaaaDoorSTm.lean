/-
  STORE: two rows of bytes held against one another; a disk that holds a state, with no crash armed; wakes. Own work.
-/
import Derived.Test.YtafpfiadapabaaaDoorSTl
namespace Go.Proofs.YtafpfiadapabaaaDoor
open Go.ChangeShapes Go.WideShapes Go.ChangeAt Go.RowKit Go.Maps Go.Deep
set_option maxRecDepth 100000
attribute [local go_sem ↓] Go.wp_at_zero Go.wp_at_succ
set_option maxHeartbeats 4000000 in
theorem bytes_any {w : World} {u v : Value} {bs cs : List Int} (h1 : RdV w u (bs.map (Value.int .u8))) (h2 : RdV w v (cs.map (Value.int .u8))) (hb : bs.length ≤ 100000) (hc : cs.length ≤ 100000) : Calls Tryd.prog 15 #[u, v] w fun e w' => e = .returned (.bool (decide (bs = cs))) ∧ Below w.heap.size w w' := by
  obtain ⟨p, c, rfl⟩ := rdv_shape h1
  obtain ⟨q, e, rfl⟩ := rdv_shape h2
  simp only [List.length_map] at h1 h2 ⊢
  by_cases hl : bs.length = cs.length
  · have hlI : (bs.length : Int) = cs.length := by omega
    go_enter Tryd.func15, Tryd.ntmps15
    go_wp2
    go_loopw [5] (fun i wq => ∃ j : Nat, i = .int .i64 j ∧ j ≤ bs.length ∧ Below w.heap.size w wq ∧ bs.take j = cs.take j) (fun i _ => bs.length - (intOf i).toNat)
    case atStart => exact ⟨0, rfl, by omega, Below.refl _ _, rfl⟩
    case round =>
      obtain ⟨j, rfl, hj, hB, hT⟩ := hrel
      by_cases hlt : j < bs.length
      · have hjI : (j : Int) < cs.length := by omega
        have hlt2 : j < cs.length := by omega
        obtain ⟨b, o, rfl, hbl, hc⟩ := rdv_nth h1 (t := j) (by simpa using hlt)
        obtain ⟨b', o', rfl, hbl', hc'⟩ := rdv_nth h2 (t := j) (by simpa using hlt2)
        rw [List.getElem?_map, List.getElem?_eq_getElem hlt, Option.map_some] at hc
        rw [List.getElem?_map, List.getElem?_eq_getElem hlt2, Option.map_some] at hc'
        have ht1 : bs.take (j + 1) = bs.take j ++ [bs[j]] := by simp
        have ht2 : cs.take (j + 1) = cs.take j ++ [cs[j]] := by simp
        have hne : bs[j] ≠ cs[j] → ¬ bs = cs := fun h e => h (by subst e; rfl)
        generalize bs[j] = z at hc ht1 hne
        generalize cs[j] = y at hc' ht2 hne
        have x1 := (hB.cell (p := ⟨b, o + j, none⟩) hbl).trans hc
        have x2 := (hB.cell (p := ⟨b', o' + j, none⟩) hbl').trans hc'
        have HT := (show Hid _ from hT)
        have HT1 := (show Hid _ from ht1)
        have HT2 := (show Hid _ from ht2)
        have HN := (show Hid _ from hne)
        clear hc hc' hT ht1 ht2 hne
        by_cases hz : z = y
        · subst hz
          go_wp2
          go_region
          all_goals simp only [Exit.then]
          all_goals go_wp2
          all_goals exact ⟨⟨j + 1, by simp, by omega, hB.trans (by first | exact Below.refl _ _ | exact (Below.refl _ _).drew | exact below_drewN (Below.refl _ _) _), by rw [HT1.out, HT2.out, HT.out]⟩, by simp [intOf]; omega⟩
        · go_wp2
          go_region
          all_goals simp only [Exit.then]
          all_goals go_wp2
          all_goals go_ret
          all_goals exact ⟨by simp [HN.out hz], hB.trans (by first | exact Below.refl _ _ | exact (Below.refl _ _).drew | exact below_drewN (Below.refl _ _) _)⟩
      · have hjI : ¬ (j : Int) < cs.length := by omega
        have he : bs = cs := by
          rw [List.take_of_length_le (by omega), List.take_of_length_le (by omega)] at hT
          exact hT
        clear hT
        go_wp2
        go_ret
        exact ⟨by simp, hB⟩
  · have hlI : ¬ (bs.length : Int) = cs.length := by omega
    have hne : ¬ bs = cs := fun e => hl (by rw [e])
    go_enter Tryd.func15, Tryd.ntmps15
    go_wp2
    go_ret
    exact ⟨by simp [hne], Below.refl _ _⟩
/-- A disk on which a state lies; no crash is armed. -/
def Dst (w0 w : World) (db n : Nat) (S : List Int) (m : Nat) (off : Bool) (R : List RowD) : Prop := ∃ d vs vn vw vk h0 h1 a c, Dsk w0 w db n d vs vn vw vk R ∧ d.off = off ∧ d.wr = [] ∧ d.now = d.safe ∧ d.left = 0 ∧ Held d.now S h0 h1 a c ∧ c ≤ m
section
variable {w0 w w' : World} {db n m : Nat} {S : List Int} {off : Bool} {R : List RowD}
theorem Dst.step (T : Dst w0 w db n S m off R) (hB : Below w.heap.size w w') : Dst w0 w' db n S m off R := by
  obtain ⟨d, vs, vn, vw, vk, h0, h1, a, c, T, r⟩ := T
  exact ⟨d, vs, vn, vw, vk, h0, h1, a, c, T.step hB, r⟩
theorem Dst.below (T : Dst w0 w db n S m off R) : Below w0.heap.size w0 w := by
  obtain ⟨d, vs, vn, vw, vk, h0, h1, a, c, T, r⟩ := T
  exact T.fam.below
theorem Dst.row (T : Dst w0 w db n S m off R) {r : RowD} (h : r ∈ R) : r.Holds w0.heap.size w := by
  obtain ⟨d, vs, vn, vw, vk, h0, h1, a, c, T, _⟩ := T
  exact T.rowM h
theorem Dst.add (T : Dst w0 w db n S m off R) {r : RowD} (hB : Below w.heap.size w w') (hr : r.Holds w.heap.size w') : Dst w0 w' db n S m off (R ++ [r]) := by
  obtain ⟨d, vs, vn, vw, vk, h0, h1, a, c, T, q⟩ := T
  have F := T.fam.add hB hr
  rw [List.append_assoc] at F
  exact ⟨d, vs, vn, vw, vk, h0, h1, a, c, ⟨F, T.ok⟩, q⟩
theorem Dst.more (T : Dst w0 w db n S m off R) {m' : Nat} (h : m ≤ m') : Dst w0 w db n S m' off R := by
  obtain ⟨d, vs, vn, vw, vk, h0, h1, a, c, T, q1, q2, q3, q4, q5, q6⟩ := T
  exact ⟨d, vs, vn, vw, vk, h0, h1, a, c, T, q1, q2, q3, q4, q5, by omega⟩
theorem Dst.size (T : Dst w0 w db n S m off R) : S.length ≤ 8000 := by
  obtain ⟨d, vs, vn, vw, vk, h0, h1, a, c, T, q1, q2, q3, q4, q5, q6⟩ := T
  exact q5.size.1
theorem new_st (n : Nat) (h1 : 2 ≤ n) (h2 : n ≤ 512) (w : World) : Calls Tryd.prog 9 #[.int .i64 (n : Int)] w fun e w' => ∃ db, e = .returned (.tuple #[.pointer (some ⟨db, 0, none⟩), .int .i64 0]) ∧ Dst w w' db n [] 0 false [] := by
  refine (new_ok n (by omega) h2 w).mono ?_
  rintro e w' ⟨db, vs, vn, rfl, T⟩
  exact ⟨db, rfl, _, _, _, _, _, _, _, _, _, T, rfl, rfl, rfl, rfl, held_fresh n h1, Nat.le_refl _⟩
theorem open_st (T : Dst w0 w db n S m false R) (hn : 300 ≤ n) : Calls Tryd.prog 10 #[.pointer (some ⟨db, 0, none⟩)] w fun e w' => ∃ sb v, e = .returned (.tuple #[.pointer (some ⟨sb, 0, none⟩), .int .i64 0]) ∧ Below w.heap.size w w' ∧ Dst w0 w' db n S m false (R ++ [byteRow v S, stRow sb db v]) := by
  obtain ⟨d, vs, vn, vw, vk, h0, h1, a, c, T, q1, q⟩ := T
  refine (open_ok T hn q.2.2.2.1 q1).mono ?_
  rintro e w' ⟨sb, v, rfl, hB, T'⟩
  exact ⟨sb, v, rfl, hB, d, vs, vn, vw, vk, h0, h1, a, c, T', q1, q⟩
theorem open_st_off (T : Dst w0 w db n S m true R) : Calls Tryd.prog 10 #[.pointer (some ⟨db, 0, none⟩)] w fun e w' => e = .returned (.tuple #[.pointer none, .int .i64 9]) ∧ w' = w := by
  obtain ⟨d, vs, vn, vw, vk, h0, h1, a, c, T, q1, q⟩ := T
  exact open_off T q1
theorem state_st (T : Dst w0 w db n S m off R) {S1 : List Int} {sb : Nat} {v : Value} (hs : stRow sb db v ∈ R) (hb : byteRow v S1 ∈ R) (hS : S1.length ≤ 8000) : Calls Tryd.prog 17 #[.pointer (some ⟨sb, 0, none⟩)] w fun e w' => ∃ u, e = .returned u ∧ Below w.heap.size w w' ∧ w'.ownsRow w.heap.size 5 1 u S1.length (S1.map (Value.int .u8)) := by
  obtain ⟨d, vs, vn, vw, vk, h0, h1, a, c, T, q⟩ := T
  exact state_ok T hs hb hS
theorem save_st (T : Dst w0 w db n S m false R) (hg : w0.cell? ⟨0, 0, none⟩ = some eTy) (hn : 300 ≤ n) {S' : List Int} (hS : S'.length ≤ 8000) (hm : m < 50000) {v : Value} (hv : Stays w0 db n R v (S'.map (Value.int .u8))) (hcap : ∀ p n c, v = .slice p n c → n ≤ c) {sb : Nat} {vst : Value} (hs : stRow sb db vst ∈ R) : Calls Tryd.prog 14 #[.pointer (some ⟨sb, 0, none⟩), v] w fun e w' => e = .returned (.int .i64 0) ∧ ∃ R' v', Dst w0 w' db n S' (m + 1) false R' ∧ stRow sb db v' ∈ R' ∧ byteRow v' S' ∈ R' ∧ ∀ x ∈ R, x ≠ stRow sb db vst → x ∈ R' := by
  obtain ⟨d, vs, vn, vw, vk, h0, h1, a, c, T, q1, q2, q3, q4, q5, q6⟩ := T
  refine (Save_ok T hg hn q5 ⟨q1, q2, q3⟩ hS (by omega) (by omega) hv hcap hs).mono ?_
  rintro e w' ⟨ok, d', vs', vn', vw', vk', hsv, h1, h2⟩
  cases ok with
  | false => exact absurd q4 hsv.1
  | true =>
    obtain ⟨rfl, R', v', T', g1, g2, g3⟩ := h1 rfl
    obtain ⟨Q, ⟨k0, k1, H⟩, hl, _⟩ := hsv
    exact ⟨rfl, R', v', ⟨d', _, _, _, _, k0, k1, _, _, T', Q.off, Q.wr, Q.eq, hl q4, H, by omega⟩, g1, g2, g3⟩
theorem save_st_off (T : Dst w0 w db n S m true R) {sb : Nat} {vst : Value} (hs : stRow sb db vst ∈ R) (v : Value) : Calls Tryd.prog 14 #[.pointer (some ⟨sb, 0, none⟩), v] w fun e w' => e = .returned (.int .i64 9) ∧ w' = w := by
  obtain ⟨d, vs, vn, vw, vk, h0, h1, a, c, T, q1, q⟩ := T
  exact Save_off T q1 hs v
theorem save_st_len (T : Dst w0 w db n S m false R) {sb : Nat} {vst : Value} (hs : stRow sb db vst ∈ R) (p : Option Addr) (l c : Nat) (hl : 8000 < l) : Calls Tryd.prog 14 #[.pointer (some ⟨sb, 0, none⟩), .slice p l c] w fun e w' => e = .returned (.int .i64 2) ∧ w' = w := by
  obtain ⟨d, vs, vn, vw, vk, h0, h1, a, c', T, q1, q⟩ := T
  exact Save_len T q1 hs p l c hl
theorem crash_st (T : Dst w0 w db n S m false R) : Calls Tryd.prog 20 #[.pointer (some ⟨db, 0, none⟩), .slice none 0 0, .int .i64 (-1)] w fun e w' => e = .returned (.tuple #[]) ∧ Dst w0 w' db n S m true R := by
  obtain ⟨d, vs, vn, vw, vk, h0, h1, a, c, T, q1, q2, q3, q4, q5, q6⟩ := T
  refine (crash_on T q1 (-1) (ks := []) ⟨none, 0, rfl, .inl rfl⟩ (fun h => absurd rfl h)).mono ?_
  rintro e w' ⟨rfl, T'⟩
  have e1 : (d.crash [] (-1)).now = d.now := by
    show crs [] (-1) d.wr d.safe d.wr.length = d.now
    rw [q2, q3]
    rfl
  exact ⟨rfl, d.crash [] (-1), _, _, _, _, h0, h1, a, c, T', rfl, rfl, rfl, rfl, by rw [e1]; exact q5, q6⟩
theorem start_st (T : Dst w0 w db n S m off R) : Calls Tryd.prog 19 #[.pointer (some ⟨db, 0, none⟩)] w fun e w' => e = .returned (.tuple #[]) ∧ Dst w0 w' db n S m false R := by
  obtain ⟨d, vs, vn, vw, vk, h0, h1, a, c, T, q1, q⟩ := T
  refine (start_ok T).mono ?_
  rintro e w' ⟨rfl, T'⟩
  exact ⟨rfl, _, vs, vn, vw, vk, h0, h1, a, c, T', rfl, q⟩
end
end Go.Proofs.YtafpfiadapabaaaDoor
