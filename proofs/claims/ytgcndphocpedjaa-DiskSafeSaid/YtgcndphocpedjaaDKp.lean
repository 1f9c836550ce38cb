/-
  DISKSAFE: the walk. Own work.
-/
import Derived.Test.YtgcndphocpedjaaDKo
namespace Go.Proofs.Ytgcndphocpedjaa
open Go.ChangeShapes Go.WideShapes Go.ChangeAt Go.RowKit Go.Maps Go.Deep
set_option maxRecDepth 100000
attribute [local go_sem ↓] Go.wp_at_zero Go.wp_at_succ
def rwRows (v : Value) (L : List (Value × List Int)) : List RowD := ⟨32, 1, v, L.length, L.map (·.1)⟩ :: L.map (fun x => byteRow x.1 x.2)
section
variable {w0 w w' : World} {db n : Nat} {d : Dk} {vs vn vw vk v v' u : Value} {L : List (Value × List Int)} {b : List Int}
theorem Dsk.grow (T : Dsk w0 w db n d vs vn vw vk (rwRows v L ++ [byteRow u b])) (hg : w.grownBy w' v.ownBlock) (hr : w'.ownsRow w0.heap.size 32 1 v' (L.length + 1) (L.map (·.1) ++ [u])) (hat : ∀ k, v'.ownBlock = some k → v.ownBlock = some k ∨ w.heap.size ≤ k) : Dsk w0 w' db n d vs vn vw vk (rwRows v' (L ++ [(u, b)])) := by
  have F := T.fam.put 5 rfl (r' := ⟨32, 1, v', L.length + 1, L.map (·.1) ++ [u]⟩) hg hr hat
  refine ⟨?_, T.ok⟩
  rw [show rwRows v' (L ++ [(u, b)]) = ⟨32, 1, v', L.length + 1, L.map (·.1) ++ [u]⟩ :: (L.map (fun x => byteRow x.1 x.2) ++ [byteRow u b]) by simp [rwRows]]
  exact F
theorem Dsk.want (T : Dsk w0 w db n d vs vn vw vk (rwRows v L)) : w.ownsRow w0.heap.size 32 1 v L.length (L.map (·.1)) := T.fam.row 5 _ rfl
theorem Dsk.wrow (T : Dsk w0 w db n d vs vn vw vk (rwRows v L)) {k : Nat} {x : Value × List Int} (hx : L[k]? = some x) : w.ownsRow w0.heap.size 5 1 x.1 x.2.length (x.2.map (Value.int .u8)) :=
  T.fam.row (6 + k) (byteRow x.1 x.2) (by
    rw [List.getElem?_append_right (by show 5 ≤ 6 + k; omega), show 6 + k - (d.rows db vs vn vw vk).length = k + 1 by show 6 + k - 5 = k + 1; omega, rwRows, List.getElem?_cons_succ, List.getElem?_map, hx]
    rfl)
theorem Dsk.wcell {p : Option Addr} {m c k : Nat} {x : Value × List Int} (T : Dsk w0 w db n d vs vn vw vk (rwRows (.slice p m c) L)) (hm : L.length = m) (hx : L[k]? = some x) : ∃ g, p = some ⟨g, 0, none⟩ ∧ w.cell? ⟨g, k, none⟩ = some x.1 := by
  have h := T.want
  rw [hm] at h
  have hk := (List.getElem?_eq_some_iff.1 hx).1
  obtain ⟨g, rfl, _, _, _, hc⟩ := row_open h (by omega)
  exact ⟨g, rfl, by rw [hc k (by omega), List.getElem?_map, hx]; rfl⟩
end
theorem rbs_nth {w : World} {p : Option Addr} {n c t : Nat} {S : List Rb} (h : Rbs w (.slice p n c) S) (ht : t < S.length) : ∃ b o, p = some ⟨b, o, none⟩ ∧ b < w.heap.size ∧ w.cell? ⟨b, o + t, none⟩ = some S[t].v ∧ RdV w S[t].v (S[t].bs.map (Value.int .u8)) := by
  obtain ⟨p', c', e, rfl | ⟨b, o, rfl, hb, hc⟩⟩ := h
  · exact absurd ht (Nat.not_lt_zero _)
  · cases e
    exact ⟨b, o, rfl, hb, hc t ht⟩
theorem conv8 (c : Int) : ∃ k : Nat, k < 8 ∧ (IntKind.u64.wrap c).tmod 8 = k := by
  have h := u64_pos' c
  generalize IntKind.u64.wrap c = u at h
  rw [Int.tmod_eq_emod_of_nonneg h]
  exact ⟨(u % 8).toNat, by omega, by omega⟩
theorem conv10 (c : Int) : ∃ k : Nat, k < 10 ∧ IntKind.i64.wrap ((IntKind.u64.wrap c).tmod 10) = k := by
  have h := u64_pos' c
  generalize IntKind.u64.wrap c = u at h
  rw [Int.tmod_eq_emod_of_nonneg h]
  refine ⟨(u % 10).toNat, by omega, ?_⟩
  rw [IntWalk.i64_in _ (by omega)]
  omega
set_option maxHeartbeats 8000000 in
theorem safe_low (v1 v2 : Value) (S1 : List Rb) (S : List Ac) (w : World) (H1 : Rbs w v1 S1) (H2 : Acts w v2 S) : Calls Try.prog 4 #[v1, v2] w fun e w' => e = .returned (.bool true) ∧ Below w.heap.size w w' := by
  obtain ⟨p1, c1, rfl, _⟩ := id H1
  obtain ⟨p2, c2, rfl, _⟩ := id H2
  obtain ⟨i0, hi0, hz0, hz1, hz2⟩ := info_parts (P := Try.prog) (e := 32) (z := .slice none 0 0) (size := 1) (bytes := 24) (by kernel_rfl)
  go_enter Try.func4, Try.ntmps4
  go_wp2_with (first
    | (go_at_call 7; refine (heavy_ok H2).mono ?_; rintro ev w ⟨rfl, r, rfl, hr⟩; have HR := (show Hid _ from hr); clear hr; cases r)
    | (go_at_call 8; refine (new_ok 20 (by omega) (by omega) _).mono ?_; rintro ev w1 ⟨db, vs, vn, rfl, T0⟩))
  all_goals first
    | (go_ret; exact ⟨by simp, Below.refl _ _⟩)
    | skip
  have hS1 : S1.length ≤ 10 := by omega
  have hS0 : 1 ≤ S1.length := by omega
  have T1 : Dsk w w1 db 20 (Dk.fresh 20) vs vn (.slice none 0 0) (.slice none 0 0) (rwRows (.slice none 0 0) []) := ⟨T0.fam.add (r := ⟨32, 1, .slice none 0 0, 0, []⟩) (Below.refl _ _) (World.ownsRow_nil _ _ _ _), T0.ok⟩
  clear T0
  go_loopw [7, 8] (fun q i wq => ∃ (j : Nat) (d : Dk) (vs vn vw vk : Value) (L : List (Value × List Int)) (p : Option Addr) (c : Nat), q = .slice p j c ∧ i = .int .i64 j ∧ j ≤ S1.length ∧ Dsk w wq db 20 d vs vn vw vk (rwRows (.slice p j c) L) ∧ d.off = false ∧ d.left = 0 ∧ L.length = j ∧ d.wr.length = j ∧ (∀ k, k < j → ∃ b, d.wr[k]? = some (k, b)) ∧ (∀ (k : Nat) (x : Value × List Int), L[k]? = some x → d.now[k]? = some (x.2, false)) ∧ (∀ x ∈ L, x.2.length = 64)) (fun _ i _ => S1.length - (intOf i).toNat)
  case atStart => exact ⟨0, _, _, _, _, _, [], none, 0, rfl, rfl, by omega, T1, rfl, rfl, rfl, rfl, fun k hk => by omega, fun k x hx => by simp at hx, fun x hx => by cases hx⟩
  case round =>
    clear T1
    obtain ⟨j, d, vs, vn, vw, vk, L, p, c, rfl, rfl, hj, T, hoff, hleft, hL, hwl, hwr, hnow, h64⟩ := hrel
    have HW := (show Hid _ from hwr)
    have HNow := (show Hid _ from hnow)
    have H64 := (show Hid _ from h64)
    clear hwr hnow h64
    by_cases hlt : j < S1.length
    · have hjI : (j : Int) < S1.length := by omega
      obtain ⟨b, o, rfl, hb, hcell, hrd⟩ := rbs_nth H1 hlt
      obtain ⟨pb, cb, hvb⟩ := rdv_shape hrd
      have x1 := (T.fam.below.cell (p := ⟨b, o + j, none⟩) hb).trans hcell
      rw [hvb] at x1 hrd
      rw [List.length_map] at x1 hrd
      generalize S1[j].bs = bs at *
      clear hcell hvb
      by_cases h500 : bs.length ≤ 500
      · have h500I : (bs.length : Int) ≤ 500 := by omega
        go_wp2_with (first
          | (go_at_call 13; refine (sector_ok (hrd.below T.fam.below) (by omega)).mono ?_; rintro ev w4 ⟨g4, rfl, r4, B4⟩
             have T4 : Dsk w w4 db 20 d vs vn vw vk (rwRows (.slice p j c) L ++ [byteRow (.slice (some ⟨g4, 0, none⟩) 64 64) (pad bs)]) := ⟨by have h := T.fam.add (r := byteRow (.slice (some ⟨g4, 0, none⟩) 64 64) (pad bs)) B4 (by rw [show (byteRow (.slice (some ⟨g4, 0, none⟩) 64 64) (pad bs)).n = 64 from pad_len bs]; exact r4); rw [List.append_assoc] at h; exact h, T.ok⟩
             clear T
             have T5 := T4.step ((Below.refl _ w4).alloc (Nat.le_refl _) (.cells #[.slice (some ⟨g4, 0, none⟩) 64 64] 32))
             have y5 : (w4.alloc (.cells #[.slice (some ⟨g4, 0, none⟩) 64 64] 32)).ownsRow w.heap.size 32 1 (.slice p j c) j (L.map (·.1)) := by
               have h : (w4.alloc (.cells #[.slice (some ⟨g4, 0, none⟩) 64 64] 32)).ownsRow w.heap.size 32 1 (.slice p j c) L.length (L.map (·.1)) := T5.fam.row 5 _ rfl
               rw [hL] at h
               exact h
             have hbs := T5.fam.below.size
             clear T4 r4)
          | (at_builtin; refine wpList_append_own_at _ rfl (.tmp 48) (.tmp 54) 38 rfl w.heap.size 32 i0 (.slice none 0 0) 1 24 Try.underlying38 hi0 hz0 hz1 hz2 rfl (by decide) (.slice p j c) j _ rfl y5 ⟨w4.heap.size, 0, none⟩ 1 1 [.slice (some ⟨g4, 0, none⟩) 64 64] rfl rfl (World.news_of_block (heap_alloc_new w4 _)) (by simp [Value.oneCell']) (by unfold maxLen; omega) (by omega) hbs ?_; intro v7 w7 hown7 hgrow7 _ hat7
             have hat8 : ∀ k, v7.ownBlock = some k → (Value.slice p j c).ownBlock = some k ∨ (w4.alloc (.cells #[.slice (some ⟨g4, 0, none⟩) 64 64] 32)).heap.size ≤ k := fun k hk => by
               rcases hat7 with h | h
               · exact .inl (h.symm.trans hk)
               · rw [h] at hk
                 exact .inr (by cases hk; exact Nat.le_refl _)
             have T7 := T5.grow hgrow7 (by rw [hL]; exact hown7) hat8
             obtain ⟨p7, c7, rfl⟩ := row_slice hown7
             obtain ⟨g7, rfl, x7⟩ := T7.wcell (k := j) (x := (.slice (some ⟨g4, 0, none⟩) 64 64, pad bs)) (by simp [hL]) (by rw [List.getElem?_append_right (by omega), hL]; simp)
             have r7 := T7.wrow (k := j) (x := (.slice (some ⟨g4, 0, none⟩) 64 64, pad bs)) (by rw [List.getElem?_append_right (by omega), hL]; simp)
             clear T5 y5 hown7 hgrow7 hat7 hat8 hbs)
          | (go_at_call 14; refine (write_ok T7 hoff (by omega) (by omega) j (by omega) (rdv_row r7) (pad_len _) (by omega)).mono ?_; rintro ev w8 ⟨rfl, vw8, vk8, T8⟩; clear T7 r7))
        refine ⟨⟨j + 1, { d with now := d.now.set j (pad bs, false), wr := d.wr ++ [(j, pad bs)], left := d.left - 1 }, _, _, _, _, L ++ [(.slice (some ⟨g4, 0, none⟩) 64 64, pad bs)], _, _, rfl, by simp, by omega, T8, hoff, by simp [hleft], by simp [hL], by simp [hwl], fun k hk => ?_, fun k x hx => ?_, fun x hx => ?_⟩, by simp [intOf]; omega⟩
        · by_cases e : k = j
          · subst e
            exact ⟨pad bs, by simp only; rw [List.getElem?_append_right (by omega), hwl]; simp⟩
          · obtain ⟨b', hb'⟩ := HW.out k (by omega)
            exact ⟨b', by simp only; rw [List.getElem?_append_left (by omega)]; exact hb'⟩
        · simp only
          by_cases e : k = j
          · subst e
            rw [List.getElem?_append_right (by omega), hL] at hx
            simp at hx
            subst hx
            rw [List.getElem?_set_self (by have := T8.ok.ln; simp at this; omega)]
          · by_cases hk : k < j
            · rw [List.getElem?_append_left (by omega)] at hx
              rw [List.getElem?_set_ne (Ne.symm e)]
              exact HNow.out k x hx
            · rw [List.getElem?_eq_none (by simp; omega)] at hx
              cases hx
        · rcases List.mem_append.1 hx with hx | hx
          · exact H64.out x hx
          · rw [List.mem_singleton.1 hx]
            exact pad_len bs
      · have h500I : ¬ (bs.length : Int) ≤ 500 := by omega
        have hB := T.fam.below
        go_wp2
        go_ret
        exact ⟨by simp, hB⟩
    · obtain rfl : j = S1.length := by omega
      go_wp2_with (go_at_call 15; refine (sync_ok T hoff (by omega) (by omega)).mono ?_; rintro ev w5 ⟨rfl, T2⟩)
      have hsf : Sf (L.map (·.2)) { d with safe := syn d.wr d.now d.safe d.wr.length, wr := [], left := d.left - 1 } := by
        have key : ∀ (p : Nat) (b : List Int), (L.map (·.2))[p]? = some b → d.now[p]? = some (b, false) ∧ p < d.wr.length := fun p b hp => by
          rw [List.getElem?_map, Option.map_eq_some_iff] at hp
          obtain ⟨x, hx, rfl⟩ := hp
          exact ⟨HNow.out p x hx, by have := (List.getElem?_eq_some_iff.1 hx).1; omega⟩
        refine ⟨fun p b hp => (key p b hp).1, fun p b hp => ?_, fun x hx => by cases hx⟩
        exact syn_hit (fun k hk => HW.out k (by omega)) (by have := T.ok.ls; omega) _ (Nat.le_refl _) p _ (key p b hp).2 (key p b hp).1
      have ST : Stt w w5 db (L.map (·.2)) (rwRows (.slice p S1.length c) L) 0 := ⟨_, _, _, _, _, T2, hsf, by show d.left - 1 < _; omega, Nat.le_refl _⟩
      have HL := (show Hid (L.length ≤ 10) from by show L.length ≤ 10; omega)
      clear T T2 hsf hwl hleft hoff HW HNow
      go_loopw [9] (fun i wq => ∃ j : Nat, i = .int .i64 j ∧ j ≤ S.length ∧ j ≤ 100 ∧ Stt w wq db (L.map (·.2)) (rwRows (.slice p S1.length c) L) j) (fun i _ => S.length - (intOf i).toNat)
      case atStart => exact ⟨0, rfl, by omega, by omega, ST⟩
      case round =>
        clear ST
        obtain ⟨j, rfl, hj, hj2, ST⟩ := hrel
        by_cases hgo : j < S.length ∧ j < 100
        · obtain ⟨hlt, h100⟩ := hgo
          have hjI : (j : Int) < S.length := by omega
          have h100I : (j : Int) < 100 := by omega
          obtain ⟨b, o, rfl, hb, A⟩ := acts_nth H2 hlt
          obtain ⟨_, hlens⟩ := HR.out (by simp)
          have hlen := hlens j hlt h100
          have x0 := (ST.below.cell (p := ⟨b, o + j * 6, none⟩) hb).trans A.c0
          have x1 := (ST.below.cell (p := ⟨b, o + j * 6 + 1, none⟩) hb).trans A.c1
          have x2 := (ST.below.cell (p := ⟨b, o + j * 6 + 2, none⟩) hb).trans A.c2
          have x3 := (ST.below.cell (p := ⟨b, o + j * 6 + 3, none⟩) hb).trans A.c3
          have x4 := (ST.below.cell (p := ⟨b, o + j * 6 + 4, none⟩) hb).trans A.c4
          have x5 := (ST.below.cell (p := ⟨b, o + j * 6 + 5, none⟩) hb).trans A.c5
          have rb := A.rb
          have rk := A.rk
          have ii := A.ii
          clear A hlens
          generalize S[j] = a at *
          obtain ⟨ad, ai, abv, abs, ar, akv, aks, at'⟩ := a
          simp only at x0 x1 x2 x3 x4 x5 rb rk ii hlen
          obtain ⟨pb, cb, rfl⟩ := rdv_shape rb
          obtain ⟨pk, ck, rfl⟩ := rdv_shape rk
          simp only [List.length_map] at x2 x4 rb rk
          obtain ⟨u, hu8, hue⟩ := conv8 ad
          obtain ⟨q, hq10, hqe⟩ := conv10 ai
          have RB := (show Hid _ from rb)
          have RK := (show Hid _ from rk)
          have II := (show Hid _ from ii)
          have HQ := (show Hid (q < 10) from hq10)
          clear rb rk ii hq10
          have hus : u = 0 ∨ u = 1 ∨ u = 2 ∨ u = 3 ∨ u = 4 ∨ u = 5 ∨ u = 6 ∨ u = 7 := by omega
          clear hu8
          rcases hus with rfl | rfl | rfl | rfl | rfl | rfl | rfl | rfl
          · have ST1 := ST.step (((Below.refl _ wr).alloc (Nat.le_refl _) (.cells #[.int .i64 ad, .int .i64 ai, .slice pb abs.length cb, .bool ar, .slice pk aks.length ck, .int .i64 at'] 35)).drew)
            have RB1 := (show Hid (RdV _ (.slice pb abs.length cb) (abs.map (Value.int .u8))) from RdV.below (show RdV w (.slice pb abs.length cb) (abs.map (Value.int .u8)) from RB.out) ST1.below)
            have hh : wr.heap.size < (wr.alloc (.cells #[.int .i64 ad, .int .i64 ai, .slice pb abs.length cb, .bool ar, .slice pk aks.length ck, .int .i64 at'] 35)).drew.heap.size := by show wr.heap.size < (wr.alloc _).heap.size; rw [World.size_alloc]; omega
            have hc1 : (wr.alloc (.cells #[.int .i64 ad, .int .i64 ai, .slice pb abs.length cb, .bool ar, .slice pk aks.length ck, .int .i64 at'] 35)).drew.cell? ⟨wr.heap.size, 1, none⟩ = some (.int .i64 ai) := by simp [go_sem]
            have e10 : ((10 + q : Nat) : Int) = 10 + (q : Int) := by omega
            have E10 := (show Hid _ from e10)
            clear e10
            have hw10 : IntKind.i64.wrap (10 + (q : Int)) = 10 + (q : Int) := IntWalk.i64_in _ (by have := HQ.out; omega)
            go_wp2
            go_region_with (first
              | (go_at_call 13; refine (sector_ok RB1.out (by omega)).mono ?_; rintro ev w7 ⟨g7, rfl, r7, B7⟩; have v1 := (B7.cell (p := ⟨wr.heap.size, 1, none⟩) hh).trans hc1; have ST7 := ST1.step B7)
              | (go_at_call 14; have WA := write_any ST7 (10 + q) (by have := HQ.out; omega) (by rw [List.length_map]; have := HL.out; omega) (rdv_row r7) (pad_len _) (by omega); rw [E10.out] at WA; refine WA.mono ?_; rintro ev w8 ⟨z, rfl, ST8⟩))
            all_goals simp only [Exit.inBlock]
            all_goals go_wp2
            all_goals exact ⟨⟨j + 1, by simp, by omega, by omega, ST8⟩, by simp [intOf]; omega⟩
          · have ST1 := ST.step (((Below.refl _ wr).alloc (Nat.le_refl _) (.cells #[.int .i64 ad, .int .i64 ai, .slice pb abs.length cb, .bool ar, .slice pk aks.length ck, .int .i64 at'] 35)).drew)
            have RB1 := (show Hid (RdV _ (.slice pb abs.length cb) (abs.map (Value.int .u8))) from RdV.below (show RdV w (.slice pb abs.length cb) (abs.map (Value.int .u8)) from RB.out) ST1.below)
            have hh : wr.heap.size < (wr.alloc (.cells #[.int .i64 ad, .int .i64 ai, .slice pb abs.length cb, .bool ar, .slice pk aks.length ck, .int .i64 at'] 35)).drew.heap.size := by show wr.heap.size < (wr.alloc _).heap.size; rw [World.size_alloc]; omega
            have hc1 : (wr.alloc (.cells #[.int .i64 ad, .int .i64 ai, .slice pb abs.length cb, .bool ar, .slice pk aks.length ck, .int .i64 at'] 35)).drew.cell? ⟨wr.heap.size, 1, none⟩ = some (.int .i64 ai) := by simp [go_sem]
            have e10 : ((10 + q : Nat) : Int) = 10 + (q : Int) := by omega
            have E10 := (show Hid _ from e10)
            clear e10
            have hw10 : IntKind.i64.wrap (10 + (q : Int)) = 10 + (q : Int) := IntWalk.i64_in _ (by have := HQ.out; omega)
            go_wp2
            go_region_with (first
              | (go_at_call 13; refine (sector_ok RB1.out (by omega)).mono ?_; rintro ev w7 ⟨g7, rfl, r7, B7⟩; have v1 := (B7.cell (p := ⟨wr.heap.size, 1, none⟩) hh).trans hc1; have ST7 := ST1.step B7)
              | (go_at_call 14; have WA := write_any ST7 (10 + q) (by have := HQ.out; omega) (by rw [List.length_map]; have := HL.out; omega) (rdv_row r7) (pad_len _) (by omega); rw [E10.out] at WA; refine WA.mono ?_; rintro ev w8 ⟨z, rfl, ST8⟩))
            all_goals simp only [Exit.inBlock]
            all_goals go_wp2
            all_goals exact ⟨⟨j + 1, by simp, by omega, by omega, ST8⟩, by simp [intOf]; omega⟩
          · have ST1 := ST.step (((Below.refl _ wr).alloc (Nat.le_refl _) (.cells #[.int .i64 ad, .int .i64 ai, .slice pb abs.length cb, .bool ar, .slice pk aks.length ck, .int .i64 at'] 35)).drew)
            have RB1 := (show Hid (RdV _ (.slice pb abs.length cb) (abs.map (Value.int .u8))) from RdV.below (show RdV w (.slice pb abs.length cb) (abs.map (Value.int .u8)) from RB.out) ST1.below)
            have hh : wr.heap.size < (wr.alloc (.cells #[.int .i64 ad, .int .i64 ai, .slice pb abs.length cb, .bool ar, .slice pk aks.length ck, .int .i64 at'] 35)).drew.heap.size := by show wr.heap.size < (wr.alloc _).heap.size; rw [World.size_alloc]; omega
            have hc1 : (wr.alloc (.cells #[.int .i64 ad, .int .i64 ai, .slice pb abs.length cb, .bool ar, .slice pk aks.length ck, .int .i64 at'] 35)).drew.cell? ⟨wr.heap.size, 1, none⟩ = some (.int .i64 ai) := by simp [go_sem]
            have e10 : ((10 + q : Nat) : Int) = 10 + (q : Int) := by omega
            have E10 := (show Hid _ from e10)
            clear e10
            have hw10 : IntKind.i64.wrap (10 + (q : Int)) = 10 + (q : Int) := IntWalk.i64_in _ (by have := HQ.out; omega)
            go_wp2
            go_region_with (first
              | (go_at_call 13; refine (sector_ok RB1.out (by omega)).mono ?_; rintro ev w7 ⟨g7, rfl, r7, B7⟩; have v1 := (B7.cell (p := ⟨wr.heap.size, 1, none⟩) hh).trans hc1; have ST7 := ST1.step B7)
              | (go_at_call 14; have WA := write_any ST7 (10 + q) (by have := HQ.out; omega) (by rw [List.length_map]; have := HL.out; omega) (rdv_row r7) (pad_len _) (by omega); rw [E10.out] at WA; refine WA.mono ?_; rintro ev w8 ⟨z, rfl, ST8⟩))
            all_goals simp only [Exit.inBlock]
            all_goals go_wp2
            all_goals exact ⟨⟨j + 1, by simp, by omega, by omega, ST8⟩, by simp [intOf]; omega⟩
          · go_wp2_with (go_at_call 15; refine (sync_any (ST.step ((Below.refl _ wr).alloc (Nat.le_refl _) _))).mono ?_; rintro ev w6 ⟨z, rfl, ST2⟩)
            exact ⟨⟨j + 1, by simp, by omega, by omega, ST2.more (by omega)⟩, by simp [intOf]; omega⟩
          · go_wp2_with (go_at_call 16; refine (crash_any (ST.step ((Below.refl _ wr).alloc (Nat.le_refl _) _)) at' RK.out).mono ?_; rintro ev w6 ⟨rfl, ST2⟩)
            exact ⟨⟨j + 1, by simp, by omega, by omega, ST2.more (by omega)⟩, by simp [intOf]; omega⟩
          · go_wp2_with (go_at_call 17; refine (start_any (ST.step ((Below.refl _ wr).alloc (Nat.le_refl _) _))).mono ?_; rintro ev w6 ⟨rfl, ST2⟩)
            exact ⟨⟨j + 1, by simp, by omega, by omega, ST2.more (by omega)⟩, by simp [intOf]; omega⟩
          · go_wp2_with (go_at_call 18; refine (trip_any (ST.step ((Below.refl _ wr).alloc (Nat.le_refl _) _)) ai at' II.out RK.out (by omega)).mono ?_; rintro ev w6 ⟨rfl, ST2⟩)
            exact ⟨⟨j + 1, by simp, by omega, by omega, ST2.more (by omega)⟩, by simp [intOf]; omega⟩
          · go_wp2_with (go_at_call 19; refine (read_any (ST.step ((Below.refl _ wr).alloc (Nat.le_refl _) _)) ai).mono ?_; rintro ev w6 ⟨z1, z2, rfl, ST2⟩)
            exact ⟨⟨j + 1, by simp, by omega, by omega, ST2.more (by omega)⟩, by simp [intOf]; omega⟩
        · have hcs : ¬ (j : Int) < S.length ∨ ((j : Int) < S.length ∧ ¬ (j : Int) < 100) := by omega
          obtain ⟨d2, vs, vn, vw, vk, T, hsf, _, _⟩ := ST
          have HS := (show Hid _ from hsf.now)
          clear hsf hgo
          rcases hcs with h1 | ⟨h1, h2⟩
          all_goals
            go_wp2_with (go_at_call 17; refine (start_ok T).mono ?_; rintro ev w6 ⟨rfl, T3⟩; clear T)
            go_loopw [11] (fun i wq => ∃ j : Nat, i = .int .i64 j ∧ j ≤ S1.length ∧ Dsk w wq db 20 { d2 with off := false } vs vn vw vk (rwRows (.slice p S1.length c) L)) (fun i _ => S1.length - (intOf i).toNat)
            case atStart => exact ⟨0, rfl, by omega, T3⟩
            case round =>
              clear T3
              obtain ⟨k, rfl, hk, T⟩ := hrel
              by_cases hlt : k < S1.length
              · have hkI : (k : Int) < S1.length := by omega
                obtain ⟨x, hx⟩ : ∃ x, L[k]? = some x := ⟨_, List.getElem?_eq_getElem (by omega)⟩
                obtain ⟨g, rfl, _⟩ := T.wcell hL hx
                have h64 := H64.out x (List.mem_of_getElem? hx)
                have hnk := HS.out k x.2 (by rw [List.getElem?_map, hx]; rfl)
                have HNK := (show Hid _ from hnk)
                clear hnk
                go_wp2_with (first
                  | (go_at_call 19; refine (read_ok T k (x.2, false) HNK.out rfl rfl).mono ?_; rintro ev w9 ⟨v9, rfl, T9, r9⟩
                     have T10 := T9.init
                     obtain ⟨g', hg', x9⟩ := T10.wcell hL hx
                     obtain rfl : g = g' := by simpa using hg'
                     clear T9 hg' T)
                  | (go_at_call 20; refine (bytes_same (rdv_row r9) (rdv_row (T10.wrow hx)) (by omega)).mono ?_; rintro ev w10 ⟨rfl, B10⟩; have T11 := T10.step B10; clear T10 r9))
                exact ⟨⟨k + 1, by simp, by omega, T11⟩, by simp [intOf]; omega⟩
              · obtain rfl : k = S1.length := by omega
                go_wp2_with (go_at_call 10; refine (wakes13_ok _).mono ?_; rintro ev w11 ⟨rfl, B11⟩)
                go_ret
                exact ⟨by simp, T.fam.below.trans (B11.mono T.fam.below.size)⟩
end Go.Proofs.Ytgcndphocpedjaa
