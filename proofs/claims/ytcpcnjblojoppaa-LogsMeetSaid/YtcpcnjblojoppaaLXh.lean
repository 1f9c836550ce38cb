/-
  LAYER 25: put, where the client's log is not there and comes last. Own work.
-/
import Derived.Test.YtcpcnjblojoppaaLXg
namespace Go.Proofs.Ytcpcnjblojoppaa
open Go.ChangeShapes Go.WideShapes Go.ChangeAt Go.RowKit Go.Maps
set_option maxRecDepth 100000
attribute [local go_sem ↓] Go.wp_at_zero Go.wp_at_succ
def newLg (client : Int) : Lg := ⟨client, 0, .slice none 0 0, []⟩
theorem Alike.snoc {S T : List Lg} (h : Alike S T) (x : Lg) : Alike (S ++ [x]) (T ++ [x]) := by
  obtain ⟨hl, hh⟩ := h
  refine ⟨by rw [List.length_append, List.length_append, hl], fun i hi hi' => ?_⟩
  by_cases he : i < S.length
  · rw [List.getElem_append_left he, List.getElem_append_left (by omega)]
    exact hh i he (by omega)
  · have h1 : (S ++ [x])[i] = x := by rw [List.getElem_append_right (by omega)]; simp
    have h2 : (T ++ [x])[i] = x := by rw [List.getElem_append_right (by omega)]; simp
    rw [h1, h2]
    exact ⟨rfl, rfl, rfl⟩
theorem in3_snoc {S : List Lg} {client : Int} (h : ∀ i (h : i < S.length), In3 S[i]) (hc : In64 client) : ∀ i (h : i < (S ++ [newLg client]).length), In3 (S ++ [newLg client])[i] := by
  intro i hi
  by_cases he : i < S.length
  · rw [List.getElem_append_left he]
    exact h i he
  · have h1 : (S ++ [newLg client])[i] = newLg client := by rw [List.getElem_append_right (by omega)]; simp
    rw [h1]
    exact ⟨hc, by simp [newLg, In64], fun x hx => by simp [newLg] at hx⟩
theorem new_cells (w : World) (client : Int) (e : TypeId) : ∀ j u, (lgC (newLg client))[j]? = some u → (w.alloc (.cells #[.int .i64 client, .int .i64 0, .slice none 0 0] e)).cell? ((⟨w.heap.size, 0, none⟩ : Addr).add j) = some u := by
  intro j u hj
  match j, hj with
  | 0, hj => simp [lgC, newLg] at hj; subst hj; simp [Addr.add]
  | 1, hj => simp [lgC, newLg] at hj; subst hj; simp [Addr.add]
  | 2, hj => simp [lgC, newLg] at hj; subst hj; simp [Addr.add]
  | j + 3, hj => simp [lgC] at hj
set_option maxHeartbeats 8000000 in
/-- put where the client's log is not there, and comes last. -/
theorem put_end (p : Option Addr) (n cc : Nat) (S : List Lg) (hn : S.length = n) (h4 : n ≤ 900) (client body : Int) (hc0 : 0 ≤ client) (hc8 : client < 8) (hb : In64 body) (ws : World) (HR : Hid (Right S)) (HS : Hid (Logs ws (.slice p n cc) S)) (HA : Hid (AtL S client n)) (HF : Hid (foundL S client n = false)) : Calls Try.prog 30 #[.slice p n cc, .int .i64 client, .int .i64 body] ws fun e w' => ∃ v T, e = .returned (.tuple #[v, .int .i64 1, .int .i64 0]) ∧ appL (S ++ [newLg client]) n body T ∧ (Logs w' v T ∧ Fr ws.heap.size v T) ∧ Below ws.heap.size ws w' := by
  obtain ⟨i0, hi, hz0, hz1, hz2⟩ := info_parts (P := Try.prog) (e := 3) (z := .int .i64 0) (size := 1) (bytes := 8) (by kernel_rfl)
  have hbnd : Hid (∀ i (h : i < S.length), S[i].xs.length ≤ 1000) := fun i h => by
    have := (HR.out.1 i h).2.2.2.2.1
    omega
  have hin := (show Hid _ from in3_snoc (client := client) (logs_in HS.out) ⟨by omega, by omega⟩)
  go_enter Try.func30, Try.ntmps30
  go_wp2_with (first
    | (go_at_call 35; refine (find_low _ n cc S hn (by omega) client hc0 hc8 _ HR HS).mono ?_; rintro ev w1 ⟨a', hat, rfl, B1⟩; obtain rfl : n = a' := AtL.same HA.out hat; rw [HF.out]; clear hat)
    | (go_at_call 34; refine (copyl_low _ n cc S hn (by omega) hbnd _ (HS.out.below B1)).mono ?_; rintro ev w2 ⟨p2, c2, rfl, T, hA, _, hO, B2⟩
       have hT : T.length = n := hA.1.trans hn
       have B3 := B2.alloc B2.size (.cells #[.int .i64 client, .int .i64 0, .slice none 0 0] 52)
       have hO2 := (show Hid _ from hO.same ((Below.refl _ w2).alloc (Nat.le_refl _) (.cells #[.int .i64 client, .int .i64 0, .slice none 0 0] 52)))
       have hr2 := hO2.out.row
       rw [hT] at hr2
       have HR2 := (show Hid _ from hr2)
       have HA2 := (show Hid _ from hA.snoc (newLg client))
       clear hr2 hO hA B2)
    | (go_at_call 36; refine (insert_end (.slice p2 n c2) n w2.heap.size w1.heap.size (flatL T) client (by omega) _ B3.size HR2 (new_cells w2 client _)).mono ?_; rintro ev w3 ⟨v3, rfl, hown3, hgrow3, hat3⟩
       have hO3 := hO2.out.ins hT hgrow3 hown3 hat3 rfl rfl
       have B4 := B3.grown hgrow3 B3.size (fun k hk => (own_block HR2.out hk).1)
       have hT3 : (T ++ [newLg client]).length = n + 1 := by rw [List.length_append, hT]; rfl
       have hlast : (T ++ [newLg client])[n]'(by omega) = newLg client := by rw [List.getElem_append_right (by omega)]; simp [hT]
       have hrow := hO3.row
       change w3.ownsRow _ _ _ _ (T ++ [newLg client]).length (flatL (T ++ [newLg client])) at hrow
       rw [hT3] at hrow
       obtain ⟨p3, c3, rfl⟩ := row_slice hrow
       obtain ⟨g, rfl, hg1, hg2, _, hcell⟩ := row_open hrow (by omega)
       obtain ⟨f0, f1, f2⟩ := flat_get (T ++ [newLg client]) n (by omega)
       have y2 := (hcell (n * 3 + 2) (by omega)).trans f2
       rw [hlast] at y2
       have hfin := (show Hid _ from fun v' w4 => fin_app (a := n) (S := S ++ [newLg client]) (T := T ++ [newLg client]) (body := body) (n := n + 1) (hO3.same ((Below.refl _ w3).alloc (Nat.le_refl _) (.cells #[.int .i64 body] 3))) hT3 (by omega) (B4.alloc B4.size _) HA2.out hin.out hb v' w4)
       rw [hlast] at hfin
       have hsz : w1.heap.size ≤ w3.heap.size := B4.size
       clear hown3 hgrow3 hat3 hO3 hrow hcell f0 f1 f2 hlast hT3 HA2 HR2 hO2
       simp only [newLg] at y2 hfin)
    | (at_builtin; refine wpList_append_own_at _ rfl (.tmp 44) (.tmp 46) 25 rfl w1.heap.size 3 i0 (.int .i64 0) 1 8 Try.underlying25 hi hz0 hz1 hz2 rfl (by decide) (.slice none 0 0) 0 [] rfl (World.ownsRow_nil _ _ _ _) ⟨w3.heap.size, 0, none⟩ 1 1 [.int .i64 body] rfl rfl (news1 w3 (.int .i64 body) 3) (by intro u hu; rw [List.mem_singleton.1 hu]; rfl) (by unfold maxLen; omega) (by omega) (by simp; omega) ?_; intro v' w4 hown4 hgrow4 _ hat
       have HD := (show Hid _ from hfin.out v' w4 hgrow4 hown4 hat)
       obtain ⟨p5, c5, rfl⟩ := row_slice hown4
       have q0 := HD.out.x0
       have q1 := HD.out.x1
       obtain ⟨u2, q2⟩ := HD.out.x2
       have q3 := HD.out.z2
       have q4 := HD.out.lt
       clear hfin hown4 hgrow4 hat)
    | (go_at_call 28; refine (has_lg _ _ _ _ _ (by omega) (by omega) _).mono ?_; rintro ev w5 ⟨rfl, B5⟩))
  go_ret3
  obtain ⟨T', hap, hl, hfr⟩ := HD.out.logs
  have hb3 := HD.out.below
  exact ⟨_, T', rfl, hap, ⟨hl.below B5, hfr.low B1.size⟩, (B1.trans (hb3.mono B1.size)).trans (B5.mono (Nat.le_trans B1.size hb3.size))⟩
end Go.Proofs.Ytcpcnjblojoppaa
