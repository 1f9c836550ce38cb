/-
  LAYER 25: put, wherever the client's log comes. Own work.
-/
import Derived.Test.YtcpcnjblojoppaaLXq
namespace Go.Proofs.Ytcpcnjblojoppaa
open Go.ChangeShapes Go.WideShapes Go.ChangeAt Go.RowKit Go.Maps
set_option maxRecDepth 100000
attribute [local go_sem ↓] Go.wp_at_zero Go.wp_at_succ
set_option maxHeartbeats 8000000 in
/-- put where the client's log is not there, and others are behind it. -/
theorem put_mid (p : Option Addr) (n cc a : Nat) (S : List Lg) (hn : S.length = n) (h4 : n ≤ 900) (client body : Int) (hc0 : 0 ≤ client) (hc8 : client < 8) (hb : In64 body) (ws : World) (HR : Hid (Right S)) (HS : Hid (Logs ws (.slice p n cc) S)) (HA : Hid (AtL S client a)) (HF : Hid (foundL S client a = false)) (ha : a < n) : Calls Try.prog 30 #[.slice p n cc, .int .i64 client, .int .i64 body] ws fun e w' => ∃ v T, e = .returned (.tuple #[v, .int .i64 1, .int .i64 0]) ∧ appL (insL S a (newLg client)) a body T ∧ (Logs w' v T ∧ Fr ws.heap.size v T) ∧ Below ws.heap.size ws w' := by
  obtain ⟨i0, hi, hz0, hz1, hz2⟩ := info_parts (P := Try.prog) (e := 3) (z := .int .i64 0) (size := 1) (bytes := 8) (by kernel_rfl)
  have hbnd : Hid (∀ i (h : i < S.length), S[i].xs.length ≤ 1000) := fun i h => by
    have := (HR.out.1 i h).2.2.2.2.1
    omega
  have hin := (show Hid _ from in3_ins (client := client) (i := a) (logs_in HS.out) (by omega) ⟨by omega, by omega⟩)
  go_enter Try.func30, Try.ntmps30
  go_wp2_with (first
    | (go_at_call 35; refine (find_low _ n cc S hn (by omega) client hc0 hc8 _ HR HS).mono ?_; rintro ev w1 ⟨a', hat, rfl, B1⟩; obtain rfl : a = a' := AtL.same HA.out hat; rw [HF.out]; clear hat)
    | (go_at_call 34; refine (copyl_low _ n cc S hn (by omega) hbnd _ (HS.out.below B1)).mono ?_; rintro ev w2 ⟨p2, c2, rfl, T, hA, _, hO, B2⟩
       have hT : T.length = n := hA.1.trans hn
       have B3 := B2.alloc B2.size (.cells #[.int .i64 client, .int .i64 0, .slice none 0 0] 52)
       have hO2 := (show Hid _ from hO.same ((Below.refl _ w2).alloc (Nat.le_refl _) (.cells #[.int .i64 client, .int .i64 0, .slice none 0 0] 52)))
       have hr2 := hO2.out.row
       rw [hT] at hr2
       have HR2 := (show Hid _ from hr2)
       have HA2 := (show Hid _ from hA.ins (i := a) (by omega) (newLg client))
       have h1c := (show Hid _ from flat_one (T := T) (fun i h => rdw_one (irow_of (hO.own i h (by omega))).reads.rdw))
       have hnb : (w2.alloc (.cells #[.int .i64 client, .int .i64 0, .slice none 0 0] 52)).heap[w2.heap.size]? = some (.cells (lgC (newLg client)).toArray 52) := heap_alloc_new w2 _
       have hnob : (Value.slice p2 n c2).ownBlock ≠ some w2.heap.size := fun e => by
         have := (own_block hO.row e).2
         omega
       clear hr2 hO hA B2)
    | (go_at_call 36; refine (insert_mid p2 n c2 a w2.heap.size w1.heap.size (flatL T) client _ B3.size HR2 hnb hnob h1c.out ha (by omega)).mono ?_; rintro ev w3 ⟨v3, rfl, hown3, hgrow3, hat3⟩
       have hO3 := OwnT.insm hO2.out hT (by omega) hgrow3 hown3 hat3 rfl rfl
       have B4 := B3.grown hgrow3 B3.size (fun k hk => (own_block HR2.out hk).1)
       have hT3 : (insL T a (newLg client)).length = n + 1 := by rw [ins_len (by omega), hT]
       have hlast : (insL T a (newLg client))[a]'(by omega) = newLg client := ins_at (by omega) (by omega)
       have hrow := hO3.row
       change w3.ownsRow _ _ _ _ (insL T a (newLg client)).length (flatL (insL T a (newLg client))) at hrow
       rw [hT3] at hrow
       obtain ⟨p3, c3, rfl⟩ := row_slice hrow
       obtain ⟨g, rfl, hg1, hg2, _, hcell⟩ := row_open hrow (by omega)
       obtain ⟨f0, f1, f2⟩ := flat_get (insL T a (newLg client)) a (by omega)
       have y2 := (hcell (a * 3 + 2) (by omega)).trans f2
       rw [hlast] at y2
       have hfin := (show Hid _ from fun v' w4 => fin_app (a := a) (S := insL S a (newLg client)) (T := insL T a (newLg client)) (body := body) (n := n + 1) (hO3.same ((Below.refl _ w3).alloc (Nat.le_refl _) (.cells #[.int .i64 body] 3))) hT3 (by omega) (B4.alloc B4.size _) HA2.out hin.out hb v' w4)
       rw [hlast] at hfin
       have hsz : w1.heap.size ≤ w3.heap.size := B4.size
       clear hnb hnob h1c hown3 hgrow3 hat3 hO3 hrow hcell f0 f1 f2 hlast hT3 HA2 HR2 hO2
       simp only [newLg] at y2 hfin)
    | (at_builtin; refine wpList_append_own_at _ rfl (.tmp 44) (.tmp 46) 25 rfl w1.heap.size 3 i0 (.int .i64 0) 1 8 Try.underlying25 hi hz0 hz1 hz2 rfl (by decide) (.slice none 0 0) 0 [] rfl (World.ownsRow_nil _ _ _ _) ⟨w3.heap.size, 0, none⟩ 1 1 [.int .i64 body] rfl rfl (news1 w3 (.int .i64 body) 3) (by intro u hu; rw [List.mem_singleton.1 hu]; rfl) (by unfold maxLen; omega) (by omega) (by simp; omega) ?_; intro v' w4 hown4 hgrow4 _ hat
       have HD := (show Hid _ from hfin.out v' w4 hgrow4 hown4 hat)
       obtain ⟨p5, c5, rfl⟩ := row_slice hown4
       have q0 := HD.out.x0
       have q1 := HD.out.x1
       obtain ⟨u2, q2⟩ := HD.out.x2
       have q3 := HD.out.z2
       have q4 := HD.out.lt
       clear hfin hown4 hgrow4 hat)
    | (go_at_call 28; refine (has_lg _ _ _ _ _ (by omega) (by omega) _).mono ?_; rintro ev w5 ⟨rfl, B5⟩))
  go_ret3
  obtain ⟨T', hap, hl, hfr⟩ := HD.out.logs
  have hb3 := HD.out.below
  exact ⟨_, T', rfl, hap, ⟨hl.below B5, hfr.low B1.size⟩, (B1.trans (hb3.mono B1.size)).trans (B5.mono (Nat.le_trans B1.size hb3.size))⟩
theorem put_anyf {v : Value} {S : List Lg} {ws : World} (h : Logs ws v S) (h4 : S.length ≤ 900) (hR : Right S) {client body : Int} (hc0 : 0 ≤ client) (hc8 : client < 8) (hb : In64 body) : Calls Try.prog 30 #[v, .int .i64 client, .int .i64 body] ws fun e w' => ∃ v' k er, e = .returned (.tuple #[v', .int .i64 k, .int .i64 er]) ∧ PutSpecF ws.heap.size S client body w' v' k er ∧ Below ws.heap.size ws w' := by
  have h' := h
  obtain ⟨p, c, rfl, _⟩ := h
  obtain ⟨a, ha⟩ := at_exists S hR client
  cases hf : foundL S client a with
  | true =>
    have hf' := hf
    unfold foundL at hf'
    obtain ⟨g, hg, hgc⟩ := of_decide_eq_true hf'
    have hal := (List.getElem?_eq_some_iff.1 hg).1
    have hge := (List.getElem?_eq_some_iff.1 hg).2
    have h32 := (right_ok' hR hg).2.2.2.2.1
    by_cases hx : g.xs.length = 32
    · refine (put_full p _ c a S rfl (by omega) client body hc0 hc8 ws hR h' ha hf hal (show Hid (S[a].xs.length = 32) from by rw [hge]; exact hx)).mono ?_
      rintro e w' ⟨rfl, hB⟩
      exact ⟨_, _, _, rfl, ⟨a, ha, .inl ⟨hf, g, hg, .inl ⟨hx, rfl, rfl, rfl⟩⟩⟩, hB⟩
    · have h31 : S[a].xs.length < 32 := by rw [hge]; omega
      refine (put_there p _ c a S rfl (by omega) client body hc0 hc8 hb ws hR h' ha hf hal h31).mono ?_
      rintro e w' ⟨v', T, rfl, hap, hl, hB⟩
      rw [hge]
      exact ⟨_, _, _, rfl, ⟨a, ha, .inl ⟨hf, g, hg, .inr ⟨by omega, rfl, rfl, T, hap, hl⟩⟩⟩, hB⟩
  | false =>
    rcases Nat.lt_or_ge a S.length with hlt | hge
    · refine (put_mid p _ c a S rfl (by omega) client body hc0 hc8 hb ws hR h' ha hf hlt).mono ?_
      rintro e w' ⟨v', T, rfl, hap, hl, hB⟩
      exact ⟨_, _, _, rfl, ⟨_, ha, .inr ⟨hf, rfl, rfl, T, hap, hl⟩⟩, hB⟩
    · obtain rfl : a = S.length := by have := ha.le; omega
      refine (put_end p _ c S rfl (by omega) client body hc0 hc8 hb ws hR h' ha hf).mono ?_
      rintro e w' ⟨v', T, rfl, hap, hl, hB⟩
      exact ⟨_, _, _, rfl, ⟨_, ha, .inr ⟨hf, rfl, rfl, T, by simpa [insL] using hap, hl⟩⟩, hB⟩
theorem put_any {v : Value} {S : List Lg} {ws : World} (h : Logs ws v S) (h4 : S.length ≤ 900) (hR : Right S) {client body : Int} (hc0 : 0 ≤ client) (hc8 : client < 8) (hb : In64 body) : Calls Try.prog 30 #[v, .int .i64 client, .int .i64 body] ws fun e w' => ∃ v' k er, e = .returned (.tuple #[v', .int .i64 k, .int .i64 er]) ∧ PutSpec S client body w' v' k er ∧ Below ws.heap.size ws w' := by
  refine (put_anyf h h4 hR hc0 hc8 hb).mono ?_
  rintro e w' ⟨v', k, er, rfl, hp, hB⟩
  exact ⟨v', k, er, rfl, hp.to, hB⟩
set_option maxHeartbeats 4000000 in
theorem say_anyf {v : Value} {S : List Lg} {ws : World} (h : Logs ws v S) (h4 : S.length ≤ 900) (hR : Right S) {client body : Int} (hc0 : 0 ≤ client) (hc8 : client < 8) (hb0 : 0 ≤ body) (hb1 : body ≤ 1048576) : Calls Try.prog 16 #[v, .int .i64 client, .int .i64 body] ws fun e w' => ∃ v' k er, e = .returned (.tuple #[v', .int .i64 k, .int .i64 er]) ∧ PutSpecF ws.heap.size S client body w' v' k er ∧ Below ws.heap.size ws w' := by
  have HS := (show Hid (Logs ws v S) from h)
  have HR := (show Hid (Right S) from hR)
  clear h hR
  go_enter Try.func16, Try.ntmps16
  go_wp2_with (first
    | (go_at_call 11; refine (check_yes HS.out (by omega) HR.out).mono ?_; rintro ev w1 ⟨rfl, B1⟩)
    | (go_at_call 29; refine (may_yes client body hc0 hc8 hb0 hb1 _).mono ?_; rintro ev w2 ⟨rfl, rfl⟩)
    | (go_at_call 30; refine (put_anyf (Logs.below HS.out B1) h4 HR.out hc0 hc8 ⟨by omega, by omega⟩).mono ?_; rintro ev w3 ⟨v', k, er, rfl, hp, B3⟩; have HP := (show Hid (PutSpecF _ S client body w3 v' k er) from hp); clear hp))
  go_ret3
  exact ⟨v', k, er, rfl, HP.out.low B1.size, B1.trans (B3.mono B1.size)⟩
theorem say_any {v : Value} {S : List Lg} {ws : World} (h : Logs ws v S) (h4 : S.length ≤ 900) (hR : Right S) {client body : Int} (hc0 : 0 ≤ client) (hc8 : client < 8) (hb0 : 0 ≤ body) (hb1 : body ≤ 1048576) : Calls Try.prog 16 #[v, .int .i64 client, .int .i64 body] ws fun e w' => ∃ v' k er, e = .returned (.tuple #[v', .int .i64 k, .int .i64 er]) ∧ PutSpec S client body w' v' k er ∧ Below ws.heap.size ws w' := by
  refine (say_anyf h h4 hR hc0 hc8 hb0 hb1).mono ?_
  rintro e w' ⟨v', k, er, rfl, hp, hB⟩
  exact ⟨v', k, er, rfl, hp.to, hB⟩
end Go.Proofs.Ytcpcnjblojoppaa
