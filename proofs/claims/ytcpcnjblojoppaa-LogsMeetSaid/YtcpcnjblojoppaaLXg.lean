/-
  LAYER 25: put, where the client's log is there. Own work.
-/
import Derived.Test.YtcpcnjblojoppaaLXf
namespace Go.Proofs.Ytcpcnjblojoppaa
open Go.ChangeShapes Go.WideShapes Go.ChangeAt Go.RowKit Go.Maps
set_option maxRecDepth 100000
attribute [local go_sem ↓] Go.wp_at_zero Go.wp_at_succ
/-- What is there when a body has been put. -/
structure PutDone (w0 w3 : World) (S : List Lg) (a g n c : Nat) (tc tb : Int) (v' : Value) (body : Int) : Prop where
  logs : ∃ T', appL S a body T' ∧ Logs (w3.setCell ⟨g, a * 3 + 2, none⟩ v') (.slice (some ⟨g, 0, none⟩) n c) T' ∧ Fr w0.heap.size (.slice (some ⟨g, 0, none⟩) n c) T'
  below : Below w0.heap.size w0 (w3.setCell ⟨g, a * 3 + 2, none⟩ v')
  x0 : w3.cell? ⟨g, a * 3, none⟩ = some (.int .i64 tc)
  x1 : w3.cell? ⟨g, a * 3 + 1, none⟩ = some (.int .i64 tb)
  x2 : ∃ u, w3.cell? ⟨g, a * 3 + 2, none⟩ = some u
  z2 : w3.frozen? ⟨g, a * 3 + 2, none⟩ = false
  lt : g < w3.heap.size
theorem fin_app {w0 w2 : World} {g n c a : Nat} {S T : List Lg} {body : Int} (hO : OwnT w2 w0.heap.size (.slice (some ⟨g, 0, none⟩) n c) T n) (hn : T.length = n) (ha : a < T.length) (hB : Below w0.heap.size w0 w2) (hA : Alike S T) (hin : ∀ i (h : i < S.length), In3 S[i]) (hx : In64 body) (v' : Value) (w3 : World) (hG : w2.grownBy w3 T[a].v.ownBlock)
    (hu : w3.ownsRow w0.heap.size 3 1 v' (T[a].xs.length + 1) (T[a].xs.map (Value.int .i64) ++ [.int .i64 body])) (hat : v'.ownBlock = T[a].v.ownBlock ∨ v'.ownBlock = some w2.heap.size) : PutDone w0 w3 S a g n c T[a].c T[a].b v' body := by
  have hT' := hO.app ha hn hB.size hG hu hat
  have hap := hA.app ha v' body
  have hrow := own_grown hO.row hG (fun k hk e => by
    cases hk
    exact hO.apart a ha (by omega) g e rfl)
  rw [hn] at hrow
  have hg1 := own_block hrow (k := g) rfl
  obtain ⟨g', he, _, _, _, hcell⟩ := row_open hrow (by omega)
  cases he
  obtain ⟨f0, f1, f2⟩ := flat_get T a ha
  refine ⟨⟨_, hap, hT'.logs (by rw [List.length_set]; exact hn) (hap.in3 hx hin), hT'.fr (by rw [List.length_set]; exact hn)⟩, ?_, (hcell _ (by omega)).trans f0, (hcell _ (by omega)).trans f1, ⟨_, (hcell _ (by omega)).trans f2⟩, World.ownsRow.frozenAt hrow _, hg1.2⟩
  exact (hB.grown hG hB.size (fun k hk => (own_block (hO.own a ha (by omega)) hk).1)).setCell hg1.1 _
set_option maxHeartbeats 8000000 in
/-- put where the client's log is there, and not full. -/
theorem put_there (p : Option Addr) (n cc a : Nat) (S : List Lg) (hn : S.length = n) (h4 : n ≤ 1000) (client body : Int) (hc0 : 0 ≤ client) (hc8 : client < 8) (hb : In64 body) (ws : World) (HR : Hid (Right S)) (HS : Hid (Logs ws (.slice p n cc) S)) (HA : Hid (AtL S client a)) (HF : Hid (foundL S client a = true)) (ha : a < n) (h32 : Hid (S[a].xs.length < 32)) : Calls Try.prog 30 #[.slice p n cc, .int .i64 client, .int .i64 body] ws fun e w' => ∃ v T, e = .returned (.tuple #[v, .int .i64 (S[a].b + (S[a].xs.length + 1 : Nat)), .int .i64 0]) ∧ appL S a body T ∧ (Logs w' v T ∧ Fr ws.heap.size v T) ∧ Below ws.heap.size ws w' := by
  obtain ⟨i0, hi, hz0, hz1, hz2⟩ := info_parts (P := Try.prog) (e := 3) (z := .int .i64 0) (size := 1) (bytes := 8) (by kernel_rfl)
  obtain ⟨b, o, k, m, q, c4, xs, rfl, hb0, hsj, hst0⟩ := logs_at HS.out (j := a) (by omega)
  have hget : S[a] = ⟨k, m, .slice q xs.length c4, xs⟩ := (List.getElem?_eq_some_iff.1 hsj).2
  obtain ⟨k0, k8, m0, m1, _⟩ := right_ok' HR.out hsj
  simp only at k0 k8 m0 m1
  have hxl : xs.length < 32 := by
    have h := h32.out
    rw [hget] at h
    exact h
  have hbnd : Hid (∀ i (h : i < S.length), S[i].xs.length ≤ 1000) := fun i h => by
    have := (HR.out.1 i h).2.2.2.2.1
    omega
  have hlen : (xs.length : Int) < 32 := by omega
  rw [hget]
  have HG := (show Hid _ from hget)
  have HST := (show Hid _ from hst0)
  clear hst0 hsj hget h32
  go_enter Try.func30, Try.ntmps30
  go_wp2_with (first
    | (go_at_call 35; refine (find_low _ n cc S hn h4 client hc0 hc8 _ HR HS).mono ?_; rintro ev w1 ⟨a', hat, rfl, B1⟩; obtain rfl : a = a' := AtL.same HA.out hat; rw [HF.out]; have x2 := (B1.cell (p := ⟨b, o + a * 3 + 2, none⟩) hb0).trans HST.out.v; simp only at x2; clear hat)
    | (go_at_call 34; refine (copyl_low _ n cc S hn h4 hbnd _ (HS.out.below B1)).mono ?_; rintro ev w2 ⟨p2, c2, rfl, T, hA, _, hO, B2⟩
       have hT : T.length = n := hA.1.trans hn
       have hrow := hO.row
       rw [hT] at hrow
       obtain ⟨g, rfl, hg1, hg2, _, hcell⟩ := row_open hrow (by omega)
       obtain ⟨f0, f1, f2⟩ := flat_get T a (by omega)
       have y2 := (hcell (a * 3 + 2) (by omega)).trans f2
       obtain ⟨e0, e1, e2⟩ := hA.2 a (by omega) (by omega)
       rw [HG.out] at e0 e1 e2
       simp only at e0 e1 e2
       have hown := own_same (hO.own a (by omega) ha) ((Below.refl _ w2).alloc (Nat.le_refl _) (.cells #[.int .i64 body] 3))
       have hfin := (show Hid _ from fun v' w3 => fin_app (a := a) (S := S) (T := T) (body := body) (n := n) (hO.same ((Below.refl _ w2).alloc (Nat.le_refl _) (.cells #[.int .i64 body] 3))) hT (by omega) (B2.alloc B2.size _) hA (logs_in HS.out) hb v' w3)
       rw [e0, e1, e2] at hfin
       rw [e2] at hown
       have HO := (show Hid _ from hown)
       have hsz : w1.heap.size ≤ w2.heap.size := B2.size
       clear hown hrow hcell f0 f1 f2 e0 e1 e2 hO hA B2
       generalize T[a].v = tv at y2 hfin HO)
    | (at_builtin; refine wpList_append_own_at _ rfl (.tmp 44) (.tmp 46) 25 rfl w1.heap.size 3 i0 (.int .i64 0) 1 8 Try.underlying25 hi hz0 hz1 hz2 rfl (by decide) tv xs.length (xs.map (Value.int .i64)) rfl HO.out ⟨w2.heap.size, 0, none⟩ 1 1 [.int .i64 body] rfl rfl (news1 w2 (.int .i64 body) 3) (by intro u hu; rw [List.mem_singleton.1 hu]; rfl) (by unfold maxLen; omega) (by omega) (by simp; omega) ?_; intro v' w3 hown3 hgrow3 _ hat
       have HD := (show Hid _ from hfin.out v' w3 hgrow3 hown3 hat)
       obtain ⟨p5, c5, rfl⟩ := row_slice hown3
       have q0 := HD.out.x0
       have q1 := HD.out.x1
       obtain ⟨u2, q2⟩ := HD.out.x2
       have q3 := HD.out.z2
       have q4 := HD.out.lt
       clear hfin hown3 hgrow3 hat)
    | (go_at_call 28; refine (has_lg _ _ _ _ _ (by omega) (by omega) _).mono ?_; rintro ev w4 ⟨rfl, B4⟩))
  go_ret3
  obtain ⟨T', hap, hl, hfr⟩ := HD.out.logs
  have hb3 := HD.out.below
  exact ⟨_, T', rfl, hap, ⟨hl.below B4, hfr.low B1.size⟩, (B1.trans (hb3.mono B1.size)).trans (B4.mono (Nat.le_trans B1.size hb3.size))⟩
end Go.Proofs.Ytcpcnjblojoppaa
