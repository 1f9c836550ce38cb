/-
  ONION: Wrap, Peel, Back, Read. Own work.
-/
import Derived.Test.YtenllpaochcjfaaDoorOBc
import Derived.Deep.QuietTactic
import Derived.BigQuiet
namespace Go.Proofs.YtenllpaochcjfaaDoor
open Go.ChangeShapes Go.WideShapes Go.ChangeAt Go.RowKit Go.Maps Go.Deep
set_option maxRecDepth 100000
attribute [local go_sem ↓] Go.wp_at_zero Go.wp_at_succ
/-- The layers of an answer, from the r-th server's on. -/
inductive Slz (L : List Tm) (ks : List Int) (ans : Nat) : Nat → Nat → Prop
  | base : Slz L ks ans 3 ans
  | step (r x y k : Nat) : Slz L ks ans (r + 1) x → ks[r]? = some (k : Int) → L[y]? = some (6, 0, [(k : Int), (x : Int)]) → Slz L ks ans r y
theorem Slz.keep {L L' : List Tm} {ks : List Int} {ans r x : Nat} (h : Slz L ks ans r x) (hm : ∀ (j : Nat) (u : Tm), L[j]? = some u → L'[j]? = some u) : Slz L' ks ans r x := by
  induction h with
  | base => exact .base
  | step r x y k _ h1 h2 ih => exact .step r x y k ih h1 (hm _ _ h2)
theorem Slz.lt {L : List Tm} {ks : List Int} {ans r x : Nat} (h : Slz L ks ans r x) (ha : ans < L.length) : x < L.length := by
  cases h with
  | base => exact ha
  | step r x y k _ h1 h2 => exact at_lt h2
theorem Slz.le {L : List Tm} {ks : List Int} {ans r x : Nat} (h : Slz L ks ans r x) : r ≤ 3 := by
  induction h with
  | base => exact Nat.le_refl _
  | step r x y k _ h1 h2 ih => omega
section
variable {w ws w' : World} {aa : Nat} {L L1 : List Tm} {G : Nat → Prop} {ps ks : List Int} {sec pay : Nat}
set_option maxHeartbeats 8000000 in
theorem wrapW_ok (T : Hid (On w ws aa L G)) (p : Option Addr) (c : Nat) (hps : ps.length = 3) (RW : Hid (RdW ws (.slice p 3 c) ps)) (hpG : Hid (∀ k, (Value.slice p 3 c).ownBlock = some k → G k)) (hin : Hid (∀ t, t < 3 → ∃ (q : Nat) (xs : List Int), ps[t]? = some (q : Int) ∧ L[q]? = some (5, 0, xs))) (hs : sec < L.length) (hp : pay < L.length) (hL : L.length ≤ 100000) : Calls Tryd.prog 12 #[.pointer (some ⟨aa, 0, none⟩), .slice p 3 c, .int .i64 sec, .int .i64 pay] ws fun e w' => ∃ (o kb : Nat) (ks : List Int) (L' : List Tm), e = .returned (.tuple #[.int .i64 o, .slice (some ⟨kb, 0, none⟩) 3 3, .int .i64 0]) ∧ Lay L' ps sec pay 0 o ks ∧ (∀ (j : Nat) (u : Tm), L[j]? = some u → L'[j]? = some u) ∧ L.length ≤ L'.length ∧ L'.length ≤ L.length + 9 ∧ w'.ownsRow ws.heap.size 3 1 (.slice (some ⟨kb, 0, none⟩) 3 3) 3 (ks.map (Value.int .i64)) ∧ On w w' aa L' (fun k => G k ∨ k = kb) ∧ Stay G ws w' := by
  have hall : allIn L ps := fun z hz => by
    obtain ⟨t, ht, rfl⟩ := List.getElem_of_mem hz
    obtain ⟨q, xs, h1, h2⟩ := hin.out t (by omega)
    rw [List.getElem?_eq_getElem ht] at h1
    have := Option.some.inj h1
    have := at_lt h2
    omega
  have HD1 := (show Hid (decide (allIn L ps) = true) from decide_eq_true hall)
  have HD2 := (show Hid (decide (allIn L [(sec : Int), (pay : Int)]) = true) from decide_eq_true (fun z hz => by simp at hz; omega))
  have HIN := (show Hid (∀ t, t < 3 → ∃ q : Nat, ps[t]? = some (q : Int) ∧ q < L.length) from fun t ht => by
    obtain ⟨q, xs, h1, h2⟩ := hin.out t ht
    exact ⟨q, h1, at_lt h2⟩)
  have HPS := (show Hid (ps.length = 3) from hps)
  have HRW := (show Hid (RdW ws (.slice p ps.length c) ps) from by have := RW.out; rw [hps]; exact this)
  clear hall
  go_enter Tryd.func12, Tryd.ntmps12
  go_wp2_with (first
    | (go_at_call 31; have t1 := HD1; clear t1; refine (are_on T.out (xs := ps) (v := .slice p 3 c) RW.out (by omega)).mono ?_; rintro ev ws ⟨rfl, rfl⟩; rw [HD1.out]; clear HD1)
    | (go_at_call 31; refine (are_on (T.out.alloc _) (reads_lit [(sec : Int), (pay : Int)] rfl rfl _).rdw (by simp)).mono ?_; rintro ev w1 ⟨rfl, rfl⟩; rw [HD2.out]))
  have B0 : Below ws.heap.size ws (ws.alloc (.cells #[.int .i64 (sec : Int), .int .i64 (pay : Int)] 3)) := (Below.refl _ ws).alloc (Nat.le_refl _) _
  go_loopw [30] (fun i wq => ∃ j : Nat, i = .int .i64 j ∧ j ≤ 3 ∧ Below ws.heap.size ws wq) (fun i _ => 3 - (intOf i).toNat)
  case atStart => exact ⟨0, rfl, by omega, B0⟩
  case round =>
    clear B0
    obtain ⟨j, rfl, hj, hB⟩ := hrel
    by_cases hlt : j < 3
    · obtain ⟨q, xs, h1, h2⟩ := hin.out j hlt
      obtain ⟨pb, po, rfl, hpb, hpc⟩ := rdw_pos RW.out (t := j) (by omega)
      rw [List.getD_eq_getElem?_getD, h1] at hpc
      simp only [Option.getD_some] at hpc
      have x0 := (hB.cell (p := ⟨pb, po + j, none⟩) hpb).trans hpc
      have H2 := (show Hid _ from h2)
      have hjI : (j : Int) < 3 := by omega
      clear h1 h2
      go_wp2_with (go_at_call 32; refine (ispub_ok (T.out.step hB) H2.out).mono ?_; rintro ev w1 ⟨rfl, B1⟩)
      exact ⟨⟨j + 1, by simp, by omega, hB.trans (B1.mono hB.size)⟩, by simp [intOf]; omega⟩
    · have e3 : (j : Int) = 3 := by omega
      rw [e3]
      clear e3
      obtain rfl : j = 3 := by omega
      have HT := (show Hid (On w wr aa L G) from T.out.step hB)
      have HR := (show Hid (RdW wr (.slice p 3 c) ps) from rdw_keeps RW.out (Keeps.of_below (F := fun _ => False) hB) (fun _ _ _ h => h))
      have hsz := hB.size
      go_wp2_with (go_at_call 33; refine (wrap_ok HT p c hps HR hpG HIN hs hp hL).mono ?_; rintro ev w1 ⟨o, kb, ks, L', rfl, k1, k2, k3, k4, k5, k6, k7⟩)
      refine bodyPost_ret (v := .tuple #[.int .i64 (o : Int), .slice (some ⟨kb, 0, none⟩) 3 3, .int .i64 0]) (by simp [results, Tryd.results12, go_sem]) rfl ?_
      exact ⟨o, kb, ks, L', rfl, k1, k2, k3, k4, row_lower k5 hsz, k6, (stay_below hB).trans k7⟩
set_option maxHeartbeats 4000000 in
theorem peel_ok (T : Hid (On w ws aa L G)) {x q s i k : Nat} {e : Int} (h1 : Hid (L[x]? = some (7, 0, [(q : Int), e, (i : Int), (k : Int)]))) (h2 : Hid (L[q]? = some (5, 0, [(s : Int)]))) (hs : s < L.length) : Calls Tryd.prog 18 #[.pointer (some ⟨aa, 0, none⟩), .int .i64 s, .int .i64 x] ws fun e w' => e = .returned (.tuple #[.int .i64 i, .int .i64 k, .int .i64 0]) ∧ Below ws.heap.size ws w' := by
  go_enter Tryd.func18, Tryd.ntmps18
  go_wp2_with (go_at_call 35; refine (unbox_on T.out x s (unbox_ye h1.out h2.out hs)).mono ?_; rintro ev w1 ⟨p, c, rfl, hown, B1⟩
               obtain ⟨g, hg, _, _, _, hc⟩ := row_open hown (by simp)
               subst hg
               have x0 : w1.cell? ⟨g, 0, none⟩ = some (.int .i64 (i : Int)) := hc 0 (by simp)
               have x1 : w1.cell? ⟨g, 1, none⟩ = some (.int .i64 (k : Int)) := hc 1 (by simp)
               clear hown hc)
  go_region
  go_wp2
  refine bodyPost_ret (v := .tuple #[.int .i64 (i : Int), .int .i64 (k : Int), .int .i64 0]) (by simp [results, Tryd.results18, go_sem]) rfl ?_
  exact ⟨rfl, by first | exact B1 | exact B1.drew | exact below_drewN B1 _⟩
set_option maxHeartbeats 4000000 in
theorem peel_no (T : Hid (On w ws aa L G)) {x q s o : Nat} {e : Int} {zs : List Int} (h1 : Hid (L[x]? = some (7, 0, (q : Int) :: e :: zs))) (h2 : Hid (L[q]? = some (5, 0, [(s : Int)]))) (ho : o < L.length) (hne : o ≠ s) : Calls Tryd.prog 18 #[.pointer (some ⟨aa, 0, none⟩), .int .i64 o, .int .i64 x] ws fun e w' => e = .returned (.tuple #[.int .i64 0, .int .i64 0, .int .i64 3]) ∧ Below ws.heap.size ws w' := by
  go_enter Tryd.func18, Tryd.ntmps18
  go_wp2_with (go_at_call 35; refine (unbox_on T.out x o (unbox_ne h1.out h2.out ho hne)).mono ?_; rintro ev w1 ⟨p, c, rfl, hown, B1⟩; clear hown)
  refine bodyPost_ret (v := .tuple #[.int .i64 0, .int .i64 0, .int .i64 3]) (by simp [results, Tryd.results18, go_sem]) rfl ?_
  exact ⟨rfl, B1⟩
set_option maxHeartbeats 4000000 in
theorem back_ok (T : Hid (On w ws aa L G)) {k x i : Nat} (M : Hid (MkT L (6, 0, [(k : Int), (x : Int)]) i L1)) : Calls Tryd.prog 20 #[.pointer (some ⟨aa, 0, none⟩), .int .i64 k, .int .i64 x] ws fun e w' => e = .returned (.tuple #[.int .i64 i, .int .i64 0]) ∧ On w w' aa L1 G ∧ Stay G ws w' := by
  go_enter Tryd.func20, Tryd.ntmps20
  go_wp2_with (go_at_call 26; refine (make_on (T.out.alloc _) 6 0 (reads_lit [(k : Int), (x : Int)] rfl rfl _) (by omega) M.out.put).mono ?_; rintro ev w1 ⟨rfl, T1, K1⟩)
  go_ret2
  exact ⟨rfl, T1, (stay_below ((Below.refl _ ws).alloc (Nat.le_refl _) _)).trans K1⟩
set_option maxHeartbeats 8000000 in
theorem read_ok (T : Hid (On w ws aa L G)) (p : Option Addr) (c : Nat) (hks : ks.length = 3) (RW : Hid (RdW ws (.slice p 3 c) ks)) (hin : Hid (∀ t, t < 3 → ∃ q : Nat, ks[t]? = some (q : Int) ∧ q < L.length)) {ans y : Nat} (ha : ans < L.length) (S : Hid (Slz L ks ans 0 y)) : Calls Tryd.prog 22 #[.pointer (some ⟨aa, 0, none⟩), .slice p 3 c, .int .i64 y] ws fun e w' => e = .returned (.tuple #[.int .i64 ans, .int .i64 0]) ∧ Below ws.heap.size ws w' := by
  have hall : allIn L ks := fun z hz => by
    obtain ⟨t, ht, rfl⟩ := List.getElem_of_mem hz
    obtain ⟨q, h1, h2⟩ := hin.out t (by omega)
    rw [List.getElem?_eq_getElem ht] at h1
    have := Option.some.inj h1
    omega
  have hyl := S.out.lt ha
  have HD1 := (show Hid (decide (allIn L ks) = true) from decide_eq_true hall)
  have HD2 := (show Hid (decide (allIn L [(y : Int)]) = true) from decide_eq_true (fun z hz => by simp at hz; omega))
  clear hall
  go_enter Tryd.func22, Tryd.ntmps22
  go_wp2_with (first
    | (go_at_call 31; have t1 := HD1; clear t1; refine (are_on T.out (xs := ks) (v := .slice p 3 c) RW.out (by omega)).mono ?_; rintro ev ws ⟨rfl, rfl⟩; rw [HD1.out]; clear HD1)
    | (go_at_call 31; refine (are_on (T.out.alloc _) (reads_lit [(y : Int)] rfl rfl _).rdw (by simp)).mono ?_; rintro ev w1 ⟨rfl, rfl⟩; rw [HD2.out]))
  have B0 : Below ws.heap.size ws (ws.alloc (.cells #[.int .i64 (y : Int)] 3)) := (Below.refl _ ws).alloc (Nat.le_refl _) _
  go_loopw [2, 28] (fun a i wq => ∃ j x : Nat, a = .int .i64 x ∧ i = .int .i64 j ∧ j ≤ 3 ∧ Hid (Slz L ks ans j x) ∧ Below ws.heap.size ws wq) (fun _ i _ => 3 - (intOf i).toNat)
  case atStart => exact ⟨0, y, rfl, rfl, by omega, S, B0⟩
  case round =>
    clear B0
    obtain ⟨j, x, rfl, rfl, hj, HS, hB⟩ := hrel
    by_cases hlt : j < 3
    · obtain ⟨x', k, hs', h1, h2⟩ : ∃ x' k : Nat, Slz L ks ans (j + 1) x' ∧ ks[j]? = some (k : Int) ∧ L[x]? = some (6, 0, [(k : Int), (x' : Int)]) := by
        cases HS.out with
        | base => omega
        | step r x' y' k h h1 h2 => exact ⟨x', k, h, h1, h2⟩
      obtain ⟨q, hq, hql⟩ := hin.out j hlt
      obtain rfl : q = k := by rw [h1] at hq; have := Option.some.inj hq; omega
      obtain ⟨pb, po, rfl, hpb, hpc⟩ := rdw_pos RW.out (t := j) (by omega)
      rw [List.getD_eq_getElem?_getD, h1] at hpc
      simp only [Option.getD_some] at hpc
      have x0 := (hB.cell (p := ⟨pb, po + j, none⟩) hpb).trans hpc
      have HO := (show Hid (openOf L x q = ([(x' : Int)], 0)) from open_ye h2 hql)
      have HS2 := (show Hid (Slz L ks ans (j + 1) x') from hs')
      have hjI : (j : Int) < 3 := by omega
      clear h1 h2 hs' hq HS hpc
      go_wp2_with (go_at_call 38; refine (open_on (T.out.step hB) x q HO.out).mono ?_; rintro ev w1 ⟨p1, c1, rfl, hown, B1⟩
                   obtain ⟨g, hg, _, _, _, hc⟩ := row_open hown (by simp)
                   subst hg
                   have y0 : w1.cell? ⟨g, 0, none⟩ = some (.int .i64 (x' : Int)) := hc 0 (by simp)
                   clear hown hc)
      exact ⟨⟨j + 1, x', rfl, by simp, by omega, HS2, hB.trans (B1.mono hB.size)⟩, by simp [intOf]; omega⟩
    · have e3 : (j : Int) = 3 := by omega
      rw [e3]
      clear e3
      obtain rfl : j = 3 := by omega
      obtain rfl : x = ans := by
        have h := HS.out
        generalize hr : 3 = r at h
        cases h with
        | base => rfl
        | step _ x' y' k h h1 h2 => have := h.le; omega
      go_wp2
      go_ret2
      exact ⟨rfl, hB⟩
end
end Go.Proofs.YtenllpaochcjfaaDoor
