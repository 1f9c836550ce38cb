/-
  THE PAGE's KEEP: Ints, Term, TwinInts, SpoilInts. Own work.
-/
import Derived.Test.YtenllpaochcjfaaDoorSPb
import Derived.Deep.QuietTactic
import Derived.BigQuiet
namespace Go.Proofs.YtenllpaochcjfaaDoor
open Go.RowKit Go.Maps
set_option maxRecDepth 100000
attribute [local go_sem ↓] Go.wp_at_zero Go.wp_at_succ
theorem below_drewN {B : Nat} {w w' : World} (h : Below B w w') (n : Nat) : Below B w (w'.drewN n) := ⟨h.os, h.tape, h.output, h.size, h.block⟩
theorem getD_ext {xs ys : List Int} (hl : xs.length = ys.length) (h : ∀ t, t < xs.length → xs.getD t 0 = ys.getD t 0) : xs = ys := by
  apply List.ext_getElem hl
  intro i h1 h2
  have := h i h1
  rwa [List.getD_eq_getElem?_getD, List.getElem?_eq_getElem h1, List.getD_eq_getElem?_getD, List.getElem?_eq_getElem h2] at this
set_option maxHeartbeats 4000000 in
theorem ints_low (b o c b' o' c' n : Nat) (xs ys : List Int) (hx : xs.length = n) (hy : ys.length = n) (hn : n ≤ 2147483648) (w : World) (hb : b < w.heap.size) (hb' : b' < w.heap.size) (HC : Hid (∀ t, t < n → w.cell? ⟨b, o + t, none⟩ = some (.int .i64 (xs.getD t 0)))) (HC' : Hid (∀ t, t < n → w.cell? ⟨b', o' + t, none⟩ = some (.int .i64 (ys.getD t 0)))) : Calls Tryd.prog 14 #[.slice (some ⟨b, o, none⟩) n c, .slice (some ⟨b', o', none⟩) n c'] w fun e w' => e = .returned (.bool (decide (xs = ys))) ∧ Below w.heap.size w w' := by
  go_enter Tryd.func14, Tryd.ntmps14
  go_wp2
  go_loopw [5] (fun i wr => ∃ j : Nat, j ≤ n ∧ i = .int .i64 j ∧ (∀ t, t < j → xs.getD t 0 = ys.getD t 0) ∧ Below w.heap.size w wr) (fun i _ => n - (intOf i).toNat)
  case atStart => exact ⟨0, by omega, rfl, fun t h => by omega, Below.refl _ _⟩
  case round =>
    obtain ⟨j, hj, rfl, heq, hB⟩ := hrel
    have HE := (show Hid _ from heq)
    clear heq
    by_cases hlt : j < n
    · have c1 := (hB.cell (p := ⟨b, o + j, none⟩) hb).trans (HC.out j hlt)
      have c2 := (hB.cell (p := ⟨b', o' + j, none⟩) hb').trans (HC'.out j hlt)
      generalize hx1 : xs.getD j 0 = x at c1
      generalize hy1 : ys.getD j 0 = y at c2
      have HX := (show Hid _ from hx1)
      have HY := (show Hid _ from hy1)
      clear hx1 hy1
      by_cases hxy : x = y
      · subst hxy
        go_wp2
        go_quiet (fail)
        try simp only [Exit.then]
        go_wp2
        refine ⟨⟨j + 1, by omega, by simp, fun t ht => ?_, below_drewN hB _⟩, by simp [intOf]; omega⟩
        rcases Nat.lt_or_ge t j with h | h
        · exact HE.out t h
        · obtain rfl : t = j := by omega
          exact HX.out.trans HY.out.symm
      · have hd : (x != y) = true := by simpa using hxy
        go_wp2
        go_quiet (fail)
        try simp only [Exit.then]
        go_wp2
        go_ret
        refine ⟨?_, below_drewN hB _⟩
        rw [decide_eq_false (fun h => hxy (by rw [← HX.out, ← HY.out, h]))]
        rfl
    · go_wp2
      go_ret
      obtain rfl : j = n := by omega
      rw [decide_eq_true (getD_ext (hx.trans hy.symm) (by rw [hx]; exact HE.out))]
      exact ⟨rfl, hB⟩
set_option maxHeartbeats 1000000 in
theorem ints_len (p p' : Option Addr) (c c' n n' : Nat) (h : n ≠ n') (w : World) : Calls Tryd.prog 14 #[.slice p n c, .slice p' n' c'] w fun e w' => e = .returned (.bool false) ∧ w' = w := by
  have hne : ¬ (n : Int) = (n' : Int) := by omega
  go_enter Tryd.func14, Tryd.ntmps14
  go_wp2
  go_ret
  exact ⟨rfl, rfl⟩
set_option maxHeartbeats 1000000 in
theorem ints_none (p p' : Option Addr) (c c' : Nat) (w : World) : Calls Tryd.prog 14 #[.slice p 0 c, .slice p' 0 c'] w fun e w' => e = .returned (.bool true) ∧ w' = w := by
  go_enter Tryd.func14, Tryd.ntmps14
  go_wp2
  go_loopw [5] (fun i wr => i = .int .i64 0 ∧ wr = w) (fun _ _ => 0)
  case atStart => exact ⟨rfl, rfl⟩
  case round =>
    obtain ⟨rfl, rfl⟩ := hrel
    go_wp2
    go_ret
    exact ⟨rfl, rfl⟩
theorem ints_ok {w : World} {v u : Value} {xs ys : List Int} (hn : xs.length ≤ 2147483648) (hx : RdW w v xs) (hy : RdW w u ys) : Calls Tryd.prog 14 #[v, u] w fun e w' => e = .returned (.bool (decide (xs = ys))) ∧ Below w.heap.size w w' := by
  obtain ⟨p, c, rfl, hx⟩ := hx
  obtain ⟨p', c', rfl, hy⟩ := hy
  by_cases hl : xs.length = ys.length
  · rcases hx with rfl | ⟨b, o, rfl, hb, hc⟩
    · obtain rfl : ys = [] := List.eq_nil_of_length_eq_zero hl.symm
      refine (ints_none p p' c c' w).mono ?_
      rintro e w' ⟨rfl, rfl⟩
      exact ⟨rfl, Below.refl _ _⟩
    · rcases hy with rfl | ⟨b', o', rfl, hb', hc'⟩
      · obtain rfl : xs = [] := List.eq_nil_of_length_eq_zero hl
        refine (ints_none _ p' c c' w).mono ?_
        rintro e w' ⟨rfl, rfl⟩
        exact ⟨rfl, Below.refl _ _⟩
      · have := ints_low b o c b' o' c' xs.length xs ys rfl hl.symm hn w hb hb' hc (by rw [hl]; exact hc')
        rwa [← hl]
  · refine (ints_len p p' c c' _ _ hl w).mono ?_
    rintro e w' ⟨rfl, rfl⟩
    rw [decide_eq_false (fun h => hl (by rw [h]))]
    exact ⟨rfl, Below.refl _ _⟩
theorem RdW.alloc {w : World} {v : Value} {xs : List Int} (h : RdW w v xs) (o : Obj) : RdW (w.alloc o) v xs := h.below ((Below.refl _ w).alloc (Nat.le_refl _) o)
set_option maxHeartbeats 4000000 in
theorem term_ok {w : World} {p p' : Option Addr} {n n' c c' : Nat} {xs ys : List Int} (k m k' m' : Int) (hn : xs.length ≤ 2147483648) (hx : RdW w (.slice p n c) xs) (hy : RdW w (.slice p' n' c') ys) : Calls Tryd.prog 57 #[.agg #[.int .i64 k, .int .i64 m, .slice p n c], .agg #[.int .i64 k', .int .i64 m', .slice p' n' c']] w fun e w' => e = .returned (.bool (decide ((k, m, xs) = (k', m', ys)))) ∧ Below w.heap.size w w' := by
  have HX := (show Hid _ from hx)
  have HY := (show Hid _ from hy)
  have HN := (show Hid _ from hn)
  clear hx hy hn
  by_cases h1 : k = k'
  · by_cases h2 : m = m'
    · subst h1 h2
      go_enter Tryd.func57, Tryd.ntmps57
      go_wp2_with (go_at_call 14; refine (ints_ok HN.out (RdW.alloc (RdW.alloc HX.out _) _) (RdW.alloc (RdW.alloc HY.out _) _)).mono ?_; rintro ev w' ⟨rfl, hB⟩)
      go_ret
      refine ⟨by simp, (((Below.refl _ w).alloc (Nat.le_refl _) _).alloc (by simp) _).trans (hB.mono (by simp; omega))⟩
    · go_enter Tryd.func57, Tryd.ntmps57
      go_wp2
      go_ret
      refine ⟨by simp [h2], (((Below.refl _ w).alloc (Nat.le_refl _) _).alloc (by simp) _)⟩
  · go_enter Tryd.func57, Tryd.ntmps57
    go_wp2
    go_ret
    refine ⟨by simp [h1], (((Below.refl _ w).alloc (Nat.le_refl _) _).alloc (by simp) _)⟩
/-! TwinInts -/
theorem rdw_news {w : World} {b o : Nat} {xs : List Int} (hc : ∀ t, t < xs.length → w.cell? ⟨b, o + t, none⟩ = some (.int .i64 (xs.getD t 0))) : ∀ j u, (xs.map (Value.int .i64))[j]? = some u → w.cell? ((⟨b, o, none⟩ : Addr).add j) = some u := ints_news rfl hc
set_option maxHeartbeats 1000000 in
theorem twin_some (b o c : Nat) (xs : List Int) (n : Nat) (hn : xs.length = n) (w : World) (h4 : n ≤ 1000) (hc : ∀ t, t < n → w.cell? ⟨b, o + t, none⟩ = some (.int .i64 (xs.getD t 0))) : Calls Tryd.prog 11 #[.slice (some ⟨b, o, none⟩) n c] w fun e w' => ∃ v, e = .returned v ∧ w'.ownsRow w.heap.size 3 1 v n (xs.map (Value.int .i64)) ∧ Below w.heap.size w w' := by
  obtain ⟨i0, hi, hz0, hz1, hz2⟩ := info_parts (P := Tryd.prog) (e := 3) (z := .int .i64 0) (size := 1) (bytes := 8) (by kernel_rfl)
  have HC := (show Hid _ from hc)
  clear hc
  go_enter Tryd.func11, Tryd.ntmps11
  go_wp2_with (at_builtin; refine wpList_append_own _ rfl (.tmp 4) (.tmp 5) 23 rfl w.heap.size 3 i0 (.int .i64 0) 1 8 Tryd.underlying23 hi hz0 hz1 hz2 rfl (by decide) (.slice none 0 0) 0 [] rfl (World.ownsRow_nil _ _ _ _) ⟨b, o, none⟩ n c (xs.map (Value.int .i64)) rfl (by simp [hn]) (ints_news hn HC.out) (ints_oneCell _ _) (by unfold maxLen; omega) (by omega) (by simp) ?_; intro v' w1 hown1 hgrow1 _)
  go_ret
  exact ⟨v', rfl, by simpa using hown1, (Below.refl _ _).grown hgrow1 (Nat.le_refl _) (fun _ hk => by simp [Value.ownBlock] at hk)⟩
set_option maxHeartbeats 1000000 in
theorem twin_none (a : Addr) (c : Nat) (w : World) : Calls Tryd.prog 11 #[.slice (some a) 0 c] w fun e w' => ∃ v, e = .returned v ∧ w'.ownsRow w.heap.size 3 1 v 0 [] ∧ Below w.heap.size w w' := by
  obtain ⟨i0, hi, hz0, hz1, hz2⟩ := info_parts (P := Tryd.prog) (e := 3) (z := .int .i64 0) (size := 1) (bytes := 8) (by kernel_rfl)
  go_enter Tryd.func11, Tryd.ntmps11
  go_wp2_with (at_builtin; refine wpList_append_own _ rfl (.tmp 4) (.tmp 5) 23 rfl w.heap.size 3 i0 (.int .i64 0) 1 8 Tryd.underlying23 hi hz0 hz1 hz2 rfl (by decide) (.slice none 0 0) 0 [] rfl (World.ownsRow_nil _ _ _ _) a 0 c [] rfl (by simp) (fun j u h => by simp at h) (fun u h => by cases h) (by unfold maxLen; omega) (by omega) (by simp) ?_; intro v' w1 hown1 hgrow1 _)
  go_ret
  exact ⟨v', rfl, by simpa using hown1, (Below.refl _ _).grown hgrow1 (Nat.le_refl _) (fun _ hk => by simp [Value.ownBlock] at hk)⟩
set_option maxHeartbeats 1000000 in
theorem twin_nil (w : World) : Calls Tryd.prog 11 #[.slice none 0 0] w fun e w' => e = .returned (.slice none 0 0) ∧ w' = w := by
  go_enter Tryd.func11, Tryd.ntmps11
  go_wp2
  go_ret
  exact ⟨rfl, rfl⟩
end Go.Proofs.YtenllpaochcjfaaDoor
