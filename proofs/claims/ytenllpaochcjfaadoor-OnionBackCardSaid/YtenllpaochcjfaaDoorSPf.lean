/-
  THE PAGE's ARENA: Has, Put. Own work.
-/
import Derived.Test.YtenllpaochcjfaaDoorSPe
namespace Go.Proofs.YtenllpaochcjfaaDoor
open Go.RowKit Go.Maps
set_option maxRecDepth 100000
attribute [local go_sem ↓] Go.wp_at_zero Go.wp_at_succ
set_option maxHeartbeats 1000000 in
theorem phas_nil (bb : Nat) (p : Option Addr) (c : Nat) (w : World) : Calls Tryd.prog 15 #[.pointer (some ⟨bb, 0, none⟩), .slice p 0 c] w fun e w' => e = .returned (.bool true) ∧ w' = w := by
  go_enter Tryd.func15, Tryd.ntmps15
  go_wp2
  go_loopw [5] (fun i wr => i = .int .i64 0 ∧ wr = w) (fun _ _ => 0)
  case atStart => exact ⟨rfl, rfl⟩
  case round =>
    obtain ⟨rfl, rfl⟩ := hrel
    go_wp2
    go_ret
    exact ⟨rfl, rfl⟩
set_option maxHeartbeats 4000000 in
theorem phas_some (bb m cp : Nat) (np : Option Addr) (b o c n : Nat) (xs : List Int) (hx : xs.length = n) (hn : n ≤ 100000) (w : World) (hbb : bb < w.heap.size) (hb : b < w.heap.size) (c0 : w.cell? ⟨bb, 0, none⟩ = some (.slice np m cp)) (HC : Hid (∀ t, t < n → w.cell? ⟨b, o + t, none⟩ = some (.int .i64 (xs.getD t 0)))) : Calls Tryd.prog 15 #[.pointer (some ⟨bb, 0, none⟩), .slice (some ⟨b, o, none⟩) n c] w fun e w' => e = .returned (.bool (decide (∀ x ∈ xs, 0 ≤ x ∧ x < (m : Int)))) ∧ Below w.heap.size w w' := by
  go_enter Tryd.func15, Tryd.ntmps15
  go_wp2
  go_loopw [5] (fun i wr => ∃ j : Nat, j ≤ n ∧ i = .int .i64 j ∧ (∀ t, t < j → 0 ≤ xs.getD t 0 ∧ xs.getD t 0 < (m : Int)) ∧ Below w.heap.size w wr) (fun i _ => n - (intOf i).toNat)
  case atStart => exact ⟨0, by omega, rfl, fun t h => by omega, Below.refl _ _⟩
  case round =>
    obtain ⟨j, hj, rfl, hall, hB⟩ := hrel
    have HE := (show Hid _ from hall)
    clear hall
    by_cases hlt : j < n
    · have c1 := (hB.cell (p := ⟨b, o + j, none⟩) hb).trans (HC.out j hlt)
      have c2 := (hB.cell (p := ⟨bb, 0, none⟩) hbb).trans c0
      have hmem : xs.getD j 0 ∈ xs := by rw [List.getD_eq_getElem?_getD, List.getElem?_eq_getElem (by omega)]; exact List.getElem_mem _
      generalize hx1 : xs.getD j 0 = x at c1 hmem
      have HX := (show Hid _ from hx1)
      have HM := (show Hid _ from hmem)
      clear hx1 hmem
      by_cases h0 : x < 0
      · have hd : decide (x < 0) = true := decide_eq_true h0
        go_wp2
        go_quiet (fail)
        try simp only [Exit.then]
        go_wp2
        go_ret
        rw [decide_eq_false (fun h => by have := (h x HM.out).1; omega)]
        exact ⟨rfl, below_drewN hB _⟩
      · have hd : decide (x < 0) = false := decide_eq_false h0
        by_cases h1 : (m : Int) ≤ x
        · have hd2 : decide ((m : Int) ≤ x) = true := decide_eq_true h1
          go_wp2
          go_quiet (fail)
          try simp only [Exit.then]
          go_wp2
          go_ret
          rw [decide_eq_false (fun h => by have := (h x HM.out).2; omega)]
          exact ⟨rfl, below_drewN hB _⟩
        · have hd2 : decide ((m : Int) ≤ x) = false := decide_eq_false h1
          go_wp2
          go_quiet (fail)
          try simp only [Exit.then]
          go_wp2
          refine ⟨⟨j + 1, by omega, by simp, fun t ht => ?_, below_drewN hB _⟩, by simp [intOf]; omega⟩
          rcases Nat.lt_or_ge t j with h | h
          · exact HE.out t h
          · obtain rfl : t = j := by omega
            rw [HX.out]
            omega
    · go_wp2
      go_ret
      obtain rfl : j = n := by omega
      rw [decide_eq_true (fun x hx' => by
        obtain ⟨t, ht, rfl⟩ := List.getElem_of_mem hx'
        have := HE.out t (by omega)
        rwa [List.getD_eq_getElem?_getD, List.getElem?_eq_getElem ht] at this)]
      exact ⟨rfl, hB⟩
theorem phas_ok {bb m cp : Nat} {np : Option Addr} {v : Value} {xs : List Int} {w : World} (hbb : bb < w.heap.size) (c0 : w.cell? ⟨bb, 0, none⟩ = some (.slice np m cp)) (h : RdW w v xs) (hn : xs.length ≤ 100000) : Calls Tryd.prog 15 #[.pointer (some ⟨bb, 0, none⟩), v] w fun e w' => e = .returned (.bool (decide (∀ x ∈ xs, 0 ≤ x ∧ x < (m : Int)))) ∧ Below w.heap.size w w' := by
  obtain ⟨p, c, rfl, rfl | ⟨b, o, rfl, hb, hc⟩⟩ := h
  · refine (phas_nil bb p c w).mono ?_
    rintro e w' ⟨rfl, rfl⟩
    exact ⟨by simp, Below.refl _ _⟩
  · exact phas_some bb m cp np b o c _ xs rfl hn w hbb hb c0 hc
/-- THE PAGE's ARENA of the terms L, in blocks of F alone. -/
structure PAr (w : World) (bb : Nat) (L : List Tm) (F : Nat → Prop) : Prop where
  ex : ∃ np cp vs, w.cell? ⟨bb, 0, none⟩ = some (.slice np L.length cp) ∧ w.frozen? ⟨bb, 0, none⟩ = false ∧ w.ownsRow 0 79 3 (.slice np L.length cp) L.length (cellsOf L vs) ∧ Rows3 w L vs (fun k => F k ∧ k ≠ bb ∧ (Value.slice np L.length cp).ownBlock ≠ some k) ∧ (∀ k, (Value.slice np L.length cp).ownBlock = some k → F k ∧ k ≠ bb)
  wf : Wf L
  self : F bb
  lt : ∀ k, F k → k < w.heap.size
theorem PAr.keeps {F G : Nat → Prop} {w w' : World} {bb : Nat} {L : List Tm} (A : PAr w bb L F) (hK : Keeps G w w') (hn : ∀ k, F k → ¬ G k) : PAr w' bb L F := by
  obtain ⟨np, cp, vs, h1, h2, h3, h4, h5⟩ := A.ex
  have hb := A.lt _ A.self
  exact ⟨⟨np, cp, vs, (hK.cell (p := ⟨bb, 0, none⟩) hb (hn _ A.self)).trans h1, (hK.frozen (p := ⟨bb, 0, none⟩) hb (hn _ A.self)).trans h2, row_keeps h3 hK (fun k hk => hn k (h5 k hk).1), h4.keeps hK (fun k hk => hn k hk.1), h5⟩, A.wf, A.self, fun k hk => Nat.lt_of_lt_of_le (A.lt k hk) hK.size⟩
theorem PAr.below {F : Nat → Prop} {w w' : World} {bb : Nat} {L : List Tm} (A : PAr w bb L F) (hB : Below w.heap.size w w') : PAr w' bb L F := A.keeps (Keeps.of_below (F := fun _ => False) hB) (fun _ _ h => h)
theorem PAr.head {w : World} {bb : Nat} {L : List Tm} {F : Nat → Prop} (A : PAr w bb L F) : ∃ np cp, w.cell? ⟨bb, 0, none⟩ = some (.slice np L.length cp) ∧ bb < w.heap.size := by
  obtain ⟨np, cp, vs, h1, _⟩ := A.ex
  exact ⟨np, cp, h1, A.lt _ A.self⟩
/-- Where the node i lies. -/
theorem PAr.node {w : World} {bb : Nat} {L : List Tm} {F : Nat → Prop} (A : PAr w bb L F) (i : Nat) (hi : i < L.length) : ∃ g cp p4 c4, w.cell? ⟨bb, 0, none⟩ = some (.slice (some ⟨g, 0, none⟩) L.length cp) ∧ bb < w.heap.size ∧ g < w.heap.size ∧ F g ∧
    w.cell? ⟨g, i * 3, none⟩ = some (.int .i64 L[i].1) ∧ w.cell? ⟨g, i * 3 + 1, none⟩ = some (.int .i64 L[i].2.1) ∧ w.cell? ⟨g, i * 3 + 2, none⟩ = some (.slice p4 L[i].2.2.length c4) ∧ Reads w (.slice p4 L[i].2.2.length c4) L[i].2.2 ∧ L[i].2.2.length ≤ 400 := by
  obtain ⟨np, cp, vs, h1, h2, hrow, hR, h5⟩ := A.ex
  have hi' : i < vs.length := by rw [hR.len]; exact hi
  obtain ⟨e0, e1, e2⟩ := cellsOf_at hR.len i hi hi'
  rcases hrow.2 with ⟨h, h0⟩ | ⟨g, cap, cur, h, _, hg, _⟩
  · omega
  · cases h
    have hx := hR.row i hi hi'
    obtain ⟨p4, c4, hv⟩ := row_slice hx
    have hlen := hrow.1
    have cAt := fun j hj => World.ownsRow.cellAt hrow j hj
    refine ⟨g, cp, p4, c4, h1, A.lt _ A.self, (Array.getElem?_eq_some_iff.1 hg).1, (h5 g rfl).1, (cAt _ (by omega)).trans e0, (cAt _ (by omega)).trans e1, ?_, ?_, (shape_k (A.wf.good i hi).1).2.2.2⟩
    · rw [← hv]
      exact (cAt _ (by omega)).trans e2
    · rw [← hv]
      exact hx.reads
end Go.Proofs.YtenllpaochcjfaaDoor
