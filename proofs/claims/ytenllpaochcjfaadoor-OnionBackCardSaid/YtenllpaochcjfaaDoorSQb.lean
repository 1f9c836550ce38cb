/-
  TERMS: numbers of one's own beside an arena; parts.Are; sched. Own work.
-/
import Derived.Test.YtenllpaochcjfaaDoorSQa
import Derived.Maps.AppendAt
namespace Go.Proofs.YtenllpaochcjfaaDoor
open Go.RowKit Go.Maps
set_option maxRecDepth 100000
section
variable {w w0 wr w' : World} {aa bb : Nat} {L L' L1 : List Tm} {G G' H : Nat → Prop} {v : Value} {xs : List Int}
/-- What is one's own is written, and more is made. -/
theorem On.more (T : On w wr aa L G) {H P : Nat → Prop} (hK : Keeps H wr w') (hH : ∀ k, H k → (G k ∧ w.heap.size ≤ k) ∨ wr.heap.size ≤ k) (hP : ∀ k, P k → wr.heap.size ≤ k ∧ k < w'.heap.size) : On w w' aa L (fun k => G k ∨ P k) := by
  have T1 := T.own hK hH
  obtain ⟨Fa, A, r1, r2⟩ := T.ex
  refine ⟨⟨Fa, A.keeps hK (fun k ha hk => ?_), r1, fun k hk => ?_⟩, fun k hk => ?_, T1.below⟩
  · rcases hH k hk with h | h
    · exact r2 k h.1 ha
    · have := A.lt k ha; omega
  · rcases hk with h | h
    · exact r2 k h
    · exact fun hf => by have := A.lt k hf; have := (hP k h).1; omega
  · rcases hk with h | h
    · exact T1.lt k h
    · exact (hP k h).2
/-- A row of numbers of one's own beside an arena; w0: where one began, G: what is kept from there on. -/
structure OnRow (w w0 wr : World) (aa : Nat) (L : List Tm) (G : Nat → Prop) (v : Value) (xs : List Int) : Prop where
  ex : ∃ H : Nat → Prop, On w wr aa L (fun k => G k ∨ H k) ∧ (∀ k, v.ownBlock = some k → H k ∧ ¬ G k)
  row : wr.ownsRow w.heap.size 3 1 v xs.length (xs.map (Value.int .i64))
  stay : Stay G w0 wr
theorem OnRow.on (T : OnRow w w0 wr aa L G v xs) : On w wr aa L G := by
  obtain ⟨H, O, _⟩ := T.ex
  exact O.mono (fun k hk => .inl hk)
theorem OnRow.step (T : OnRow w w0 wr aa L G v xs) (hB : Below wr.heap.size wr w') : OnRow w w0 w' aa L G v xs := by
  obtain ⟨H, O, h⟩ := T.ex
  exact ⟨⟨H, O.step hB, h⟩, row_keeps (F := fun _ => False) T.row (Keeps.of_below hB) (fun _ _ h => h), T.stay.trans (stay_below hB)⟩
theorem OnRow.alloc (T : OnRow w w0 wr aa L G v xs) (o : Obj) : OnRow w w0 (wr.alloc o) aa L G v xs := T.step ((Below.refl _ wr).alloc (Nat.le_refl _) o)
theorem OnRow.reads (T : OnRow w w0 wr aa L G v xs) : Reads wr v xs := (irow_of T.row).reads
/-- None yet. -/
theorem On.row0 (T : On w wr aa L G) : OnRow w wr wr aa L G (.slice none 0 0) [] := ⟨⟨fun _ => False, T.mono (fun k hk => hk.elim id False.elim), fun k h => by simp [Value.ownBlock] at h⟩, World.ownsRow_nil _ _ _ _, Keeps.refl _ _⟩
/-- A row that was just made. -/
theorem On.withRow (T : On w wr aa L G) (hB : Below wr.heap.size wr w') (hown : w'.ownsRow wr.heap.size 3 1 v xs.length (xs.map (Value.int .i64))) : OnRow w wr w' aa L G v xs :=
  ⟨⟨fun k => v.ownBlock = some k, T.add hB (fun k hk => row_base hown hk), fun k hk => ⟨hk, fun hg => by have := T.lt k hg; have := (row_base hown hk).1; omega⟩⟩, row_lower hown T.below.size, stay_below hB⟩
/-- Make, beside a row. -/
theorem OnRow.calls (T : OnRow w w0 wr aa L G v xs) {i : Nat} {avs : Array Value} {Q : Ending → World → Prop} (h : ∀ G', (∀ k, G k → G' k) → On w wr aa L G' → Calls Tryd.prog i avs wr fun e w' => Q e w' ∧ On w w' aa L1 G' ∧ Stay G' wr w') : Calls Tryd.prog i avs wr fun e w' => Q e w' ∧ OnRow w w0 w' aa L1 G v xs := by
  obtain ⟨H, O, hv⟩ := T.ex
  refine (h _ (fun k hk => .inl hk) O).mono ?_
  rintro e w' ⟨hq, O', K⟩
  exact ⟨hq, ⟨H, O', hv⟩, row_keeps T.row K (fun k hk hn => hn (.inr (hv k hk).1)), T.stay.trans (K.mono (fun k hk => .inl hk))⟩
/-- One more behind it. -/
theorem OnRow.append (T : OnRow w w0 wr aa L G v xs) {o : Obj} {x : Int} {v' : Value} (hown : w'.ownsRow w.heap.size 3 1 v' (xs.length + 1) (xs.map (Value.int .i64) ++ [.int .i64 x])) (hg : (wr.alloc o).grownBy w' v.ownBlock) (hat : v'.ownBlock = v.ownBlock ∨ v'.ownBlock = some (wr.alloc o).heap.size) : ∃ p c, v' = .slice p (xs.length + 1) c ∧ OnRow w w0 w' aa L G (.slice p (xs ++ [x]).length c) (xs ++ [x]) := by
  obtain ⟨p, c, rfl⟩ := row_slice hown
  obtain ⟨H, O, hv⟩ := T.ex
  have O2 := O.alloc o
  have hlen : (xs ++ [x]).length = xs.length + 1 := by simp
  have hK : Keeps (fun k => v.ownBlock = some k) (wr.alloc o) w' := Keeps.of_grown hg (fun k hk => hk)
  have O3 := O2.more (P := fun k => k = (wr.alloc o).heap.size ∧ k < w'.heap.size) hK (fun k hk => .inl ⟨.inr (hv k hk).1, (row_base T.row hk).1⟩) (fun k hk => ⟨by omega, hk.2⟩)
  refine ⟨p, c, rfl, ⟨fun k => H k ∨ (k = (wr.alloc o).heap.size ∧ k < w'.heap.size), O3.mono (fun k hk => ?_), fun k hk => ?_⟩, ?_, ?_⟩
  · rcases hk with h | h | h
    · exact .inl (.inl h)
    · exact .inl (.inr h)
    · exact .inr h
  · rw [hlen] at hk
    have hlt := (row_base hown hk).2
    rcases hat with h | h
    · rw [h] at hk
      exact ⟨.inl (hv k hk).1, (hv k hk).2⟩
    · rw [h] at hk
      cases hk
      exact ⟨.inr ⟨rfl, hlt⟩, fun hg => by have := O.lt _ (.inl hg); simp at this; omega⟩
  · rw [hlen, List.map_append]
    exact hown
  · exact T.stay.trans ((stay_below ((Below.refl _ wr).alloc (Nat.le_refl _) o)).trans (hK.mono (fun k _ hk hgk => (hv k hk).2 hgk)))
end
/-! parts.Are -/
section
attribute [local go_sem ↓] Go.wp_at_zero Go.wp_at_succ
variable {w wr w' : World} {aa bb : Nat} {L L' L1 : List Tm} {G G' : Nat → Prop}
def allIn (L : List Tm) (xs : List Int) : Prop := ∀ x ∈ xs, 0 ≤ x ∧ x < (L.length : Int)
instance (L : List Tm) (xs : List Int) : Decidable (allIn L xs) := inferInstanceAs (Decidable (∀ x ∈ xs, 0 ≤ x ∧ x < (L.length : Int)))
set_option maxHeartbeats 1000000 in
theorem are_nil (p : Option Addr) (c : Nat) : Calls Tryd.prog 31 #[.pointer (some ⟨aa, 0, none⟩), .slice p 0 c] wr fun e w' => e = .returned (.bool true) ∧ w' = wr := by
  go_enter Tryd.func31, Tryd.ntmps31
  go_wp2
  go_loopw [9] (fun i wq => i = .int .i64 0 ∧ wq = wr) (fun _ _ => 0)
  case atStart => exact ⟨rfl, rfl⟩
  case round =>
    obtain ⟨rfl, rfl⟩ := hrel
    go_wp2
    go_ret
    exact ⟨rfl, rfl⟩
set_option maxHeartbeats 4000000 in
theorem are_some (T : Hid (On w wr aa L G)) (b o c n : Nat) (xs : List Int) (hx : xs.length = n) (hn : n ≤ 100000) (HC : Hid (∀ t, t < n → wr.cell? ⟨b, o + t, none⟩ = some (.int .i64 (xs.getD t 0)))) : Calls Tryd.prog 31 #[.pointer (some ⟨aa, 0, none⟩), .slice (some ⟨b, o, none⟩) n c] wr fun e w' => e = .returned (.bool (decide (allIn L xs))) ∧ w' = wr := by
  go_enter Tryd.func31, Tryd.ntmps31
  go_wp2
  go_loopw [9] (fun i wq => ∃ j : Nat, j ≤ n ∧ i = .int .i64 j ∧ (∀ t, t < j → 0 ≤ xs.getD t 0 ∧ xs.getD t 0 < (L.length : Int)) ∧ wq = wr) (fun i _ => n - (intOf i).toNat)
  case atStart => exact ⟨0, by omega, rfl, fun t h => by omega, rfl⟩
  case round =>
    obtain ⟨j, hj, rfl, hall, rfl⟩ := hrel
    have HE := (show Hid _ from hall)
    clear hall
    by_cases hlt : j < n
    · have c1 := HC.out j hlt
      have hmem : xs.getD j 0 ∈ xs := by rw [List.getD_eq_getElem?_getD, List.getElem?_eq_getElem (by omega)]; exact List.getElem_mem _
      generalize hx1 : xs.getD j 0 = x at c1 hmem
      have HX := (show Hid _ from hx1)
      have HM := (show Hid _ from hmem)
      clear hx1 hmem
      by_cases h0 : x < 0
      · have hd : decide (x < 0) = true := decide_eq_true h0
        go_wp2_with (go_at_call 41; refine (len_on T.out).mono ?_; rintro ev w' ⟨rfl, rfl⟩)
        go_ret
        rw [decide_eq_false (fun h => by have := (h x HM.out).1; omega)]
        exact ⟨rfl, rfl⟩
      · have hd : decide (x < 0) = false := decide_eq_false h0
        by_cases h1 : (L.length : Int) ≤ x
        · have hd2 : decide ((L.length : Int) ≤ x) = true := decide_eq_true h1
          go_wp2_with (go_at_call 41; refine (len_on T.out).mono ?_; rintro ev w' ⟨rfl, rfl⟩)
          go_ret
          rw [decide_eq_false (fun h => by have := (h x HM.out).2; omega)]
          exact ⟨rfl, rfl⟩
        · have hd2 : decide ((L.length : Int) ≤ x) = false := decide_eq_false h1
          go_wp2_with (go_at_call 41; refine (len_on T.out).mono ?_; rintro ev w' ⟨rfl, rfl⟩)
          refine ⟨⟨j + 1, by omega, by simp, fun t ht => ?_, trivial⟩, by simp [intOf]; omega⟩
          rcases Nat.lt_or_ge t j with h | h
          · exact HE.out t h
          · obtain rfl : t = j := by omega
            rw [HX.out]
            omega
    · go_wp2
      go_ret
      obtain rfl : j = n := by omega
      have hd : decide (allIn L xs) = true := decide_eq_true (fun x hx' => by
        obtain ⟨t, ht, rfl⟩ := List.getElem_of_mem hx'
        have := HE.out t (by omega)
        rwa [List.getD_eq_getElem?_getD, List.getElem?_eq_getElem ht] at this)
      rw [hd]
      exact ⟨rfl, rfl⟩
theorem are_on (T : On w wr aa L G) {v : Value} {xs : List Int} (h : RdW wr v xs) (hn : xs.length ≤ 100000) : Calls Tryd.prog 31 #[.pointer (some ⟨aa, 0, none⟩), v] wr fun e w' => e = .returned (.bool (decide (allIn L xs))) ∧ w' = wr := by
  obtain ⟨p, c, rfl, rfl | ⟨b, o, rfl, hb, hc⟩⟩ := h
  · refine (are_nil p c).mono ?_
    rintro e w' ⟨rfl, rfl⟩
    exact ⟨by simp [allIn], rfl⟩
  · exact are_some T b o c _ xs rfl hn hc
end
end Go.Proofs.YtenllpaochcjfaaDoor
