/-
  THE PROGRAM'S ARENA, alone: rows of numbers that come in, one's own blocks beside it, terms made by letters. Own work.
-/
import Derived.Test.YtenllpaochcjfaaTL
import Derived.Maps.AppendAt
import Derived.Deep.QuietTactic
import Derived.BigQuiet
import Derived.Deep.AppendLies
import Derived.Deep.RegionHeld3
namespace Go.Proofs.Ytenllpaochcjfaa
open Go.RowKit Go.Maps
set_option maxRecDepth 100000
attribute [local go_sem ↓] Go.wp_at_zero Go.wp_at_succ
/-- Numbers in memory, at whatever place. -/
def RdW (w : World) (v : Value) (xs : List Int) : Prop :=
  ∃ p c, v = .slice p xs.length c ∧ (xs = [] ∨ ∃ b o, p = some ⟨b, o, none⟩ ∧ b < w.heap.size ∧ ∀ t, t < xs.length → w.cell? ⟨b, o + t, none⟩ = some (.int .i64 (xs.getD t 0)))
/-- A slice that is nil has no room. -/
def NilCap (v : Value) : Prop := ∀ c, v = .slice none 0 c → c = 0
theorem Reads.rdw {w : World} {v : Value} {xs : List Int} (h : Reads w v xs) : RdW w v xs := by
  rcases h with ⟨rfl, rfl⟩ | ⟨b, o, c, rfl, hb, hc⟩
  · exact ⟨none, 0, rfl, .inl rfl⟩
  · exact ⟨_, c, rfl, .inr ⟨b, o, rfl, hb, hc⟩⟩
theorem below_drewN {B : Nat} {w w' : World} (h : Below B w w') (n : Nat) : Below B w (w'.drewN n) := ⟨h.os, h.tape, h.output, h.size, h.block⟩
section
variable {w wr w' : World} {aa bb : Nat} {L L' L1 : List Tm} {G G' H : Nat → Prop} {u v : Value} {xs ys : List Int}
theorem rdw_keeps {F : Nat → Prop} (h : RdW w u xs) (hK : Keeps F w w') (hn : ∀ k, u.ownBlock = some k → xs ≠ [] → ¬ F k) : RdW w' u xs := by
  obtain ⟨p, c, rfl, h | ⟨b, o, rfl, hb, hc⟩⟩ := h
  · exact ⟨p, c, rfl, .inl h⟩
  · by_cases hx : xs = []
    · exact ⟨_, c, rfl, .inl hx⟩
    · exact ⟨_, c, rfl, .inr ⟨b, o, rfl, Nat.lt_of_lt_of_le hb hK.size, fun t ht => (hK.cell (p := ⟨b, o + t, none⟩) hb (hn b rfl hx)).trans (hc t ht)⟩⟩
def plc (L : List Tm) (t : Tm) : Nat := if t ∈ L then L.idxOf t else L.length
def ext (L : List Tm) (t : Tm) : List Tm := if t ∈ L then L else L ++ [t]
theorem put_good {L : List Tm} {t : Tm} (h : shape t = 0) (hf : fitsIn L.length t) (hr : L.length < 1048576) : put L t = (((plc L t : Nat) : Int), 0, ext L t) := by
  unfold plc ext
  by_cases hin : t ∈ L
  · rw [if_pos hin, if_pos hin, put_in h hf hin]
  · rw [if_neg hin, if_neg hin, put_new h hf hin (by omega)]
theorem plc_at (L : List Tm) (t : Tm) : (ext L t)[plc L t]? = some t := by
  unfold plc ext
  by_cases hin : t ∈ L
  · rw [if_pos hin, if_pos hin]
    have hi := List.idxOf_lt_length_iff.2 hin
    rw [List.getElem?_eq_getElem hi, List.getElem_idxOf]
  · rw [if_neg hin, if_neg hin, List.getElem?_append_right (Nat.le_refl _)]
    simp
theorem ext_le (L : List Tm) (t : Tm) : L.length ≤ (ext L t).length := by
  unfold ext
  split <;> simp
theorem ext_le1 (L : List Tm) (t : Tm) : (ext L t).length ≤ L.length + 1 := by
  unfold ext
  split <;> simp
theorem plc_lt (L : List Tm) (t : Tm) : plc L t < (ext L t).length := (List.getElem?_eq_some_iff.1 (plc_at L t)).1
theorem ext_at {L : List Tm} {i : Nat} {u : Tm} (h : L[i]? = some u) (t : Tm) : (ext L t)[i]? = some u := by
  unfold ext
  split
  · exact h
  · rw [List.getElem?_append_left (List.getElem?_eq_some_iff.1 h).1]
    exact h
structure On (w wr : World) (aa : Nat) (L : List Tm) (G : Nat → Prop) : Prop where
  ex : ∃ Fa : Nat → Prop, Ar wr aa L Fa ∧ (∀ k, Fa k → w.heap.size ≤ k) ∧ (∀ k, G k → ¬ Fa k)
  lt : ∀ k, G k → k < wr.heap.size
  below : Below w.heap.size w wr
/-- What a call leaves: the blocks of G as they are. -/
abbrev Stay (G : Nat → Prop) (wr w' : World) : Prop := Keeps (fun k => ¬ G k) wr w'
theorem Stay.trans {G : Nat → Prop} {a b c : World} (h : Stay G a b) (h' : Stay G b c) : Stay G a c := Keeps.trans h h' (fun _ _ h => h)
theorem stay_below {G : Nat → Prop} {a b : World} (h : Below a.heap.size a b) : Stay G a b := (Keeps.of_below (F := fun _ => False) h).mono (fun _ _ h => h.elim)
theorem Stay.mono {G G' : Nat → Prop} {a b : World} (h : Stay G a b) (hG : ∀ k, G' k → G k) : Stay G' a b := Keeps.mono h (fun k _ hn hg => hn (hG k hg))
theorem On.wf (T : On w wr aa L G) : Wf L := by
  obtain ⟨Fa, A, r⟩ := T.ex
  exact A.wf
theorem On.step (T : On w wr aa L G) (hB : Below wr.heap.size wr w') : On w w' aa L G := by
  obtain ⟨Fa, A, r1, r2⟩ := T.ex
  exact ⟨⟨Fa, A.below hB, r1, r2⟩, fun k hk => Nat.lt_of_lt_of_le (T.lt k hk) hB.size, T.below.trans (hB.mono T.below.size)⟩
theorem On.alloc (T : On w wr aa L G) (o : Obj) : On w (wr.alloc o) aa L G := T.step ((Below.refl _ wr).alloc (Nat.le_refl _) o)
theorem On.mono (T : On w wr aa L G) (hG : ∀ k, G' k → G k) : On w wr aa L G' := by
  obtain ⟨Fa, A, r1, r2⟩ := T.ex
  exact ⟨⟨Fa, A, r1, fun k hk => r2 k (hG k hk)⟩, fun k hk => T.lt k (hG k hk), T.below⟩
/-- What is new joins what is one's own. -/
theorem On.add (T : On w wr aa L G) (hB : Below wr.heap.size wr w') {P : Nat → Prop} (hP : ∀ k, P k → wr.heap.size ≤ k ∧ k < w'.heap.size) : On w w' aa L (fun k => G k ∨ P k) := by
  obtain ⟨Fa, A, r1, r2⟩ := T.ex
  refine ⟨⟨Fa, A.below hB, r1, fun k hk => ?_⟩, fun k hk => ?_, T.below.trans (hB.mono T.below.size)⟩
  · rcases hk with h | h
    · exact r2 k h
    · exact fun hf => by have := A.lt k hf; have := (hP k h).1; omega
  · rcases hk with h | h
    · exact Nat.lt_of_lt_of_le (T.lt k h) hB.size
    · exact (hP k h).2
/-- What is one's own is written. -/
theorem On.own (T : On w wr aa L G) {H : Nat → Prop} (hK : Keeps H wr w') (hH : ∀ k, H k → (G k ∧ w.heap.size ≤ k) ∨ wr.heap.size ≤ k) : On w w' aa L G := by
  obtain ⟨Fa, A, r1, r2⟩ := T.ex
  refine ⟨⟨Fa, A.keeps hK (fun k ha hk => ?_), r1, r2⟩, fun k hk => Nat.lt_of_lt_of_le (T.lt k hk) hK.size, T.below.trans (hK.below T.below.size (fun k hk => ?_))⟩
  · rcases hH k hk with h | h
    · exact r2 k h.1 ha
    · have := A.lt k ha; omega
  · rcases hH k hk with h | h
    · exact h.2
    · have := T.below.size; omega
theorem make_on (T : On w wr aa L G) {v : Value} {xs : List Int} (k n : Int) (hv : Reads wr v xs) (hn : n < 9223372036854775808) {a s : Int} (hp : put L (k, n, xs) = (a, s, L1)) :
    Calls Try.prog 6 #[.pointer (some ⟨aa, 0, none⟩), .int .i64 k, .int .i64 n, v] wr fun e w' => e = .returned (.tuple #[.int .i64 a, .int .i64 s]) ∧ On w w' aa L1 G ∧ Stay G wr w' := by
  obtain ⟨Fa, A, r1, r2⟩ := T.ex
  refine (make_ok A k n hv hn).mono ?_
  rintro e w' ⟨rfl, F', A', K, hF⟩
  rw [hp] at A' ⊢
  refine ⟨rfl, ⟨⟨F', A', fun k hk => ?_, fun k hk h => ?_⟩, fun k hk => Nat.lt_of_lt_of_le (T.lt k hk) K.size, T.below.trans (K.below T.below.size r1)⟩, K.mono (fun k _ hk hg => r2 k hg hk)⟩
  · rcases hF k hk with h | h
    · exact r1 k h
    · have := T.below.size; omega
  · rcases hF k h with h | h
    · exact r2 k hk h
    · have := T.lt k hk; omega
theorem len_on (T : On w wr aa L G) : Calls Try.prog 17 #[.pointer (some ⟨aa, 0, none⟩)] wr fun e w' => e = .returned (.int .i64 L.length) ∧ w' = wr := by
  obtain ⟨Fa, A, r⟩ := T.ex
  exact len_ar A
theorem node_on (T : On w wr aa L G) {i : Nat} {k n : Int} {xs : List Int} (hi : L[i]? = some (k, n, xs)) : Calls Try.prog 26 #[.pointer (some ⟨aa, 0, none⟩), .int .i64 i] wr fun e w' => ∃ p c, e = .returned (.tuple #[.agg #[.int .i64 k, .int .i64 n, .slice p xs.length c], .int .i64 0]) ∧ w'.ownsRow wr.heap.size 3 1 (.slice p xs.length c) xs.length (xs.map (Value.int .i64)) ∧ Below wr.heap.size wr w' := by
  obtain ⟨Fa, A, r⟩ := T.ex
  exact node_at A i _ hi
variable {w0 : World}
/-- What is one's own is written, and more is made. -/
theorem On.more (T : On w wr aa L G) {H P : Nat → Prop} (hK : Keeps H wr w') (hH : ∀ k, H k → (G k ∧ w.heap.size ≤ k) ∨ wr.heap.size ≤ k) (hP : ∀ k, P k → wr.heap.size ≤ k ∧ k < w'.heap.size) : On w w' aa L (fun k => G k ∨ P k) := by
  have T1 := T.own hK hH
  obtain ⟨Fa, A, r1, r2⟩ := T.ex
  refine ⟨⟨Fa, A.keeps hK (fun k ha hk => ?_), r1, fun k hk => ?_⟩, fun k hk => ?_, T1.below⟩
  · rcases hH k hk with h | h
    · exact r2 k h.1 ha
    · have := A.lt k ha; omega
  · rcases hk with h | h
    · exact r2 k h
    · exact fun hf => by have := A.lt k hf; have := (hP k h).1; omega
  · rcases hk with h | h
    · exact T1.lt k h
    · exact (hP k h).2
/-- A row of numbers of one's own beside an arena; w0: where one began, G: what is kept from there on. -/
structure OnRow (w w0 wr : World) (aa : Nat) (L : List Tm) (G : Nat → Prop) (v : Value) (xs : List Int) : Prop where
  ex : ∃ H : Nat → Prop, On w wr aa L (fun k => G k ∨ H k) ∧ (∀ k, v.ownBlock = some k → H k ∧ ¬ G k)
  row : wr.ownsRow w.heap.size 3 1 v xs.length (xs.map (Value.int .i64))
  stay : Stay G w0 wr
theorem OnRow.on (T : OnRow w w0 wr aa L G v xs) : On w wr aa L G := by
  obtain ⟨H, O, _⟩ := T.ex
  exact O.mono (fun k hk => .inl hk)
theorem OnRow.step (T : OnRow w w0 wr aa L G v xs) (hB : Below wr.heap.size wr w') : OnRow w w0 w' aa L G v xs := by
  obtain ⟨H, O, h⟩ := T.ex
  exact ⟨⟨H, O.step hB, h⟩, row_keeps (F := fun _ => False) T.row (Keeps.of_below hB) (fun _ _ h => h), T.stay.trans (stay_below hB)⟩
theorem OnRow.alloc (T : OnRow w w0 wr aa L G v xs) (o : Obj) : OnRow w w0 (wr.alloc o) aa L G v xs := T.step ((Below.refl _ wr).alloc (Nat.le_refl _) o)
theorem OnRow.reads (T : OnRow w w0 wr aa L G v xs) : Reads wr v xs := (irow_of T.row).reads
/-- None yet. -/
theorem On.row0 (T : On w wr aa L G) : OnRow w wr wr aa L G (.slice none 0 0) [] := ⟨⟨fun _ => False, T.mono (fun k hk => hk.elim id False.elim), fun k h => by simp [Value.ownBlock] at h⟩, World.ownsRow_nil _ _ _ _, Keeps.refl _ _⟩
/-- A row that was just made. -/
theorem On.withRow (T : On w wr aa L G) (hB : Below wr.heap.size wr w') (hown : w'.ownsRow wr.heap.size 3 1 v xs.length (xs.map (Value.int .i64))) : OnRow w wr w' aa L G v xs :=
  ⟨⟨fun k => v.ownBlock = some k, T.add hB (fun k hk => row_base hown hk), fun k hk => ⟨hk, fun hg => by have := T.lt k hg; have := (row_base hown hk).1; omega⟩⟩, row_lower hown T.below.size, stay_below hB⟩
/-- Make, beside a row. -/
theorem OnRow.calls (T : OnRow w w0 wr aa L G v xs) {i : Nat} {avs : Array Value} {Q : Ending → World → Prop} (h : ∀ G', (∀ k, G k → G' k) → On w wr aa L G' → Calls Try.prog i avs wr fun e w' => Q e w' ∧ On w w' aa L1 G' ∧ Stay G' wr w') : Calls Try.prog i avs wr fun e w' => Q e w' ∧ OnRow w w0 w' aa L1 G v xs := by
  obtain ⟨H, O, hv⟩ := T.ex
  refine (h _ (fun k hk => .inl hk) O).mono ?_
  rintro e w' ⟨hq, O', K⟩
  exact ⟨hq, ⟨H, O', hv⟩, row_keeps T.row K (fun k hk hn => hn (.inr (hv k hk).1)), T.stay.trans (K.mono (fun k hk => .inl hk))⟩
/-- One more behind it. -/
theorem OnRow.append (T : OnRow w w0 wr aa L G v xs) {o : Obj} {x : Int} {v' : Value} (hown : w'.ownsRow w.heap.size 3 1 v' (xs.length + 1) (xs.map (Value.int .i64) ++ [.int .i64 x])) (hg : (wr.alloc o).grownBy w' v.ownBlock) (hat : v'.ownBlock = v.ownBlock ∨ v'.ownBlock = some (wr.alloc o).heap.size) : ∃ p c, v' = .slice p (xs.length + 1) c ∧ OnRow w w0 w' aa L G (.slice p (xs ++ [x]).length c) (xs ++ [x]) := by
  obtain ⟨p, c, rfl⟩ := row_slice hown
  obtain ⟨H, O, hv⟩ := T.ex
  have O2 := O.alloc o
  have hlen : (xs ++ [x]).length = xs.length + 1 := by simp
  have hK : Keeps (fun k => v.ownBlock = some k) (wr.alloc o) w' := Keeps.of_grown hg (fun k hk => hk)
  have O3 := O2.more (P := fun k => k = (wr.alloc o).heap.size ∧ k < w'.heap.size) hK (fun k hk => .inl ⟨.inr (hv k hk).1, (row_base T.row hk).1⟩) (fun k hk => ⟨by omega, hk.2⟩)
  refine ⟨p, c, rfl, ⟨fun k => H k ∨ (k = (wr.alloc o).heap.size ∧ k < w'.heap.size), O3.mono (fun k hk => ?_), fun k hk => ?_⟩, ?_, ?_⟩
  · rcases hk with h | h | h
    · exact .inl (.inl h)
    · exact .inl (.inr h)
    · exact .inr h
  · rw [hlen] at hk
    have hlt := (row_base hown hk).2
    rcases hat with h | h
    · rw [h] at hk
      exact ⟨.inl (hv k hk).1, (hv k hk).2⟩
    · rw [h] at hk
      cases hk
      exact ⟨.inr ⟨rfl, hlt⟩, fun hg => by have := O.lt _ (.inl hg); simp at this; omega⟩
  · rw [hlen, List.map_append]
    exact hown
  · exact T.stay.trans ((stay_below ((Below.refl _ wr).alloc (Nat.le_refl _) o)).trans (hK.mono (fun k _ hk hgk => (hv k hk).2 hgk)))
/-- Some more behind it. -/
theorem OnRow.appends (T : OnRow w w0 wr aa L G v xs) {o : Obj} {m : Nat} {v' : Value} (hm : ys.length = m) (hown : w'.ownsRow w.heap.size 3 1 v' (xs.length + m) (xs.map (Value.int .i64) ++ ys.map (Value.int .i64))) (hg : (wr.alloc o).grownBy w' v.ownBlock) (hat : v'.ownBlock = v.ownBlock ∨ v'.ownBlock = some (wr.alloc o).heap.size) : ∃ p c, v' = .slice p (xs.length + m) c ∧ OnRow w w0 w' aa L G (.slice p (xs ++ ys).length c) (xs ++ ys) := by
  subst hm
  obtain ⟨p, c, rfl⟩ := row_slice hown
  obtain ⟨H, O, hv⟩ := T.ex
  have O2 := O.alloc o
  have hlen : (xs ++ ys).length = xs.length + ys.length := by simp
  have hK : Keeps (fun k => v.ownBlock = some k) (wr.alloc o) w' := Keeps.of_grown hg (fun k hk => hk)
  have O3 := O2.more (P := fun k => k = (wr.alloc o).heap.size ∧ k < w'.heap.size) hK (fun k hk => .inl ⟨.inr (hv k hk).1, (row_base T.row hk).1⟩) (fun k hk => ⟨by omega, hk.2⟩)
  refine ⟨p, c, rfl, ⟨fun k => H k ∨ (k = (wr.alloc o).heap.size ∧ k < w'.heap.size), O3.mono (fun k hk => ?_), fun k hk => ?_⟩, ?_, ?_⟩
  · rcases hk with h | h | h
    · exact .inl (.inl h)
    · exact .inl (.inr h)
    · exact .inr h
  · rw [hlen] at hk
    have hlt := (row_base hown hk).2
    rcases hat with h | h
    · rw [h] at hk
      exact ⟨.inl (hv k hk).1, (hv k hk).2⟩
    · rw [h] at hk
      cases hk
      exact ⟨.inr ⟨rfl, hlt⟩, fun hg => by have := O.lt _ (.inl hg); simp at this; omega⟩
  · rw [hlen, List.map_append]
    exact hown
  · exact T.stay.trans ((stay_below ((Below.refl _ wr).alloc (Nat.le_refl _) o)).trans (hK.mono (fun k _ hk hgk => (hv k hk).2 hgk)))
def allIn (L : List Tm) (xs : List Int) : Prop := ∀ x ∈ xs, 0 ≤ x ∧ x < (L.length : Int)
instance (L : List Tm) (xs : List Int) : Decidable (allIn L xs) := inferInstanceAs (Decidable (∀ x ∈ xs, 0 ≤ x ∧ x < (L.length : Int)))
set_option maxHeartbeats 1000000 in
theorem are_nil (p : Option Addr) (c : Nat) : Calls Try.prog 15 #[.pointer (some ⟨aa, 0, none⟩), .slice p 0 c] wr fun e w' => e = .returned (.bool true) ∧ w' = wr := by
  go_enter Try.func15, Try.ntmps15
  go_wp2
  go_loopw [9] (fun i wq => i = .int .i64 0 ∧ wq = wr) (fun _ _ => 0)
  case atStart => exact ⟨rfl, rfl⟩
  case round =>
    obtain ⟨rfl, rfl⟩ := hrel
    go_wp2
    go_ret
    exact ⟨rfl, rfl⟩
set_option maxHeartbeats 4000000 in
theorem are_some (T : Hid (On w wr aa L G)) (b o c n : Nat) (xs : List Int) (hx : xs.length = n) (hn : n ≤ 100000) (HC : Hid (∀ t, t < n → wr.cell? ⟨b, o + t, none⟩ = some (.int .i64 (xs.getD t 0)))) : Calls Try.prog 15 #[.pointer (some ⟨aa, 0, none⟩), .slice (some ⟨b, o, none⟩) n c] wr fun e w' => e = .returned (.bool (decide (allIn L xs))) ∧ w' = wr := by
  go_enter Try.func15, Try.ntmps15
  go_wp2
  go_loopw [9] (fun i wq => ∃ j : Nat, j ≤ n ∧ i = .int .i64 j ∧ (∀ t, t < j → 0 ≤ xs.getD t 0 ∧ xs.getD t 0 < (L.length : Int)) ∧ wq = wr) (fun i _ => n - (intOf i).toNat)
  case atStart => exact ⟨0, by omega, rfl, fun t h => by omega, rfl⟩
  case round =>
    obtain ⟨j, hj, rfl, hall, rfl⟩ := hrel
    have HE := (show Hid _ from hall)
    clear hall
    by_cases hlt : j < n
    · have c1 := HC.out j hlt
      have hmem : xs.getD j 0 ∈ xs := by rw [List.getD_eq_getElem?_getD, List.getElem?_eq_getElem (by omega)]; exact List.getElem_mem _
      generalize hx1 : xs.getD j 0 = x at c1 hmem
      have HX := (show Hid _ from hx1)
      have HM := (show Hid _ from hmem)
      clear hx1 hmem
      by_cases h0 : x < 0
      · have hd : decide (x < 0) = true := decide_eq_true h0
        go_wp2_with (go_at_call 17; refine (len_on T.out).mono ?_; rintro ev w' ⟨rfl, rfl⟩)
        go_ret
        rw [decide_eq_false (fun h => by have := (h x HM.out).1; omega)]
        exact ⟨rfl, rfl⟩
      · have hd : decide (x < 0) = false := decide_eq_false h0
        by_cases h1 : (L.length : Int) ≤ x
        · have hd2 : decide ((L.length : Int) ≤ x) = true := decide_eq_true h1
          go_wp2_with (go_at_call 17; refine (len_on T.out).mono ?_; rintro ev w' ⟨rfl, rfl⟩)
          go_ret
          rw [decide_eq_false (fun h => by have := (h x HM.out).2; omega)]
          exact ⟨rfl, rfl⟩
        · have hd2 : decide ((L.length : Int) ≤ x) = false := decide_eq_false h1
          go_wp2_with (go_at_call 17; refine (len_on T.out).mono ?_; rintro ev w' ⟨rfl, rfl⟩)
          refine ⟨⟨j + 1, by omega, by simp, fun t ht => ?_, trivial⟩, by simp [intOf]; omega⟩
          rcases Nat.lt_or_ge t j with h | h
          · exact HE.out t h
          · obtain rfl : t = j := by omega
            rw [HX.out]
            omega
    · go_wp2
      go_ret
      obtain rfl : j = n := by omega
      have hd : decide (allIn L xs) = true := decide_eq_true (fun x hx' => by
        obtain ⟨t, ht, rfl⟩ := List.getElem_of_mem hx'
        have := HE.out t (by omega)
        rwa [List.getD_eq_getElem?_getD, List.getElem?_eq_getElem ht] at this)
      rw [hd]
      exact ⟨rfl, rfl⟩
theorem are_on (T : On w wr aa L G) {v : Value} {xs : List Int} (h : RdW wr v xs) (hn : xs.length ≤ 100000) : Calls Try.prog 15 #[.pointer (some ⟨aa, 0, none⟩), v] wr fun e w' => e = .returned (.bool (decide (allIn L xs))) ∧ w' = wr := by
  obtain ⟨p, c, rfl, rfl | ⟨b, o, rfl, hb, hc⟩⟩ := h
  · refine (are_nil p c).mono ?_
    rintro e w' ⟨rfl, rfl⟩
    exact ⟨by simp [allIn], rfl⟩
  · exact are_some T b o c _ xs rfl hn hc
end
theorem on_fresh {w w' : World} {aa : Nat} {Fa : Nat → Prop} (A : Ar w' aa [] Fa) (h : ∀ k, Fa k → w.heap.size ≤ k) (hB : Below w.heap.size w w') : On w w' aa [] (fun _ => False) := ⟨⟨Fa, A, h, fun _ h => h.elim⟩, fun _ h => h.elim, hB⟩
/-- A term made. -/
structure MkT (L : List Tm) (t : Tm) (i : Nat) (L' : List Tm) : Prop where
  put : put L t = ((i : Int), 0, L')
  at' : L'[i]? = some t
  keep : ∀ (j : Nat) (u : Tm), L[j]? = some u → L'[j]? = some u
  le : L.length ≤ L'.length
  le1 : L'.length ≤ L.length + 1
  cov : ∀ j, j < L'.length → j < L.length ∨ j = i
theorem mk_ex {L : List Tm} {t : Tm} (h : shape t = 0) (hf : fitsIn L.length t) (hr : L.length < 1048576) : ∃ i L', MkT L t i L' := by
  refine ⟨plc L t, ext L t, put_good h hf hr, plc_at L t, fun j u hu => ext_at hu t, ext_le L t, ext_le1 L t, fun j hj => ?_⟩
  unfold plc ext at *
  split
  · rename_i h1
    rw [if_pos h1] at hj
    exact .inl hj
  · rename_i h1
    rw [if_neg h1] at hj
    simp at hj
    omega
theorem sh_atom (n : Int) (h : 0 ≤ n) : shape (1, n, []) = 0 := by
  unfold shape rightOf leastOf mostOf
  simp
  omega
theorem sh_pub (x : Int) : shape (5, 0, [x]) = 0 := by
  unfold shape rightOf leastOf mostOf
  simp
theorem sh_seal (x : Int) (xs : List Int) (h : xs.length ≤ 300) : shape (6, 0, x :: xs) = 0 := by
  unfold shape rightOf leastOf mostOf
  simp
  omega
theorem sh_box (x y z : Int) : shape (7, 0, [x, y, z]) = 0 := by
  unfold shape rightOf leastOf mostOf
  simp
theorem sh_list (xs : List Int) (h : xs.length ≤ 300) : shape (9, 0, xs) = 0 := by
  unfold shape rightOf leastOf mostOf
  simp
  omega
theorem sh_word (n : Int) (h : 0 ≤ n) : shape (2, n, []) = 0 := by
  unfold shape rightOf leastOf mostOf
  simp
  omega
theorem sh_kdf (n x : Int) (h : 0 ≤ n) : shape (4, n, [x]) = 0 := by
  unfold shape rightOf leastOf mostOf
  simp
  omega
theorem sh_hash (xs : List Int) (h : xs.length ≤ 400) : shape (3, 0, xs) = 0 := by
  unfold shape rightOf leastOf mostOf
  simp
  omega
theorem rdw_pos {w : World} {p : Option Addr} {n c t : Nat} {xs : List Int} (h : RdW w (.slice p n c) xs) (ht : t < xs.length) : ∃ b o, p = some ⟨b, o, none⟩ ∧ b < w.heap.size ∧ w.cell? ⟨b, o + t, none⟩ = some (.int .i64 (xs.getD t 0)) := by
  obtain ⟨p', c', e, rfl | ⟨b, o, rfl, hb, hc⟩⟩ := h
  · exact absurd ht (Nat.not_lt_zero _)
  · cases e
    exact ⟨b, o, rfl, hb, hc t ht⟩
theorem same_at {L : List Tm} {x : Nat} {s t : Tm} (h1 : L[x]? = some s) (h2 : L[x]? = some t) : s = t := Option.some.inj (h1.symm.trans h2)
end Go.Proofs.Ytenllpaochcjfaa
