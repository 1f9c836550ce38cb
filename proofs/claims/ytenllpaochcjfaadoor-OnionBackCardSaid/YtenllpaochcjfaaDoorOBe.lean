/-
  ONION: two rows beside an arena; the law's own wakes. Own work.
-/
import Derived.Test.YtenllpaochcjfaaDoorOBd
namespace Go.Proofs.YtenllpaochcjfaaDoor
open Go.ChangeShapes Go.WideShapes Go.ChangeAt Go.RowKit Go.Maps Go.Deep
set_option maxRecDepth 100000
structure Rw2 (w wr : World) (aa : Nat) (L : List Tm) (v : Value) (xs : List Int) (u : Value) (ys : List Int) : Prop where
  ex : ∃ H : Nat → Prop, On w wr aa L H ∧ (∀ k, v.ownBlock = some k → H k) ∧ (∀ k, u.ownBlock = some k → H k)
  r1 : wr.ownsRow w.heap.size 3 1 v xs.length (xs.map (Value.int .i64))
  r2 : wr.ownsRow w.heap.size 3 1 u ys.length (ys.map (Value.int .i64))
  ne : ∀ k, v.ownBlock = some k → u.ownBlock ≠ some k
section
variable {w wr w' : World} {aa : Nat} {L L1 : List Tm} {u v : Value} {xs ys : List Int}
theorem Rw2.on (T : Rw2 w wr aa L v xs u ys) : On w wr aa L (fun k => v.ownBlock = some k ∨ u.ownBlock = some k) := by
  obtain ⟨H, O, h1, h2⟩ := T.ex
  exact O.mono (fun k hk => hk.elim (h1 k) (h2 k))
theorem Rw2.swap (T : Rw2 w wr aa L v xs u ys) : Rw2 w wr aa L u ys v xs := by
  obtain ⟨H, O, h1, h2⟩ := T.ex
  exact ⟨⟨H, O, h2, h1⟩, T.r2, T.r1, fun k hk hk2 => T.ne k hk2 hk⟩
theorem Rw2.start {G : Nat → Prop} (T : On w wr aa L G) : Rw2 w wr aa L (.slice none 0 0) [] (.slice none 0 0) [] :=
  ⟨⟨G, T, fun k h => by simp [Value.ownBlock] at h, fun k h => by simp [Value.ownBlock] at h⟩, World.ownsRow_nil _ _ _ _, World.ownsRow_nil _ _ _ _, fun k h => by simp [Value.ownBlock] at h⟩
theorem Rw2.step (T : Rw2 w wr aa L v xs u ys) (hB : Below wr.heap.size wr w') : Rw2 w w' aa L v xs u ys := by
  obtain ⟨H, O, h1, h2⟩ := T.ex
  exact ⟨⟨H, O.step hB, h1, h2⟩, row_keeps (F := fun _ => False) T.r1 (Keeps.of_below hB) (fun _ _ h => h), row_keeps (F := fun _ => False) T.r2 (Keeps.of_below hB) (fun _ _ h => h), T.ne⟩
theorem Rw2.calls (T : Rw2 w wr aa L v xs u ys) {i : Nat} {avs : Array Value} {Q : Ending → World → Prop} (h : ∀ G', On w wr aa L G' → Calls Tryd.prog i avs wr fun e w' => Q e w' ∧ On w w' aa L1 G' ∧ Stay G' wr w') : Calls Tryd.prog i avs wr fun e w' => Q e w' ∧ Rw2 w w' aa L1 v xs u ys := by
  obtain ⟨H, O, h1, h2⟩ := T.ex
  refine (h _ O).mono ?_
  rintro e w' ⟨hq, O', K⟩
  exact ⟨hq, ⟨H, O', h1, h2⟩, row_keeps T.r1 K (fun k hk hn => hn (h1 k hk)), row_keeps T.r2 K (fun k hk hn => hn (h2 k hk)), T.ne⟩
theorem Rw2.app (T : Rw2 w wr aa L v xs u ys) {o : Obj} {x : Int} {v' : Value} (hown : w'.ownsRow w.heap.size 3 1 v' (xs.length + 1) (xs.map (Value.int .i64) ++ [.int .i64 x])) (hg : (wr.alloc o).grownBy w' v.ownBlock) (hat : v'.ownBlock = v.ownBlock ∨ v'.ownBlock = some (wr.alloc o).heap.size) : ∃ p c, v' = .slice p (xs.length + 1) c ∧ Rw2 w w' aa L (.slice p (xs ++ [x]).length c) (xs ++ [x]) u ys := by
  obtain ⟨p, c, rfl⟩ := row_slice hown
  obtain ⟨H, O, h1, h2⟩ := T.ex
  have O2 := O.alloc o
  have hlen : (xs ++ [x]).length = xs.length + 1 := by simp
  have hA := (Below.refl _ wr).alloc (Nat.le_refl _) o
  have hK : Keeps (fun k => v.ownBlock = some k) (wr.alloc o) w' := Keeps.of_grown hg (fun k hk => hk)
  have O3 := O2.more (P := fun k => k = (wr.alloc o).heap.size ∧ k < w'.heap.size) hK (fun k hk => .inl ⟨h1 k hk, (row_base T.r1 hk).1⟩) (fun k hk => ⟨by omega, hk.2⟩)
  refine ⟨p, c, rfl, ⟨_, O3, fun k hk => ?_, fun k hk => .inl (h2 k hk)⟩, ?_, row_keeps (row_keeps (F := fun _ => False) T.r2 (Keeps.of_below hA) (fun _ _ h => h)) hK (fun k hk hk2 => T.ne k hk2 hk), fun k hk hk2 => ?_⟩
  · rw [hlen] at hk
    have hlt := (row_base hown hk).2
    rcases hat with h | h
    · rw [h] at hk
      exact .inl (h1 k hk)
    · rw [h] at hk
      cases hk
      exact .inr ⟨rfl, hlt⟩
  · rw [hlen, List.map_append]
    exact hown
  · rw [hlen] at hk
    have hl := (row_base T.r2 hk2).2
    rcases hat with h | h
    · rw [h] at hk
      exact T.ne k hk hk2
    · rw [h] at hk
      cases hk
      simp at hl
      omega
end
theorem on_fresh {w w' : World} {aa : Nat} {Fa : Nat → Prop} (A : Ar w' aa [] Fa) (h : ∀ k, Fa k → w.heap.size ≤ k) (hB : Below w.heap.size w w') : On w w' aa [] (fun _ => False) := ⟨⟨Fa, A, h, fun _ h => h.elim⟩, fun _ h => h.elim, hB⟩
attribute [local go_sem ↓] Go.wp_at_zero Go.wp_at_succ
def woL : List Tm := [(1, 1, []), (5, 0, [0]), (2, 5, [])]
theorem wo0 : put [] (1, 1, []) = (0, 0, [(1, 1, [])]) := by decide +kernel
theorem wo1 : put [(1, 1, [])] (5, 0, [0]) = (1, 0, [(1, 1, []), (5, 0, [0])]) := by decide +kernel
theorem wo2 : put [(1, 1, []), (5, 0, [0])] (2, 5, []) = (2, 0, woL) := by decide +kernel
set_option maxHeartbeats 8000000 in
theorem wakes23_ok (ws : World) : Calls Tryd.prog 23 #[] ws fun e w' => e = .returned (.bool true) ∧ Below ws.heap.size ws w' := by
  have HIN := (show Hid (∀ t, t < 3 → ∃ (q : Nat) (xs : List Int), ([1, 1, 1] : List Int)[t]? = some (q : Int) ∧ woL[q]? = some (5, 0, xs)) from fun t ht => by
    have : t = 0 ∨ t = 1 ∨ t = 2 := by omega
    rcases this with rfl | rfl | rfl <;> exact ⟨1, [0], rfl, rfl⟩)
  go_enter Tryd.func23, Tryd.ntmps23
  go_wp2_with (first
    | (go_at_call 27; refine (new_ar _).mono ?_; rintro ev w1 ⟨ab, F0, rfl, A0, hF0, B0⟩; have T0 := on_fresh A0 hF0 B0; clear A0 hF0 B0)
    | (go_at_call 26; refine (make_on T0 1 1 (v := .slice none 0 0) (xs := []) (.inl ⟨rfl, rfl⟩) (by omega) wo0).mono ?_; rintro ev w2 ⟨rfl, T1, _⟩; clear T0)
    | (go_at_call 26; refine (make_on (T1.alloc _) 5 0 (xs := [0]) (reads_lit [0] rfl rfl _) (by omega) wo1).mono ?_; rintro ev w3 ⟨rfl, T2, _⟩; clear T1)
    | (go_at_call 26; refine (make_on T2 2 5 (v := .slice none 0 0) (xs := []) (.inl ⟨rfl, rfl⟩) (by omega) wo2).mono ?_; rintro ev w4 ⟨rfl, T3, _⟩; clear T2)
    | (go_at_call 12
       have T4 := (show Hid (On ws (w4.alloc (.cells #[.int .i64 1, .int .i64 1, .int .i64 1] 3)) ab woL (fun k => False ∨ k = w4.heap.size)) from T3.add ((Below.refl _ w4).alloc (Nat.le_refl _) _) (fun k hk => by simp; omega))
       refine (wrapW_ok (ps := [1, 1, 1]) (sec := 0) (pay := 2) T4 (some ⟨w4.heap.size, 0, none⟩) 3 rfl (show Hid _ from (reads_lit [1, 1, 1] rfl rfl _).rdw) (fun k hk => .inr (by simpa [Value.ownBlock] using hk.symm)) HIN (by simp [woL]) (by simp [woL]) (by simp [woL])).mono ?_
       rintro ev w5 ⟨o, kb, ks, L', rfl, k1, k2, k3, k4, k5, k6, k7⟩
       obtain ⟨k0, e0, p0, b1, kk1, e1, p1, b2, kk2, e2, p2, rfl, l0, l1, l2, q0, q1, q2, _, _, _⟩ := k1.three
       obtain rfl : p0 = 1 := by simp at q0; omega
       have hb1 : ¬ b1 = 2 := fun e => by
         have h2 := k2 2 _ (show woL[2]? = some (2, 5, []) from rfl)
         rw [← e, l1] at h2
         simp at h2
       have hb1I : ¬ (b1 : Int) = 2 := by omega
       obtain ⟨g, hg, _, _, _, hc⟩ := row_open k5 (by simp)
       obtain rfl : kb = g := by simpa using hg
       have x0 : w5.cell? ⟨kb, 0, none⟩ = some (.int .i64 (k0 : Int)) := hc 0 (by simp)
       have HT5 := (show Hid _ from k6)
       have HL0 := (show Hid _ from l0)
       have HP0 := (show Hid (L'[1]? = some (5, 0, [((0 : Nat) : Int)])) from k2 1 _ rfl)
       have h0L : 0 < L'.length := by have : woL.length = 3 := rfl; omega
       have hkl := World.block_lt_of_cell? w5 _ x0
       clear k1 k2 k3 k4 k5 k6 k7 l0 l1 l2 q0 q1 q2 hc hg hb1)
    | (go_at_call 18; refine (peel_ok (s := 0) HT5 HL0 HP0 h0L).mono ?_; rintro ev w6 ⟨rfl, B6⟩; have x6 := (B6.cell (p := ⟨kb, 0, none⟩) hkl).trans x0; have hB6 := HT5.out.below.trans (B6.mono HT5.out.below.size)))
  go_ret
  all_goals exact ⟨by simp [hb1I], hB6⟩
end Go.Proofs.YtenllpaochcjfaaDoor
