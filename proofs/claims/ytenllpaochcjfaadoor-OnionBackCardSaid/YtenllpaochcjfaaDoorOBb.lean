/-
  ONION: parts.Writer with no error, IsPub. Own work.
-/
import Derived.Test.YtenllpaochcjfaaDoorOBa
namespace Go.Proofs.YtenllpaochcjfaaDoor
open Go.ChangeShapes Go.WideShapes Go.ChangeAt Go.RowKit Go.Maps
set_option maxRecDepth 100000
attribute [local go_sem ↓] Go.wp_at_zero Go.wp_at_succ
/-- A writer that met no error. -/
structure Wr (wq : World) (wb aa : Nat) : Prop where
  c0 : wq.cell? ⟨wb, 0, none⟩ = some (.pointer (some ⟨aa, 0, none⟩))
  c1 : wq.cell? ⟨wb, 1, none⟩ = some .nilIface
  f1 : wq.frozen? ⟨wb, 1, none⟩ = false
  lt : wb < wq.heap.size
section
variable {w ws w' : World} {aa wb : Nat} {L L1 : List Tm} {G : Nat → Prop}
theorem Wr.keep {F : Nat → Prop} (T : Wr ws wb aa) (K : Keeps F ws w') (hn : ¬ F wb) : Wr w' wb aa :=
  ⟨(K.cell (p := ⟨wb, 0, none⟩) T.lt hn).trans T.c0, (K.cell (p := ⟨wb, 1, none⟩) T.lt hn).trans T.c1, (K.frozen (p := ⟨wb, 1, none⟩) T.lt hn).trans T.f1, Nat.lt_of_lt_of_le T.lt K.size⟩
theorem Wr.below (T : Wr ws wb aa) (B : Below ws.heap.size ws w') : Wr w' wb aa := T.keep (Keeps.of_below (F := fun _ => False) B) (fun h => h)
set_option maxHeartbeats 4000000 in
theorem ispub_ok (T : On w ws aa L G) {i : Nat} {n : Int} {xs : List Int} (hi : L[i]? = some (5, n, xs)) : Calls Tryd.prog 32 #[.pointer (some ⟨aa, 0, none⟩), .int .i64 i] ws fun e w' => e = .returned (.bool true) ∧ Below ws.heap.size ws w' := by
  have HT := (show Hid _ from T)
  have HI := (show Hid _ from hi)
  clear T hi
  go_enter Tryd.func32, Tryd.ntmps32
  go_wp2_with (go_at_call 52; refine (node_on HT.out HI.out).mono ?_; rintro ev w1 ⟨p, c, rfl, hown, B1⟩; have HB := (show Hid _ from B1); clear hown B1)
  go_ret
  have hB := (Below.refl w1.heap.size w1).alloc (Nat.le_refl _) (.cells #[.int .i64 5, .int .i64 n, .slice p xs.length c] 79)
  exact ⟨rfl, HB.out.trans (hB.mono HB.out.size)⟩
set_option maxHeartbeats 4000000 in
theorem faultOf_ok (p : Value) : Calls Tryd.prog 61 #[p, .int .i64 0] ws fun e w' => e = .returned .nilIface ∧ w' = ws := by
  go_enter Tryd.func61, Tryd.ntmps61
  go_wp2
  go_ret
  exact ⟨rfl, rfl⟩
set_option maxHeartbeats 8000000 in
theorem put_w (T : Hid (On w ws aa L G)) (W : Hid (Wr ws wb aa)) (hG : G wb) (hw : w.heap.size ≤ wb) {v : Value} {xs : List Int} {k n : Int} {i : Nat} (hv : Hid (Reads ws v xs)) (hn : n < 9223372036854775808) (M : Hid (MkT L (k, n, xs) i L1)) : Calls Tryd.prog 54 #[.pointer (some ⟨wb, 0, none⟩), .int .i64 k, .int .i64 n, v] ws fun e w' => e = .returned (.int .i64 i) ∧ On w w' aa L1 G ∧ Wr w' wb aa ∧ Stay (fun k => G k ∧ k ≠ wb) ws w' := by
  have c0 := W.out.c0
  have c1 := W.out.c1
  have hlt := W.out.lt
  go_enter Tryd.func54, Tryd.ntmps54
  go_wp2_with (first
    | (go_at_call 26; refine (make_on T.out k n hv.out hn M.out.put).mono ?_; rintro ev w1 ⟨rfl, T1, K1⟩; have W1 := W.out.keep K1 (fun h => h hG); have d1 := W1.c1; have q1 := W1.f1; have hl1 := W1.lt; have HT1 := (show Hid _ from T1); have HK1 := (show Hid _ from K1); have HW1 := (show Hid (Wr w1 wb aa) from W1); clear T1 K1 W1 c0 c1)
    | (go_at_call 61; refine (faultOf_ok _).mono ?_; rintro ev w1 ⟨rfl, rfl⟩))
  have hK2 : Keeps (fun k => k = wb) w1 (w1.setCell ⟨wb, 1, none⟩ .nilIface) := Keeps.of_grown (put_grown w1 ⟨wb, 1, none⟩ .nilIface) (fun k hk => by cases hk; rfl)
  go_ret
  refine ⟨rfl, HT1.out.own hK2 (fun k hk => .inl ⟨by rw [hk]; exact hG, by omega⟩), ⟨?_, ?_, ?_, ?_⟩, ?_⟩
  · simpa [go_sem] using HW1.out.c0
  · simp [go_sem, d1]
  · simpa [go_sem] using q1
  · simpa using hl1
  · exact Stay.trans (Stay.mono (G' := fun k => G k ∧ k ≠ wb) HK1.out (fun k hk => hk.1)) (Keeps.mono (G := fun k => ¬ (G k ∧ k ≠ wb)) hK2 (fun k _ hk h => h.2 hk))
set_option maxHeartbeats 4000000 in
theorem kdf_w (T : Hid (On w ws aa L G)) (W : Hid (Wr ws wb aa)) (hG : G wb) (hw : w.heap.size ≤ wb) {x i : Nat} {n : Int} (hn : n < 9223372036854775808) (M : Hid (MkT L (4, n, [(x : Int)]) i L1)) : Calls Tryd.prog 53 #[.pointer (some ⟨wb, 0, none⟩), .int .i64 x, .int .i64 n] ws fun e w' => e = .returned (.int .i64 i) ∧ On w w' aa L1 G ∧ Wr w' wb aa ∧ Stay (fun k => G k ∧ k ≠ wb) ws w' := by
  have B := (Below.refl _ ws).alloc (Nat.le_refl _) (.cells #[.int .i64 (x : Int)] 3)
  go_enter Tryd.func53, Tryd.ntmps53
  go_wp2_with (go_at_call 54; refine (put_w (show Hid _ from T.out.alloc _) (show Hid _ from W.out.below B) hG hw (show Hid _ from reads_lit [(x : Int)] rfl rfl _) hn M).mono ?_; rintro ev w1 ⟨rfl, T1, W1, K1⟩)
  go_ret
  exact ⟨rfl, T1, W1, (stay_below B).trans K1⟩
end
end Go.Proofs.YtenllpaochcjfaaDoor
