/-
  STORE: Save. Own work.
-/
import Derived.Test.YtafpfiadapabaaaDoorSTk
namespace Go.Proofs.YtafpfiadapabaaaDoor
open Go.ChangeShapes Go.WideShapes Go.ChangeAt Go.RowKit Go.Maps Go.Deep
set_option maxRecDepth 100000
attribute [local go_sem ↓] Go.wp_at_zero Go.wp_at_succ
section
variable {w0 w w' : World} {db n : Nat} {d : Dk} {vs vn vw vk : Value} {R : List RowD}
theorem Dsk.rowR (T : Dsk w0 w db n d vs vn vw vk R) {k : Nat} {r : RowD} (h : R[k]? = some r) : r.Holds w0.heap.size w := T.fam.row (5 + k) _ (by rw [List.getElem?_append_right (by simp [Dk.rows])]; simpa [Dk.rows] using h)
theorem Dsk.rowM (T : Dsk w0 w db n d vs vn vw vk R) {r : RowD} (h : r ∈ R) : r.Holds w0.heap.size w := by
  obtain ⟨k, hk⟩ := List.getElem?_of_mem h
  exact T.rowR hk
theorem Dsk.st0 (T : Dsk w0 w db n d vs vn vw vk R) {sb : Nat} {v : Value} (h : stRow sb db v ∈ R) : w.cell? ⟨sb, 0, none⟩ = some (.pointer (some ⟨db, 0, none⟩)) ∧ w.cell? ⟨sb, 1, none⟩ = some v ∧ w.frozen? ⟨sb, 1, none⟩ = false :=
  have r1 : w.ownsRow w0.heap.size 64 2 (.slice (some ⟨sb, 0, none⟩) 1 1) 1 [.pointer (some ⟨db, 0, none⟩), v] := T.rowM (r := stRow sb db v) h
  ⟨World.ownsRow.cellAt r1 0 (by omega), World.ownsRow.cellAt r1 1 (by omega), World.ownsRow.frozenAt r1 1⟩
/-- A new state in the store. -/
theorem Dsk.setSt (T : Dsk w0 w db n d vs vn vw vk R) {sb : Nat} {v v' : Value} (h : stRow sb db v ∈ R) : ∃ R', Dsk w0 (w.setCell ⟨sb, 1, none⟩ v') db n d vs vn vw vk R' ∧ stRow sb db v' ∈ R' ∧ ∀ x ∈ R, x ≠ stRow sb db v → x ∈ R' := by
  obtain ⟨k, hk⟩ := List.getElem?_of_mem h
  have hlt := (List.getElem?_eq_some_iff.1 hk).1
  have r1 : w.ownsRow w0.heap.size 64 2 (.slice (some ⟨sb, 0, none⟩) 1 1) 1 [.pointer (some ⟨db, 0, none⟩), v] := T.rowR (r := stRow sb db v) hk
  obtain ⟨hr, hg⟩ := World.ownsRow.stored r1 1 v'
  have F := T.fam.put (5 + k) (r := stRow sb db v) (r' := stRow sb db v') (by rw [List.getElem?_append_right (by simp [Dk.rows])]; simpa [Dk.rows] using hk) hg hr (fun k hk => .inl hk)
  have e : (d.rows db vs vn vw vk ++ R).set (5 + k) (stRow sb db v') = d.rows db vs vn vw vk ++ R.set k (stRow sb db v') := by
    rw [List.set_append_right _ _ (by simp [Dk.rows])]
    simp [Dk.rows]
  rw [e] at F
  refine ⟨R.set k (stRow sb db v'), ⟨F, T.ok⟩, List.mem_set hlt _, fun x hx hne => ?_⟩
  obtain ⟨i, hi⟩ := List.getElem?_of_mem hx
  have hik : k ≠ i := fun e => by subst e; rw [hi] at hk; exact hne (Option.some.inj hk)
  exact List.mem_of_getElem? (by rw [List.getElem?_set_ne hik]; exact hi)
set_option maxHeartbeats 4000000 in
theorem Save_off (T : Dsk w0 w db n d vs vn vw vk R) (hoff : d.off = true) {sb : Nat} {vst : Value} (hs : stRow sb db vst ∈ R) (v : Value) : Calls Tryd.prog 14 #[.pointer (some ⟨sb, 0, none⟩), v] w fun e w' => e = .returned (.int .i64 9) ∧ w' = w := by
  obtain ⟨c0, c1, f1⟩ := T.st0 hs
  go_enter Tryd.func14, Tryd.ntmps14
  go_wp2_with (go_at_call 18; refine (off_ok T).mono ?_; rintro ev w1 ⟨rfl, rfl⟩; rw [hoff])
  go_ret
  exact ⟨rfl, rfl⟩
set_option maxHeartbeats 4000000 in
theorem Save_len (T : Dsk w0 w db n d vs vn vw vk R) (hoff : d.off = false) {sb : Nat} {vst : Value} (hs : stRow sb db vst ∈ R) (p : Option Addr) (l c : Nat) (hl : 8000 < l) : Calls Tryd.prog 14 #[.pointer (some ⟨sb, 0, none⟩), .slice p l c] w fun e w' => e = .returned (.int .i64 2) ∧ w' = w := by
  obtain ⟨c0, c1, f1⟩ := T.st0 hs
  have hlI : (8000 : Int) < l := by omega
  go_enter Tryd.func14, Tryd.ntmps14
  go_wp2_with (go_at_call 18; refine (off_ok T).mono ?_; rintro ev w1 ⟨rfl, rfl⟩; rw [hoff])
  go_ret
  exact ⟨rfl, rfl⟩
theorem num_err {E : Value} (hE : IsErr E) (hg : w.cell? ⟨0, 0, none⟩ = some eTy) : Calls Tryd.prog 24 #[E] w fun e w' => e = .returned (.int .i64 9) ∧ Below w.heap.size w w' := by
  rcases hE with ⟨b, rfl⟩ | ⟨b, b', rfl⟩
  · exact num_1 (.string b) 9 w hg
  · exact num_2 (.string b) (.string b') 9 w hg
set_option maxHeartbeats 8000000 in
theorem Save_ok (T : Dsk w0 w db n d vs vn vw vk R) (hg : w0.cell? ⟨0, 0, none⟩ = some eTy) (hn : 300 ≤ n) {S S' : List Int} {h0 h1 : Hds} {a c : Nat} (H : Held d.now S h0 h1 a c) (Q : Quiet d) (hS : S'.length ≤ 8000) (hc : c + 1 < 60000) (hm : d.left < 9223372036854775808) {v : Value} (hv : Stays w0 db n R v (S'.map (Value.int .u8))) (hcap : ∀ p n c, v = .slice p n c → n ≤ c) {sb : Nat} {vst : Value} (hs : stRow sb db vst ∈ R) : Calls Tryd.prog 14 #[.pointer (some ⟨sb, 0, none⟩), v] w fun e w' => ∃ (ok : Bool) (d' : Dk) (vs' vn' vw' vk' : Value), Saved S S' a c d d' ok ∧ (ok = true → e = .returned (.int .i64 0) ∧ ∃ R' v', Dsk w0 w' db n d' vs' vn' vw' vk' R' ∧ stRow sb db v' ∈ R' ∧ byteRow v' S' ∈ R' ∧ ∀ x ∈ R, x ≠ stRow sb db vst → x ∈ R') ∧ (ok = false → e = .returned (.int .i64 9) ∧ Dsk w0 w' db n d' vs' vn' vw' vk' R) := by
  obtain ⟨c0, c1, f1⟩ := T.st0 hs
  have hoff := Q.off
  have hlI : ¬ (8000 : Int) < (S'.length : Int) := by omega
  have hne : ∀ x ∈ R, x ≠ stRow sb db vst → x ∈ R := fun x hx _ => hx
  have HS := (show Hid _ from fun w1 (B : Below w.heap.size w w1) => save_ok (T.step B) hn H Q hS hc hm hv hcap)
  obtain ⟨p, cp, rfl⟩ := rdv_shape (hv _ _ _ _ _ _ T)
  rw [List.length_map] at HS ⊢
  have HM := (show Hid _ from hm)
  clear hm hne
  go_enter Tryd.func14, Tryd.ntmps14
  go_wp2_with (go_at_call 18; refine (off_ok T).mono ?_; rintro ev w1 ⟨rfl, rfl⟩; rw [hoff])
  refine (HS.out _ (Below.refl _ _)).mono ?_
  rintro ev w2 ⟨d2, vs2, vn2, vw2, vk2, T2, ok, E, hE, rfl, hsv⟩
  have HSV : Hid (Saved S S' a c d d2 ok) := hsv
  have hc2 : w2.cell? ⟨0, 0, none⟩ = some eTy := (T2.fam.below.cell (p := ⟨0, 0, none⟩) (cell_lt hg)).trans hg
  have HE := (show Hid _ from hE)
  have HC := (show Hid _ from hc2)
  obtain ⟨te, ue, rfl⟩ : ∃ t u, E = .iface t u := by
    rcases hE with ⟨b, rfl⟩ | ⟨b, b', rfl⟩
    · exact ⟨_, _, rfl⟩
    · exact ⟨_, _, rfl⟩
  clear hsv hE hc2 HS hg
  have hnn := neq_nil
  cases ok with
  | false =>
    simp only [Bool.false_eq_true, if_false]
    go_at_K
    go_wp2_with (go_at_call 24; refine (num_err HE.out HC.out).mono ?_; rintro ev w3 ⟨rfl, B3⟩)
    go_ret
    exact ⟨false, d2, vs2, vn2, vw2, vk2, HSV.out, fun h => absurd h (by decide), fun _ => ⟨rfl, T2.step B3⟩⟩
  | true =>
    simp only [if_true]
    go_at_K
    have RV := hv _ _ _ _ _ _ T2
    have HRV : Hid (RdV w2 (.slice p S'.length cp) (S'.map (Value.int .u8))) := by rw [List.length_map] at RV; exact RV
    clear RV
    obtain ⟨d0, d1, g1⟩ := T2.st0 hs
    go_wp2_with (go_at_call 27; refine (cloneB_ok HRV.out (by simp; omega) (one_map _ (fun _ => rfl) _)).mono ?_; rintro ev w4 ⟨v4, rfl, hr4, B4⟩
                 obtain ⟨p4, c4, rfl⟩ := row_slice hr4
                 have T4 := T2.step B4
                 obtain ⟨e0, e1, g4⟩ := T4.st0 hs)
    go_ret
    have hr5 : w4.ownsRow w2.heap.size 5 1 (.slice p4 S'.length c4) S'.length (S'.map (Value.int .u8)) := by simpa using hr4
    have F5 := T2.fam.add (r := byteRow (.slice p4 S'.length c4) S') B4 hr5
    rw [List.append_assoc] at F5
    have T5 : Dsk w0 w4 db n d2 vs2 vn2 vw2 vk2 (R ++ [byteRow (.slice p4 S'.length c4) S']) := ⟨F5, T2.ok⟩
    obtain ⟨R', T6, hs', hk⟩ := T5.setSt (v' := .slice p4 S'.length c4) (List.mem_append.2 (.inl hs))
    exact ⟨true, d2, vs2, vn2, vw2, vk2, HSV.out, fun _ => ⟨rfl, R', _, T6, hs', hk _ (List.mem_append.2 (.inr (List.mem_singleton.2 rfl))) (fun h => absurd (congrArg RowD.size h) (show (1 : Nat) ≠ 2 by decide)), fun x hx hne => hk x (List.mem_append.2 (.inl hx)) hne⟩, fun h => absurd h (by decide)⟩
end
end Go.Proofs.YtafpfiadapabaaaDoor
