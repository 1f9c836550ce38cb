/-
  TERMS: wakes. Own work.
-/
import Derived.Test.YtehkfgjnapjefaaTX
namespace Go.Proofs.Ytehkfgjnapjefaa
open Go.RowKit Go.Maps
set_option maxRecDepth 100000
theorem reads_lit {w : World} {n : Nat} {cs : List Value} (xs : List Int) (hcs : cs = xs.map (Value.int .i64)) (hn : xs.length = n) (e : TypeId) : Reads (w.alloc (.cells cs.toArray e)) (.slice (some ⟨w.heap.size, 0, none⟩) n n) xs := by
  subst hcs hn
  refine .inr ⟨w.heap.size, 0, _, rfl, by simp, fun t ht => ?_⟩
  rw [Nat.zero_add, cell_of_row _ w.heap.size t _ e (0, 0) (heap_alloc_new w _)]
  simp [ht]
theorem row_open {w : World} {base e size n c : Nat} {p : Option Addr} {xs : List Value} (h : w.ownsRow base e size (.slice p n c) n xs) (hn : 0 < n) : ∃ g, p = some ⟨g, 0, none⟩ ∧ base ≤ g ∧ g < w.heap.size ∧ n ≤ c ∧ ∀ j, j < n * size → w.cell? ⟨g, j, none⟩ = xs[j]? := by
  rcases h.2 with ⟨_, h0⟩ | ⟨g, cap, cur, h1, hb, hg, hc, _⟩
  · omega
  · cases h1
    exact ⟨g, rfl, hb, (Array.getElem?_eq_some_iff.1 hg).1, hc, fun j hj => World.ownsRow.cellAt h j hj⟩
theorem foot_below {F F' : Nat → Prop} {B : Nat} {w : World} (h : ∀ k, F k → B ≤ k) (hF : ∀ k, F' k → F k ∨ w.heap.size ≤ k) (hB : B ≤ w.heap.size) : ∀ k, F' k → B ≤ k := fun k hk => by
  rcases hF k hk with h1 | h1
  · exact h k h1
  · omega
theorem ar_alloc {F : Nat → Prop} {w : World} {ab : Nat} {L : List Tm} (A : Ar w ab L F) (o : Obj) : Ar (w.alloc o) ab L F := A.below ((Below.refl _ w).alloc (Nat.le_refl _) o)
theorem wput1 : put [] (1, 5, []) = (0, 0, [(1, 5, [])]) := by decide +kernel
theorem wput2 : put [(1, 5, [])] (5, 0, [0]) = (1, 0, [(1, 5, []), (5, 0, [0])]) := by decide +kernel
theorem wput3 : put [(1, 5, []), (5, 0, [0])] (7, 0, [1, 0, 0]) = (2, 0, [(1, 5, []), (5, 0, [0]), (7, 0, [1, 0, 0])]) := by decide +kernel
theorem wput4 : unboxOf [(1, 5, []), (5, 0, [0]), (7, 0, [1, 0, 0])] 2 0 = ([0], 0) := by decide +kernel
set_option maxHeartbeats 4000000 in
theorem wakes_ok (w : World) : Calls Try.prog 17 #[] w fun e w' => e = .returned (.bool true) ∧ Below w.heap.size w w' := by
  go_enter Try.func17, Try.ntmps17
  go_wp2_with (first
    | (go_at_call 30; refine (new_ar _).mono ?_; rintro ev w1 ⟨ab, F0, rfl, A0, hF0, B0⟩; have G0 := (show Hid _ from hF0); clear hF0)
    | (go_at_call 29; refine (make_ok A0 1 5 (v := .slice none 0 0) (xs := []) (.inl ⟨rfl, rfl⟩) (by omega)).mono ?_; rintro ev w2 ⟨rfl, F1, A1, K1, hF1⟩; have G1 := (show Hid _ from hF1); clear hF1 A0; simp only [wput1] at A1 ⊢)
    | (go_at_call 29; refine (make_ok (ar_alloc A1 _) 5 0 (reads_lit [0] rfl rfl _) (by omega)).mono ?_; rintro ev w3 ⟨rfl, F2, A2, K2, hF2⟩; have G2 := (show Hid _ from hF2); clear hF2 A1; simp only [wput2] at A2 ⊢)
    | (go_at_call 29; refine (make_ok (ar_alloc A2 _) 7 0 (reads_lit [1, 0, 0] rfl rfl _) (by omega)).mono ?_; rintro ev w4 ⟨rfl, F3, A3, K3, hF3⟩; have G3 := (show Hid _ from hF3); clear hF3 A2; simp only [wput3] at A3 ⊢)
    | (go_at_call 22; refine (unbox_ok A3 2 0).mono ?_; rintro ev w5 ⟨p5, c5, rfl, hr, B5⟩; simp only [wput4, List.length_cons, List.length_nil] at hr B5 ⊢; obtain ⟨g5, rfl, _, hg5, _, hc5⟩ := row_open hr (by simp); have hc0 := hc5 0 (by simp); simp only [List.map_cons, List.map_nil, List.getElem?_cons_zero] at hc0; clear hc5))
  go_ret
  have b1 : w.heap.size ≤ w1.heap.size := B0.size
  have b2 : w1.heap.size ≤ w2.heap.size := K1.size
  have b3 := K2.size
  have b4 := K3.size
  simp only [World.size_alloc] at b3 b4
  have f1 := foot_below G0.out G1.out b1
  have f2 := foot_below f1 G2.out (by simp; omega)
  exact ⟨rfl, ((((B0.trans (K1.below b1 G0.out)).alloc (by omega) _).trans (K2.below (by simp; omega) f1)).alloc (by omega) _).trans ((K3.below (by simp; omega) f2).trans (B5.mono (by omega)))⟩
end Go.Proofs.Ytehkfgjnapjefaa
