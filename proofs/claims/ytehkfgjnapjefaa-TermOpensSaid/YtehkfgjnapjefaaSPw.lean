/-
  THE PAGE's ARENA: what Open, Unbox, Signed answer. Own work.
-/
import Derived.Test.YtehkfgjnapjefaaSPv
namespace Go.Proofs.Ytehkfgjnapjefaa
open Go.RowKit Go.Maps
set_option maxRecDepth 100000
def PTells (w : World) (a : List Int × Int) (e : Ending) (w' : World) : Prop := ∃ p c, e = .returned (.tuple #[.slice p a.1.length c, .int .i64 a.2]) ∧ RdW w' (.slice p a.1.length c) a.1 ∧ Below w.heap.size w w'
theorem ptells_none {w w' : World} {n : Int} (h : Below w.heap.size w w') : PTells w ([], n) (.returned (.tuple #[.slice none 0 0, .int .i64 n])) w' := ⟨none, 0, rfl, ⟨none, 0, rfl, .inl rfl⟩, h⟩
/-- Where the args of a node of the page's lie that has some. -/
theorem PAr.args {w : World} {bb : Nat} {L : List Tm} {F : Nat → Prop} (A : PAr w bb L F) (i : Nat) (hi : i < L.length) (h0 : 0 < L[i].2.2.length) : ∃ g cp b c4, w.cell? ⟨bb, 0, none⟩ = some (.slice (some ⟨g, 0, none⟩) L.length cp) ∧ bb < w.heap.size ∧ g < w.heap.size ∧
    w.cell? ⟨g, i * 3, none⟩ = some (.int .i64 L[i].1) ∧ w.cell? ⟨g, i * 3 + 1, none⟩ = some (.int .i64 L[i].2.1) ∧ w.cell? ⟨g, i * 3 + 2, none⟩ = some (.slice (some ⟨b, 0, none⟩) L[i].2.2.length c4) ∧ b < w.heap.size ∧ L[i].2.2.length ≤ c4 ∧ (∀ t, t < L[i].2.2.length → w.cell? ⟨b, t, none⟩ = some (.int .i64 (L[i].2.2.getD t 0))) := by
  obtain ⟨np, cp, vs, h1, h2, hrow, hR, h5⟩ := A.ex
  have hi' : i < vs.length := by rw [hR.len]; exact hi
  obtain ⟨e0, e1, e2⟩ := cellsOf_at hR.len i hi hi'
  rcases hrow.2 with ⟨h, h0⟩ | ⟨g, cap, cur, h, _, hg, _⟩
  · omega
  · cases h
    have hx := hR.row i hi hi'
    have hlen := hrow.1
    have cAt := fun j hj => World.ownsRow.cellAt hrow j hj
    rcases hx.2 with ⟨_, h⟩ | ⟨b, c4, cur4, h, _, hb, hc, _⟩
    · omega
    refine ⟨g, cp, b, c4, h1, A.lt _ A.self, (Array.getElem?_eq_some_iff.1 hg).1, (cAt _ (by omega)).trans e0, (cAt _ (by omega)).trans e1, ?_, (Array.getElem?_eq_some_iff.1 hb).1, hc, fun t ht => ?_⟩
    · rw [← h]
      exact (cAt _ (by omega)).trans e2
    · rw [h] at hx
      exact hx.cellAt t ht
theorem drop_cells {w : World} {b l : Nat} {xs : List Int} (d : Nat) (hl : xs.length = l) (hc : ∀ t, t < l → w.cell? ⟨b, t, none⟩ = some (.int .i64 (xs.getD t 0))) : ∀ t, t < l - d → w.cell? ⟨b, 0 + d + t, none⟩ = some (.int .i64 ((xs.drop d).getD t 0)) := by
  intro t ht
  rw [Nat.zero_add, hc _ (by omega), List.getD_eq_getElem?_getD, List.getD_eq_getElem?_getD, List.getElem?_drop]
theorem same_head {w : World} {bb g g' n n' c c' : Nat} (h : w.cell? ⟨bb, 0, none⟩ = some (.slice (some ⟨g, 0, none⟩) n c)) (h' : w.cell? ⟨bb, 0, none⟩ = some (.slice (some ⟨g', 0, none⟩) n' c')) : g = g' := by
  rw [h] at h'
  injection h' with h'
  injection h' with h' _ _
  injection h' with h'
  injection h' with h' _ _
section
variable {F : Nat → Prop} {bb : Nat} {w : World} {L : List Tm}
theorem popen_ok (B : PAr w bb L F) (i k : Int) : Calls Try.prog 20 #[.pointer (some ⟨bb, 0, none⟩), .int .i64 i, .int .i64 k] w (PTells w (openOf L i k)) := by
  unfold openOf
  by_cases hik : inL L i ∧ inL L k
  rotate_left
  · rw [if_pos hik]
    refine (popen_no B i k (decide_eq_false hik)).mono ?_
    rintro e w' ⟨rfl, hB⟩
    exact ptells_none hB
  rw [if_neg (fun h => h hik)]
  obtain ⟨hi, hk⟩ := hik
  obtain ⟨i, rfl⟩ : ∃ j : Nat, i = j := ⟨i.toNat, by have := hi.1; omega⟩
  obtain ⟨k, rfl⟩ : ∃ j : Nat, k = j := ⟨k.toNat, by have := hk.1; omega⟩
  have hi' : i < L.length := by have := hi.2; omega
  have hk' : k < L.length := by have := hk.2; omega
  rw [tmAt_nat hi']
  by_cases h7 : L[i].1 = 6
  rotate_left
  · rw [if_pos h7]
    obtain ⟨g, cp, p4, c4, c0, hbb, hg, _, n0, _⟩ := B.node i hi'
    refine (popen_kind B i k hi' hk' c0 hbb hg _ h7 n0).mono ?_
    rintro e w' ⟨rfl, hB⟩
    exact ptells_none hB
  rw [if_neg (fun h => h h7)]
  have hl := kind68 (B.wf.good i hi').1 (.inl h7)
  obtain ⟨g, cp, b, c4, c0, hbb, hg, n0, n1, n2, hb, hc, hcs⟩ := B.args i hi' (by omega)
  have a0 := hcs 0 (by omega)
  rw [h7] at n0
  by_cases hs : arg0 L[i] = k
  · rw [if_neg (fun h => h hs)]
    rw [show L[i].2.2.getD 0 0 = (k : Int) from hs] at a0
    refine (popen_yes B i k hi' hk' c0 hbb hg b 0 _ c4 hb hl hc (L[i].2.2.drop 1) (by simp) (drop_cells 1 rfl hcs) n0 n2 a0).mono ?_
    rintro e w' ⟨p, c, rfl, hr, hB⟩
    have e2 : (L[i].2.2.drop 1).length = L[i].2.2.length - 1 := by simp
    unfold PTells
    simp only [e2]
    exact ⟨p, c, rfl, hr, hB⟩
  · rw [if_pos hs]
    refine (popen_else B i k hi' hk' c0 hbb hg b 0 _ c4 _ hb (by omega) hs n0 n2 a0).mono ?_
    rintro e w' ⟨rfl, hB⟩
    exact ptells_none hB
theorem punbox_ok (B : PAr w bb L F) (i k : Int) : Calls Try.prog 23 #[.pointer (some ⟨bb, 0, none⟩), .int .i64 i, .int .i64 k] w (PTells w (unboxOf L i k)) := by
  unfold unboxOf
  by_cases hik : inL L i ∧ inL L k
  rotate_left
  · rw [if_pos hik]
    refine (punbox_no B i k (decide_eq_false hik)).mono ?_
    rintro e w' ⟨rfl, hB⟩
    exact ptells_none hB
  rw [if_neg (fun h => h hik)]
  obtain ⟨hi, hk⟩ := hik
  obtain ⟨i, rfl⟩ : ∃ j : Nat, i = j := ⟨i.toNat, by have := hi.1; omega⟩
  obtain ⟨k, rfl⟩ : ∃ j : Nat, k = j := ⟨k.toNat, by have := hk.1; omega⟩
  have hi' : i < L.length := by have := hi.2; omega
  have hk' : k < L.length := by have := hk.2; omega
  rw [tmAt_nat hi']
  by_cases h7 : L[i].1 = 7
  rotate_left
  · rw [if_pos h7]
    obtain ⟨g, cp, p4, c4, c0, hbb, hg, _, n0, _⟩ := B.node i hi'
    refine (punbox_kind B i k hi' hk' c0 hbb hg _ h7 n0).mono ?_
    rintro e w' ⟨rfl, hB⟩
    exact ptells_none hB
  rw [if_neg (fun h => h h7)]
  have hl := kind7 (B.wf.good i hi').1 h7
  obtain ⟨g, cp, b, c4, c0, hbb, hg, n0, n1, n2, hb, hc, hcs⟩ := B.args i hi' (by omega)
  obtain ⟨q, hqi, hq⟩ := B.wf.arg0 hi' (by omega)
  have hqL : q < L.length := by omega
  have a0 := hcs 0 (by omega)
  rw [hq] at a0
  rw [h7] at n0
  rw [show arg0 L[i] = (q : Int) from hq, tmAt_nat hqL]
  by_cases h5 : L[q].1 = 5
  rotate_left
  · rw [if_pos (.inl h5)]
    obtain ⟨g', cp', p5, c5, c0', _, _, _, q0, q1, q2, _⟩ := B.node q hqL
    obtain rfl := same_head c0 c0'
    refine (punbox_whom B i k hi' hk' c0 hbb hg b 0 _ c4 q hb (by omega) hqL n0 n2 a0 _ _ p5 _ c5 q0 q1 q2 h5).mono ?_
    rintro e w' ⟨rfl, hB⟩
    exact ptells_none hB
  have hl5 := kind5 (B.wf.good q hqL).1 h5
  obtain ⟨g', cp', b5, c5, c0', _, _, q0, q1, q2, hb5, hc5, hcs5⟩ := B.args q hqL (by omega)
  obtain rfl := same_head c0 c0'
  have s0 := hcs5 0 (by omega)
  rw [h5] at q0
  by_cases hs : arg0 L[q] = k
  · rw [if_neg (fun h => by rcases h with h | h; exact h h5; exact h hs)]
    rw [show L[q].2.2.getD 0 0 = (k : Int) from hs] at s0
    refine (punbox_yes B i k hi' hk' c0 hbb hg b 0 _ c4 q hb hl hc hqL (L[i].2.2.drop 2) (by simp) (drop_cells 2 rfl hcs) n0 n2 a0 _ b5 0 _ c5 q0 q1 q2 hb5 (by omega) s0).mono ?_
    rintro e w' ⟨p, c, rfl, hr, hB⟩
    have e2 : (L[i].2.2.drop 2).length = L[i].2.2.length - 2 := by simp
    unfold PTells
    simp only [e2]
    exact ⟨p, c, rfl, hr, hB⟩
  · rw [if_pos (.inr hs)]
    refine (punbox_else B i k hi' hk' c0 hbb hg b 0 _ c4 q hb (by omega) hqL n0 n2 a0 _ b5 0 _ c5 q0 q1 q2 hb5 (by omega) _ s0 hs).mono ?_
    rintro e w' ⟨rfl, hB⟩
    exact ptells_none hB
theorem psigned_ok (B : PAr w bb L F) (i k : Int) : Calls Try.prog 25 #[.pointer (some ⟨bb, 0, none⟩), .int .i64 i, .int .i64 k] w (PTells w (signedOf L i k)) := by
  unfold signedOf
  by_cases hik : inL L i ∧ inL L k
  rotate_left
  · rw [if_pos hik]
    refine (psigned_no B i k (decide_eq_false hik)).mono ?_
    rintro e w' ⟨rfl, hB⟩
    exact ptells_none hB
  rw [if_neg (fun h => h hik)]
  obtain ⟨hi, hk⟩ := hik
  obtain ⟨i, rfl⟩ : ∃ j : Nat, i = j := ⟨i.toNat, by have := hi.1; omega⟩
  obtain ⟨k, rfl⟩ : ∃ j : Nat, k = j := ⟨k.toNat, by have := hk.1; omega⟩
  have hi' : i < L.length := by have := hi.2; omega
  have hk' : k < L.length := by have := hk.2; omega
  rw [tmAt_nat hi', tmAt_nat hk']
  by_cases hkd : L[i].1 ≠ 8 ∨ L[k].1 ≠ 5
  · rw [if_pos hkd]
    obtain ⟨g, cp, p4, c4, c0, hbb, hg, _, n0, _⟩ := B.node i hi'
    obtain ⟨g', cp', p5, c5, c0', _, _, _, q0, _⟩ := B.node k hk'
    obtain rfl := same_head c0 c0'
    refine (psigned_kind B i k hi' hk' c0 hbb hg _ _ (by rcases hkd with h | h; exact .inl (bne_iff_ne.2 h); exact .inr (bne_iff_ne.2 h)) n0 q0).mono ?_
    rintro e w' ⟨rfl, hB⟩
    exact ptells_none hB
  rw [if_neg hkd]
  have h8 : L[i].1 = 8 := Classical.byContradiction fun h => hkd (.inl h)
  have h5 : L[k].1 = 5 := Classical.byContradiction fun h => hkd (.inr h)
  have hl := kind68 (B.wf.good i hi').1 (.inr h8)
  have hl5 := kind5 (B.wf.good k hk').1 h5
  obtain ⟨g, cp, b, c4, c0, hbb, hg, n0, n1, n2, hb, hc, hcs⟩ := B.args i hi' (by omega)
  obtain ⟨g', cp', b5, c5, c0', _, _, q0, q1, q2, hb5, hc5, hcs5⟩ := B.args k hk' (by omega)
  obtain rfl := same_head c0 c0'
  have a0 := hcs 0 (by omega)
  have s0 := hcs5 0 (by omega)
  rw [h8] at n0
  rw [h5] at q0
  by_cases hs : arg0 L[i] = arg0 L[k]
  · rw [if_neg (fun h => h hs)]
    rw [show L[k].2.2.getD 0 0 = L[i].2.2.getD 0 0 from hs.symm] at s0
    refine (psigned_yes B i k hi' hk' c0 hbb hg b 0 _ c4 b5 0 _ c5 hb hl hc hb5 (by omega) _ a0 s0 (L[i].2.2.drop 1) (by simp) (drop_cells 1 rfl hcs) n0 n2 q0 q2).mono ?_
    rintro e w' ⟨p, c, rfl, hr, hB⟩
    have e2 : (L[i].2.2.drop 1).length = L[i].2.2.length - 1 := by simp
    unfold PTells
    simp only [e2]
    exact ⟨p, c, rfl, hr, hB⟩
  · rw [if_pos hs]
    refine (psigned_else B i k hi' hk' c0 hbb hg b 0 _ c4 b5 0 _ c5 hb (by omega) hb5 (by omega) _ _ a0 s0 hs n0 n2 q0 q2).mono ?_
    rintro e w' ⟨rfl, hB⟩
    exact ptells_none hB
end
end Go.Proofs.Ytehkfgjnapjefaa
