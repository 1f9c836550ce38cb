/-
  THE PAGE's Put: what it needs. Own work.
-/
import Derived.Test.YtenllpaochcjfaaDoorSPf
import Derived.Deep.AppendLies
import Derived.Deep.RegionHeld3
namespace Go.Proofs.YtenllpaochcjfaaDoor
open Go.RowKit Go.Maps
set_option maxRecDepth 100000
attribute [local go_sem ↓] Go.wp_at_zero Go.wp_at_succ
def cntOk (k n : Int) : Prop := n ≤ 400 ∧ ((k = 1 ∨ k = 2) → n = 0) ∧ ((k = 4 ∨ k = 5) → n = 1) ∧ ((k = 6 ∨ k = 8) → 1 ≤ n) ∧ (k = 7 → 2 ≤ n)
instance (k n : Int) : Decidable (cntOk k n) := inferInstanceAs (Decidable (_ ∧ _))
theorem count_ok' (k n : Int) (w : World) : Calls Tryd.prog 56 #[.int .i64 k, .int .i64 n] w fun e w' => e = .returned (.bool (decide (cntOk k n))) ∧ w' = w := count_ok k n w
theorem reads_nilcap {w : World} {xs : List Int} {l c : Nat} (h : Reads w (.slice none l c) xs) : c = 0 := by
  rcases h with ⟨h, _⟩ | ⟨b, o, c', h, _⟩
  · simp at h
    exact h.2
  · cases h
/-- From Put's new way to the list. -/
theorem par_grown {F : Nat → Prop} {w w4 w6 : World} {bb h g cap l c5 : Nat} {L : List Tm} {t : Tm} {p5 : Option Addr} {np : Option Addr} {cp : Nat} {vs : List Value} {B4 : Nat} {obj : Obj} {u2 : Value}
    (wf : Wf L) (self : F bb) (lt : ∀ k, F k → k < w.heap.size) (h3 : w.ownsRow 0 79 3 (.slice np L.length cp) L.length (cellsOf L vs)) (hR : Rows3 w L vs (fun k => F k ∧ k ≠ bb ∧ (Value.slice np L.length cp).ownBlock ≠ some k)) (ho : ∀ k, (Value.slice np L.length cp).ownBlock = some k → F k ∧ k ≠ bb)
    (ht : Named t) (hn : t ∉ L) (hroom : L.length < 1048576) (hfit : fitsIn L.length t)
    (hB : Below w.heap.size w w4) (hh : w.heap.size ≤ h) (hh4 : h < B4) (hown : w4.ownsRow B4 3 1 (.slice p5 l c5) l (t.2.2.map (Value.int .i64)))
    (hown6 : w6.ownsRow 0 79 3 (.slice (some ⟨g, 0, none⟩) (L.length + 1) cap) (L.length + 1) (cellsOf L vs ++ [.int .i64 t.1, .int .i64 t.2.1, .slice p5 l c5])) (hg6 : ((w4.setCell ⟨h, 2, none⟩ u2).alloc obj).grownBy w6 (Value.slice np L.length cp).ownBlock) (hat : (Value.slice np L.length cp).ownBlock = some g ∨ g = ((w4.setCell ⟨h, 2, none⟩ u2).alloc obj).heap.size)
    (hs6 : w6.cell? ⟨bb, 0, none⟩ = some (.slice np L.length cp)) (hf6 : w6.frozen? ⟨bb, 0, none⟩ = false) :
    ∃ F', PAr (w6.setCell ⟨bb, 0, none⟩ (.slice (some ⟨g, 0, none⟩) (L.length + 1) cap)) bb (L ++ [t]) F' ∧ Keeps F w (w6.setCell ⟨bb, 0, none⟩ (.slice (some ⟨g, 0, none⟩) (L.length + 1) cap)) ∧ ∀ k, F' k → F k ∨ w.heap.size ≤ k := by
  have hbb := lt _ self
  have s4 := hB.size
  have s5 : ((w4.setCell ⟨h, 2, none⟩ u2).alloc obj).heap.size = w4.heap.size + 1 := by simp
  have s6 := hg6.size
  have hg7 := put_grown w6 ⟨bb, 0, none⟩ (.slice (some ⟨g, 0, none⟩) (L.length + 1) cap)
  have s7 := hg7.size
  have hnp : ∀ k, (Value.slice np L.length cp).ownBlock = some k → k < w.heap.size := fun k hk => lt k (ho k hk).1
  have hvb : ∀ k, (Value.slice p5 l c5).ownBlock = some k → B4 ≤ k ∧ k < w4.heap.size := fun k hk => row_base hown hk
  have hgb : (Value.slice np L.length cp).ownBlock = some g ∨ w4.heap.size < g := by
    rcases hat with h1 | h1
    · exact .inl h1
    · exact .inr (by omega)
  have hgt : g < w6.heap.size := by
    rcases hown6.2 with ⟨h1, _⟩ | ⟨g', cap', cur, h1, _, hg', _⟩
    · cases h1
    · cases h1
      exact (Array.getElem?_eq_some_iff.1 hg').1
  have hgne : g ≠ bb := by
    rcases hgb with h1 | h1
    · exact (ho g h1).2
    · omega
  have hK : Keeps (fun k => k = bb ∨ (Value.slice np L.length cp).ownBlock = some k) w (w6.setCell ⟨bb, 0, none⟩ (.slice (some ⟨g, 0, none⟩) (L.length + 1) cap)) := by
    have hB5 : Below w.heap.size w ((w4.setCell ⟨h, 2, none⟩ u2).alloc obj) := (hB.setCell (p := ⟨h, 2, none⟩) hh u2).alloc (by simp; omega) obj
    have k1 : Keeps (fun k => k = bb ∨ (Value.slice np L.length cp).ownBlock = some k) w ((w4.setCell ⟨h, 2, none⟩ u2).alloc obj) := Keeps.of_below hB5
    have k2 := k1.trans (Keeps.of_grown (F := fun k => k = bb ∨ (Value.slice np L.length cp).ownBlock = some k) hg6 (fun k hk => .inr hk)) (fun _ _ h => h)
    exact k2.trans (Keeps.of_grown (F := fun k => k = bb ∨ (Value.slice np L.length cp).ownBlock = some k) hg7 (fun k hk => .inl (by cases hk; rfl))) (fun _ _ h => h)
  have hv7 : IRow (w6.setCell ⟨bb, 0, none⟩ (.slice (some ⟨g, 0, none⟩) (L.length + 1) cap)) (.slice p5 l c5) t.2.2 := by
    have sep : ∀ r : Option Nat, (∀ k, r = some k → k < B4) → (Value.slice p5 l c5).ownBlock = none ∨ (Value.slice p5 l c5).ownBlock ≠ r := by
      intro r hr
      cases hk : (Value.slice p5 l c5).ownBlock with
      | none => exact .inl rfl
      | some k =>
        refine .inr (fun e => ?_)
        have := hr k e.symm
        have := (hvb k hk).1
        omega
    have h5 := hown.kept (put_grown w4 ⟨h, 2, none⟩ u2) (sep _ (fun k e => by cases e; exact hh4))
    have h6 := (h5.alloc obj).kept hg6 (sep _ (fun k e => by have := hnp k e; omega))
    exact irow_of (h6.kept hg7 (sep _ (fun k e => by cases e; simp only; omega)))
  refine ⟨fun k => F k ∨ k = g ∨ (Value.slice p5 l c5).ownBlock = some k, ⟨⟨some ⟨g, 0, none⟩, cap, vs ++ [.slice p5 l c5], ?_, ?_, ?_, ?_, ?_⟩, ?_, .inl self, ?_⟩, hK.mono ?_, ?_⟩
  · rw [List.length_append]
    exact World.cell?_setCell_same (h := hs6) ..
  · rw [World.frozen?_setCell]
    exact hf6
  · rw [cellsOf_snoc hR.len, List.length_append]
    exact hown6.kept hg7 (.inr (by simp [Value.ownBlock]; exact hgne))
  · have hR2 := (hR.keeps hK (fun k hk hc => by rcases hc with h | h; exact hk.2.1 h; exact hk.2.2 h)).mono (F' := fun k => (F k ∨ k = g ∨ (Value.slice p5 l c5).ownBlock = some k) ∧ k ≠ bb ∧ (Value.slice (some ⟨g, 0, none⟩) (L.length + 1) cap).ownBlock ≠ some k) (fun k hk => by
      refine ⟨.inl hk.1, hk.2.1, fun e => ?_⟩
      obtain rfl : g = k := by simpa [Value.ownBlock] using e
      rcases hgb with h | h
      · exact hk.2.2 h
      · have := lt g hk.1
        omega)
    rw [List.length_append]
    refine hR2.snoc hv7 (fun k hk => ⟨.inr (.inr hk), ?_, fun e => ?_⟩)
    · have := (hvb k hk).1
      omega
    · obtain rfl : g = k := by simpa [Value.ownBlock] using e
      have h1 := hvb g hk
      rcases hgb with h2 | h2
      · have := hnp g h2
        omega
      · omega
  · intro k e
    obtain rfl : g = k := by simpa [Value.ownBlock] using e
    exact ⟨.inr (.inl rfl), hgne⟩
  · have := wf.put (t := t) ht.2.1
    rwa [put_new ht.1 hfit hn (by omega)] at this
  · intro k hk
    rcases hk with h | rfl | h
    · have := lt k h
      omega
    · omega
    · have := (hvb k h).2
      omega
  · rintro k hk (rfl | h)
    · exact self
    · exact (ho k h).1
  · rintro k (h | rfl | h)
    · exact .inl h
    · rcases hgb with h | h
      · exact .inl (ho _ h).1
      · exact .inr (by omega)
    · exact .inr (by have := (hvb k h).1; omega)
theorem pput_same {w w' : World} {bb : Nat} {L : List Tm} {F : Nat → Prop} {t : Tm} {a s : Int} (hp : put L t = (a, s, L)) (A : PAr w bb L F) (hB : Below w.heap.size w w') : Ending.returned (.tuple #[.int .i64 a, .int .i64 s]) = .returned (.tuple #[.int .i64 (put L t).1, .int .i64 (put L t).2.1]) ∧ ∃ F', PAr w' bb (put L t).2.2 F' ∧ Keeps F w w' ∧ ∀ k, F' k → F k ∨ w.heap.size ≤ k := by
  rw [hp]
  exact ⟨rfl, F, A.below hB, Keeps.of_below hB, fun k h => .inl h⟩
theorem idx_at {L : List Tm} (h : Wf L) {j : Nat} {t : Tm} (hat : L[j]? = some t) : t ∈ L ∧ L.idxOf t = j := by
  obtain ⟨hj, rfl⟩ := List.getElem?_eq_some_iff.1 hat
  exact ⟨List.getElem_mem hj, h.nodup.idxOf_getElem j hj⟩
theorem not_in {L : List Tm} {t : Tm} {j : Nat} (hj : L.length ≤ j) (h : ∀ i, i < j → L[i]? ≠ some t) : t ∉ L := by
  intro hm
  obtain ⟨i, hi, he⟩ := List.getElem_of_mem hm
  exact h i (by omega) (by rw [List.getElem?_eq_getElem hi, he])
end Go.Proofs.YtenllpaochcjfaaDoor
