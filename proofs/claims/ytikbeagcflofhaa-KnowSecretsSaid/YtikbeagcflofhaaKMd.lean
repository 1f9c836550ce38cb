/-
  KNOWNESTS, KNOWSECRETS: a term made, by letters; flags that came in. Own work.
-/
import Derived.Test.YtikbeagcflofhaaKMc
import Derived.Deep.Grids
namespace Go.Proofs.Ytikbeagcflofhaa
open Go.RowKit Go.Maps Go.ChangeShapes Go.WideShapes Go.Deep
set_option maxRecDepth 100000
/-- A term made. -/
structure MkT (L : List Tm) (t : Tm) (i : Nat) (L' : List Tm) : Prop where
  put : put L t = ((i : Int), 0, L')
  at' : L'[i]? = some t
  keep : ∀ (j : Nat) (u : Tm), L[j]? = some u → L'[j]? = some u
  le : L.length ≤ L'.length
  le1 : L'.length ≤ L.length + 1
  cov : ∀ j, j < L'.length → j < L.length ∨ j = i
theorem mk_ex {L : List Tm} {t : Tm} (h : shape t = 0) (hf : fitsIn L.length t) (hr : L.length < 1048576) : ∃ i L', MkT L t i L' := by
  refine ⟨plc L t, ext L t, put_good h hf hr, plc_at L t, fun j u hu => ext_at hu t, ext_le L t, ext_le1 L t, fun j hj => ?_⟩
  unfold plc ext at *
  split
  · rename_i h1
    rw [if_pos h1] at hj
    exact .inl hj
  · rename_i h1
    rw [if_neg h1] at hj
    simp at hj
    omega
theorem sh_atom (n : Int) (h : 0 ≤ n) : shape (1, n, []) = 0 := by
  unfold shape rightOf leastOf mostOf
  simp
  omega
theorem sh_pub (x : Int) : shape (5, 0, [x]) = 0 := by
  unfold shape rightOf leastOf mostOf
  simp
theorem sh_seal (x : Int) (xs : List Int) (h : xs.length ≤ 300) : shape (6, 0, x :: xs) = 0 := by
  unfold shape rightOf leastOf mostOf
  simp
  omega
theorem sh_box (x y z : Int) : shape (7, 0, [x, y, z]) = 0 := by
  unfold shape rightOf leastOf mostOf
  simp
theorem sh_sig (x : Int) (xs : List Int) (h : xs.length ≤ 300) : shape (8, 0, x :: xs) = 0 := by
  unfold shape rightOf leastOf mostOf
  simp
  omega
theorem sh_list (xs : List Int) (h : xs.length ≤ 300) : shape (9, 0, xs) = 0 := by
  unfold shape rightOf leastOf mostOf
  simp
  omega
/-- Flags in memory. -/
def RdB (w : World) (v : Value) (hs : List Bool) : Prop :=
  ∃ p c, v = .slice p hs.length c ∧ (hs = [] ∨ ∃ b o, p = some ⟨b, o, none⟩ ∧ b < w.heap.size ∧ ∀ t, t < hs.length → w.cell? ⟨b, o + t, none⟩ = some (.bool (bt hs t)))
theorem RdB.below {w w' : World} {v : Value} {hs : List Bool} (h : RdB w v hs) (hB : Below w.heap.size w w') : RdB w' v hs := by
  obtain ⟨p, c, rfl, h | ⟨b, o, rfl, hb, hc⟩⟩ := h
  · exact ⟨p, c, rfl, .inl h⟩
  · exact ⟨_, c, rfl, .inr ⟨b, o, rfl, Nat.lt_of_lt_of_le hb hB.size, fun t ht => (hB.cell (p := ⟨b, o + t, none⟩) hb).trans (hc t ht)⟩⟩
theorem rdb_nth {w : World} {p : Option Addr} {n c t : Nat} {hs : List Bool} (h : RdB w (.slice p n c) hs) (ht : t < hs.length) : ∃ b o, p = some ⟨b, o, none⟩ ∧ w.cell? ⟨b, o + t, none⟩ = some (.bool (bt hs t)) := by
  obtain ⟨p', c', e, rfl | ⟨b, o, rfl, hb, hc⟩⟩ := h
  · exact absurd ht (Nat.not_lt_zero _)
  · cases e
    exact ⟨b, o, rfl, hc t ht⟩
theorem open_flags {H : Type} {enc : TypeId × Value → H} {w : World} {base : Nat} {held : Bool} {r : Reach} {b0 : Nat} {v : Value} {d : DataW H} {ps : List MemPlace} (hval : Value.okWide Try.prog w r b0 38 v) (h : DataW.Trod enc Try.prog w base (fun _ => true) held 38 v d ps) : ∃ hs, RdB w v hs := by
  obtain ⟨fuel, hf⟩ := h
  obtain ⟨a0, len0, cap0, rfl⟩ := okWide_slice Try.underlying38 hval
  rcases open_bools Try.underlying38 Try.underlying4 (by kernel_rfl) hf with ⟨hcs, _⟩ | ⟨a, len, cap, B, hcs, _, hl, hm, _, hcell⟩
  · cases hcs
    exact ⟨[], ⟨none, 0, rfl, .inl rfl⟩⟩
  · cases hcs
    have hlen : ((List.range len0).map B).length = len0 := by simp
    by_cases h0 : len0 = 0
    · subst h0
      exact ⟨[], ⟨_, cap0, rfl, .inl rfl⟩⟩
    · obtain ⟨b, off, spot⟩ := a
      have hc0 := hcell 0 (by omega)
      have hspot : spot = none := by simpa [Addr.add] using World.cell?_spot hc0
      subst hspot
      have hb : b < w.heap.size := by
        have := World.block_lt_of_cell? w _ hc0
        simpa [Addr.add] using this
      refine ⟨(List.range len0).map B, ⟨some ⟨b, off, none⟩, cap0, by rw [hlen], .inr ⟨b, off, rfl, hb, fun t ht => ?_⟩⟩⟩
      have h1 := hcell t (by omega)
      rw [add_plain] at h1
      rw [h1]
      unfold bt
      rw [List.getD_eq_getElem?_getD, List.getElem?_map, List.getElem?_range (by omega)]
      rfl
end Go.Proofs.Ytikbeagcflofhaa
