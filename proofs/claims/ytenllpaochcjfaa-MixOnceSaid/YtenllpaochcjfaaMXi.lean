/-
  Numbers that came in, opened. Own work.
-/
import Derived.Test.YtenllpaochcjfaaSLa
namespace Go.Proofs.Ytenllpaochcjfaa
open Go.ChangeShapes Go.WideShapes Go.ChangeAt Go.RowKit Go.Maps
set_option maxRecDepth 100000
def In64 (n : Int) : Prop := -9223372036854775808 ≤ n ∧ n < 9223372036854775808
section
variable {H : Type} {enc : TypeId × Value → H} {w : World} {base : Nat} {sp : Nat → Bool} {held : Bool}
theorem getD_take {zs : List Int} {l t : Nat} (h : t < (zs.take l).length) : (zs.take l).getD t 0 = zs.getD t 0 := by
  rw [List.getD_eq_getElem?_getD, List.getD_eq_getElem?_getD, List.getElem?_take, if_pos (by rw [List.length_take] at h; omega)]
theorem open_args {fuel : Nat} {v : Value} {x : DataW H × List MemPlace} (h : DataW.trod enc Try.prog w base sp held fuel 29 [v] = some x) : ∃ xs, RdW w v xs ∧ (∀ z ∈ xs, In64 z) ∧ NilCap v := by
  rcases open_ints Try.underlying29 Try.underlying3 (by kernel_rfl) h with ⟨hcs, _⟩ | ⟨a, len, cap, zs, hcs, _, hl, hm, hz, _, hcell, hwz⟩
  · cases hcs
    exact ⟨[], ⟨none, 0, rfl, .inl rfl⟩, (fun _ h => by cases h), fun c h => by cases h; rfl⟩
  · cases hcs
    have hlz : len ≤ zs.length := by rw [hz]; split <;> omega
    by_cases h0 : len = 0
    · subst h0
      exact ⟨[], ⟨_, cap, rfl, .inl rfl⟩, (fun _ h => by cases h), fun c h => by cases h⟩
    · obtain ⟨b, off, spot⟩ := a
      have hc0 := hcell 0 (by omega)
      have hspot : spot = none := by simpa [Addr.add] using World.cell?_spot hc0
      subst hspot
      have hlen : (zs.take len).length = len := by simp; omega
      have hb : b < w.heap.size := by
        have := World.block_lt_of_cell? w _ hc0
        simpa [Addr.add] using this
      refine ⟨zs.take len, ⟨some ⟨b, off, none⟩, cap, by rw [hlen], .inr ⟨b, off, rfl, hb, fun t ht => ?_⟩⟩, fun z hz => i64_bounds (hwz z (List.mem_of_mem_take hz)), fun c h => by cases h⟩
      have h1 := hcell t (by omega)
      rw [add_plain] at h1
      rw [h1, getD_take ht]
theorem kept_arg {P : Program} {t : TypeId} (hl : laidOutB P = true) (hr : P.readableRec t = true) (hrow : t < P.types.size) {W W' : World} {v : Value} {d : DataW H} {ps : List MemPlace} (h : DataW.Trod enc P W 0 (fun _ => true) true t v d ps) (hb : Below W.heap.size W W') (hlt : ∀ x ∈ ps, x.block < W.heap.size) {sp : Nat → Bool} (hs : ∀ p ∈ ps, sp p.block = true) :
    DataW.Trod enc P W' 0 sp true t v d ps := WideElems.Trod_stays hl hr hrow h (fun x hx => hb.same (hlt x hx)) hs
theorem laidOut : laidOutB Try.prog = true := by kernel_rfl
/-- Numbers that came in, opened. -/
theorem open_nums {r : Reach} {b0 : Nat} {v : Value} {d : DataW H} {ps : List MemPlace} (hval : Value.okWide Try.prog w r b0 29 v) (h : DataW.Trod enc Try.prog w base sp held 29 v d ps) : ∃ xs, RdW w v xs ∧ (∀ z ∈ xs, In64 z) ∧ NilCap v := by
  obtain ⟨fuel, hf⟩ := h
  obtain ⟨a0, len0, cap0, rfl⟩ := okWide_slice Try.underlying29 hval
  exact open_args hf
end
end Go.Proofs.Ytenllpaochcjfaa
