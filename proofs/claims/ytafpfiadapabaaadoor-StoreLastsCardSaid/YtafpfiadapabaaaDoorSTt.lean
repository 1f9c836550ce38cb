/-
  STORE: rows of bytes that came in. Own work.
-/
import Derived.Test.YtafpfiadapabaaaDoorSTr
namespace Go.Proofs.YtafpfiadapabaaaDoor
open Go.ChangeShapes Go.WideShapes Go.ChangeAt Go.RowKit Go.Maps Go.Deep
set_option maxRecDepth 100000
structure Rb where
  v : Value
  bs : List Int
def Rbs (w : World) (v : Value) (S : List Rb) : Prop :=
  ∃ p c, v = .slice p S.length c ∧ (S = [] ∨ ∃ b o, p = some ⟨b, o, none⟩ ∧ b < w.heap.size ∧ ∀ i (h : i < S.length), w.cell? ⟨b, o + i, none⟩ = some S[i].v ∧ Ins w S[i].v S[i].bs)
section
variable {H : Type} {enc : TypeId × Value → H} {w : World} {base : Nat} {held : Bool}
theorem open_brows {r : Reach} {b0 : Nat} {v : Value} {d : DataW H} {ps : List MemPlace} (hval : Value.okWide Tryd.prog w r b0 46 v) (h : DataW.Trod enc Tryd.prog w base (fun _ => true) held 46 v d ps) : ∃ S, Rbs w v S := by
  obtain ⟨fuel, hf⟩ := h
  obtain ⟨a0, len0, cap0, rfl⟩ := okWide_slice Tryd.underlying46 hval
  rcases DataW.trod_slice Tryd.underlying46 hf with ⟨hcs, _⟩ | ⟨a, len, cap, elems, rest, n, _, hcs, _, _, _, _, hlen, hel, _⟩
  · simp [Value.cells] at hcs
    obtain ⟨rfl, rfl, rfl⟩ := hcs
    exact ⟨[], none, 0, rfl, .inl rfl⟩
  · simp [Value.cells] at hcs
    obtain ⟨rfl, rfl, rfl⟩ := hcs
    by_cases h0 : len0 = 0
    · subst h0
      exact ⟨[], _, cap0, rfl, .inl rfl⟩
    · have e1 : Tryd.prog.cellsOf 31 = 1 := by kernel_rfl
      rw [e1] at hel
      have each : ∀ i, i < len0 → ∃ s : Rb, w.cell? ((a.add (i * 1)).add 0) = some s.v ∧ Ins w s.v s.bs := by
        intro i hi
        have h1 := hel i hi
        rw [List.getElem?_eq_getElem (by omega)] at h1
        obtain ⟨cs, hcs, ht⟩ := Option.bind_eq_some_iff.1 h1
        obtain ⟨hcl, _, hc⟩ := World.cells?_some hcs
        match cs, hcl with
        | [c0], _ =>
          obtain ⟨bs, hbs⟩ := open_insV ht
          exact ⟨⟨c0, bs⟩, hc 0 (by omega), hbs⟩
      obtain ⟨b, off, spot⟩ := a
      have hspot : spot = none := by
        obtain ⟨s, hs, _⟩ := each 0 (by omega)
        simpa [Addr.add] using World.cell?_spot hs
      subst hspot
      obtain ⟨S, hS, hP⟩ := choose_list len0 each
      have hb : b < w.heap.size := by
        obtain ⟨s, hs, _⟩ := each 0 (by omega)
        have := World.block_lt_of_cell? w _ hs
        simpa [Addr.add] using this
      refine ⟨S, _, cap0, by rw [hS], .inr ⟨b, off, rfl, hb, fun i hi => ?_⟩⟩
      obtain ⟨h1, h2⟩ := hP i hi
      rw [addr_mid, addr_mid, Nat.add_zero, Nat.mul_one] at h1
      exact ⟨h1, h2⟩
end
theorem rbs_nth {w : World} {p : Option Addr} {c n : Nat} {S : List Rb} (h : Rbs w (.slice p n c) S) {t : Nat} (ht : t < S.length) : ∃ b o, p = some ⟨b, o, none⟩ ∧ b < w.heap.size ∧ w.cell? ⟨b, o + t, none⟩ = some S[t].v ∧ Ins w S[t].v S[t].bs := by
  obtain ⟨p', c', he, h0 | ⟨b, o, rfl, hb, hc⟩⟩ := h
  · rw [h0] at ht
    cases ht
  · cases he
    exact ⟨b, o, rfl, hb, hc t ht⟩
end Go.Proofs.YtafpfiadapabaaaDoor
