/-
  DISK: numbers that came in; DiskChoice on lists. Own work.
-/
import Derived.Test.YtgcndphocpedjaaDKi
import Derived.Deep.Grids
namespace Go.Proofs.Ytgcndphocpedjaa
open Go.ChangeShapes Go.WideShapes Go.ChangeAt Go.RowKit Go.Maps Go.Deep
set_option maxRecDepth 100000
/-- Numbers in memory, at whatever place. -/
def RdW (w : World) (v : Value) (xs : List Int) : Prop :=
  ∃ p c, v = .slice p xs.length c ∧ (xs = [] ∨ ∃ b o, p = some ⟨b, o, none⟩ ∧ b < w.heap.size ∧ ∀ t, t < xs.length → w.cell? ⟨b, o + t, none⟩ = some (.int .i64 (xs.getD t 0)))
theorem RdW.keeps {F : Nat → Prop} {w w' : World} {v : Value} {xs : List Int} (h : RdW w v xs) (hK : Keeps F w w') (hn : ∀ k, v.ownBlock = some k → ¬ F k) : RdW w' v xs := by
  obtain ⟨p, c, rfl, h | ⟨b, o, rfl, hb, hc⟩⟩ := h
  · exact ⟨p, c, rfl, .inl h⟩
  · exact ⟨_, c, rfl, .inr ⟨b, o, rfl, Nat.lt_of_lt_of_le hb hK.size, fun t ht => (hK.cell (p := ⟨b, o + t, none⟩) hb (hn b rfl)).trans (hc t ht)⟩⟩
theorem RdW.below {w w' : World} {v : Value} {xs : List Int} (h : RdW w v xs) (hB : Below w.heap.size w w') : RdW w' v xs := h.keeps (Keeps.of_below (F := fun _ => False) hB) (fun _ _ h => h)
section
variable {H : Type} {enc : TypeId × Value → H} {w : World} {base : Nat} {sp : Nat → Bool} {held : Bool}
theorem getD_take {zs : List Int} {l t : Nat} (h : t < (zs.take l).length) : (zs.take l).getD t 0 = zs.getD t 0 := by
  rw [List.getD_eq_getElem?_getD, List.getD_eq_getElem?_getD, List.getElem?_take, if_pos (by rw [List.length_take] at h; omega)]
end
section
variable {H : Type} {enc : TypeId × Value → H} {w : World} {base : Nat} {sp : Nat → Bool} {held : Bool}
theorem open_args {fuel : Nat} {v : Value} {x : DataW H × List MemPlace} (h : DataW.trod enc Try.prog w base sp held fuel 49 [v] = some x) : ∃ xs, RdW w v xs ∧ (∀ z ∈ xs, In64 z) ∧ NilCap v := by
  rcases open_ints Try.underlying49 Try.underlying3 (by kernel_rfl) h with ⟨hcs, _⟩ | ⟨a, len, cap, zs, hcs, _, hl, hm, hz, _, hcell, hwz⟩
  · cases hcs
    exact ⟨[], ⟨none, 0, rfl, .inl rfl⟩, (fun _ h => by cases h), fun c h => by cases h; rfl⟩
  · cases hcs
    have hlz : len ≤ zs.length := by rw [hz]; split <;> omega
    by_cases h0 : len = 0
    · subst h0
      exact ⟨[], ⟨_, cap, rfl, .inl rfl⟩, (fun _ h => by cases h), fun c h => by cases h⟩
    · obtain ⟨b, off, spot⟩ := a
      have hc0 := hcell 0 (by omega)
      have hspot : spot = none := by simpa [Addr.add] using World.cell?_spot hc0
      subst hspot
      have hlen : (zs.take len).length = len := by simp; omega
      have hb : b < w.heap.size := by
        have := World.block_lt_of_cell? w _ hc0
        simpa [Addr.add] using this
      refine ⟨zs.take len, ⟨some ⟨b, off, none⟩, cap, by rw [hlen], .inr ⟨b, off, rfl, hb, fun t ht => ?_⟩⟩, fun z hz => i64_bounds (hwz z (List.mem_of_mem_take hz)), fun c h => by cases h⟩
      have h1 := hcell t (by omega)
      rw [add_plain] at h1
      rw [h1, getD_take ht]
end
section
variable {H : Type} {enc : TypeId × Value → H} {w : World} {base : Nat} {sp : Nat → Bool} {held : Bool}
/-- Numbers that came in, opened. -/
theorem open_nums {r : Reach} {b0 : Nat} {v : Value} {d : DataW H} {ps : List MemPlace} (hval : Value.okWide Try.prog w r b0 49 v) (h : DataW.Trod enc Try.prog w base sp held 49 v d ps) : ∃ xs, RdW w v xs ∧ (∀ z ∈ xs, In64 z) ∧ NilCap v := by
  obtain ⟨fuel, hf⟩ := h
  obtain ⟨a0, len0, cap0, rfl⟩ := okWide_slice Try.underlying49 hval
  exact open_args hf
end
theorem u64_pos' (c : Int) : 0 ≤ IntKind.u64.wrap c := Int.emod_nonneg _ (by decide)
theorem rdw_rdv {w : World} {v : Value} {xs : List Int} (h : RdW w v xs) : RdV w v (xs.map (Value.int .i64)) := by
  obtain ⟨p, c, rfl, h | ⟨b, o, rfl, hb, hc⟩⟩ := h
  · exact ⟨p, c, by simp, .inl (by rw [h]; rfl)⟩
  · refine ⟨_, c, by simp, .inr ⟨b, o, rfl, hb, fun j hj => ?_⟩⟩
    have hj' : j < xs.length := by simpa using hj
    rw [hc j hj', List.getElem?_map, List.getD_eq_getElem?_getD, List.getElem?_eq_getElem hj']
    rfl
theorem conv4 (c : Int) : ∃ k : Nat, k < 4 ∧ IntKind.i64.wrap ((IntKind.u64.wrap c).tmod 4) = k := by
  have h := u64_pos' c
  generalize IntKind.u64.wrap c = u at h
  rw [Int.tmod_eq_emod_of_nonneg h]
  refine ⟨(u % 4).toNat, by omega, ?_⟩
  rw [IntWalk.i64_in _ (by omega)]
  omega
theorem byte_in (j : Nat) (h : j ≤ 40) : IntKind.u8.wrap ((j : Int) + 1) = (j : Int) + 1 := by
  simp [IntKind.wrap, IntKind.bits, IntKind.signed]
  omega
/-- A list with one more behind. -/
theorem crs_app (ks : List Bool) (t : Int) (l l2 : List Wri) (s : List Sec) : ∀ j, j ≤ l.length → crs ks t (l ++ l2) s j = crs ks t l s j
  | 0, _ => rfl
  | j + 1, h => by
    rw [crs, crs, crs_app ks t l l2 s j (by omega), List.getElem?_append_left (by omega)]
/-- What is wanted, and what the disk holds. -/
structure Rel (want : List Int) (S : List Sec) : Prop where
  lw : want.length = 4
  ls : S.length = 4
  all : ∀ q, q < 4 → ∃ (m : Int) (s : Sec), want[q]? = some m ∧ S[q]? = some s ∧ (m < 0 ∧ s.2 = true ∨ 0 ≤ m ∧ m ≤ 41 ∧ s.2 = false ∧ s.1[0]? = some m)
theorem Rel.start : Rel [0, 0, 0, 0] (List.replicate 4 zsec) := ⟨rfl, rfl, fun q hq => by
  have : q = 0 ∨ q = 1 ∨ q = 2 ∨ q = 3 := by omega
  rcases this with rfl | rfl | rfl | rfl <;> exact ⟨0, zsec, rfl, rfl, .inr ⟨by omega, by omega, rfl, rfl⟩⟩⟩
theorem Rel.set {want : List Int} {S : List Sec} (h : Rel want S) {i : Nat} (hi : i < 4) (m : Int) (s : Sec) (hs : m < 0 ∧ s.2 = true ∨ 0 ≤ m ∧ m ≤ 41 ∧ s.2 = false ∧ s.1[0]? = some m) : Rel (want.set i m) (S.set i s) := ⟨by simp [h.lw], by simp [h.ls], fun q hq => by
  by_cases e : q = i
  · subst e
    exact ⟨m, s, by rw [List.getElem?_set_self (by rw [h.lw]; exact hq)], by rw [List.getElem?_set_self (by rw [h.ls]; exact hq)], hs⟩
  · rw [List.getElem?_set_ne (Ne.symm e), List.getElem?_set_ne (Ne.symm e)]
    exact h.all q hq⟩
/-- One write: torn, kept, lost. -/
theorem Rel.torn {want : List Int} {ks : List Bool} {t : Int} {l : List Wri} {s : List Sec} (h : Rel want (crs ks t l s l.length)) {i : Nat} (hi : i < 4) (bs : List Int) (ht : (l.length : Int) = t) : Rel (want.set i (-1)) (crs ks t (l ++ [(i, bs)]) s (l ++ [(i, bs)]).length) := by
  obtain ⟨m, y, _, hy, _⟩ := h.all i hi
  rw [List.length_append, List.length_singleton, crs, List.getElem?_append_right (Nat.le_refl _), Nat.sub_self, crs_app _ _ _ _ _ _ (Nat.le_refl _)]
  show Rel _ (stepC ks t l.length (i, bs) _)
  rw [stepC, if_pos ht]
  simp only [hy]
  exact h.set hi _ _ (.inl ⟨by omega, rfl⟩)
theorem Rel.kept {want : List Int} {ks : List Bool} {t : Int} {l : List Wri} {s : List Sec} (h : Rel want (crs ks t l s l.length)) {i : Nat} (hi : i < 4) (bs : List Int) (ht : (l.length : Int) ≠ t) (hk : ks.getD l.length false = true) (hl : l.length ≤ 40) (h0 : bs[0]? = some ((l.length : Int) + 1)) : Rel (want.set i ((l.length : Int) + 1)) (crs ks t (l ++ [(i, bs)]) s (l ++ [(i, bs)]).length) := by
  rw [List.length_append, List.length_singleton, crs, List.getElem?_append_right (Nat.le_refl _), Nat.sub_self, crs_app _ _ _ _ _ _ (Nat.le_refl _)]
  show Rel _ (stepC ks t l.length (i, bs) _)
  rw [stepC, if_neg ht, hk]
  exact h.set hi _ _ (.inr ⟨by omega, by omega, rfl, h0⟩)
theorem Rel.lost {want : List Int} {ks : List Bool} {t : Int} {l : List Wri} {s : List Sec} (h : Rel want (crs ks t l s l.length)) (i : Nat) (bs : List Int) (ht : (l.length : Int) ≠ t) (hk : ks.getD l.length false = false) : Rel want (crs ks t (l ++ [(i, bs)]) s (l ++ [(i, bs)]).length) := by
  rw [List.length_append, List.length_singleton, crs, List.getElem?_append_right (Nat.le_refl _), Nat.sub_self, crs_app _ _ _ _ _ _ (Nat.le_refl _)]
  show Rel _ (stepC ks t l.length (i, bs) _)
  rw [stepC, if_neg ht, hk]
  exact h
/-- A cell of a row beside the disk's. -/
def intRow (v : Value) (l : List Int) : RowD := ⟨3, 1, v, l.length, l.map (Value.int .i64)⟩
theorem Dsk.setR {w0 w : World} {db n : Nat} {d : Dk} {vs vn vw vk : Value} {g c : Nat} {l : List Int} {R : List RowD} (T : Dsk w0 w db n d vs vn vw vk (intRow (.slice (some ⟨g, 0, none⟩) l.length c) l :: R)) (j : Nat) (x : Int) : Dsk w0 (w.setCell ⟨g, j, none⟩ (.int .i64 x)) db n d vs vn vw vk (intRow (.slice (some ⟨g, 0, none⟩) l.length c) (l.set j x) :: R) := by
  have h : w.ownsRow w0.heap.size 3 1 (.slice (some ⟨g, 0, none⟩) l.length c) l.length (l.map (Value.int .i64)) := T.fam.row 5 _ rfl
  obtain ⟨hr, hg⟩ := World.ownsRow.stored h j (.int .i64 x)
  have e : (l.map (Value.int .i64)).set j (.int .i64 x) = (l.set j x).map (Value.int .i64) := by rw [List.map_set]
  rw [e] at hr
  exact ⟨T.fam.put 5 rfl (r' := intRow (.slice (some ⟨g, 0, none⟩) l.length c) (l.set j x)) hg (by show World.ownsRow _ _ _ _ _ (l.set j x).length _; rw [List.length_set]; exact hr) (fun k hk => .inl hk), T.ok⟩
theorem Dsk.init {w0 w : World} {db n : Nat} {d : Dk} {vs vn vw vk : Value} {R l : List RowD} (T : Dsk w0 w db n d vs vn vw vk (R ++ l)) : Dsk w0 w db n d vs vn vw vk R := by
  have h := T.fam
  rw [← List.append_assoc] at h
  exact ⟨h.init, T.ok⟩
end Go.Proofs.Ytgcndphocpedjaa
