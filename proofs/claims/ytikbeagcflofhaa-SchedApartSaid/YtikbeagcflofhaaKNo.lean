/-
  KNOW: newSearch: the uses, in memory; and the search that comes of it. Own work.
-/
import Derived.Test.YtikbeagcflofhaaKNm
namespace Go.Proofs.Ytikbeagcflofhaa
open Go.RowKit Go.Maps
set_option maxRecDepth 100000
section
variable {w1 wq w' : World} {L : List Tm} {n sb nb kb ob mb fb i : Nat} {uv : Value} {cs : List Value} {ms fs : List Int} {vs : Nat → Value}
/-- The uses are there. -/
theorem Bd.setUv (T : Bd w1 L n sb nb kb ob mb fb uv cs ms fs vs i wq) (u : Value) : Bd w1 L n sb nb kb ob mb fb u cs ms fs vs i (wq.setCell ⟨sb, 5, none⟩ u) := by
  have hK : Keeps (fun k => k = sb) wq (wq.setCell ⟨sb, 5, none⟩ u) := Keeps.of_grown (put_grown wq ⟨sb, 5, none⟩ u) (fun k hk => by cases hk; rfl)
  have far : ∀ (j : Nat), j ≠ 5 → (wq.setCell ⟨sb, 5, none⟩ u).cell? ⟨sb, j, none⟩ = wq.cell? ⟨sb, j, none⟩ := fun j hj => by
    simp [go_sem, hj, Ne.symm hj]
  refine ⟨(far 0 (by omega)).trans T.s0, (far 1 (by omega)).trans T.s1, (far 2 (by omega)).trans T.s2, (far 3 (by omega)).trans T.s3, (far 4 (by omega)).trans T.s4, ?_, (far 6 (by omega)).trans T.s6, ?_, ?_, row_keeps T.nd hK (own_ne (Ne.symm T.six.d1.1)), row_keeps T.kn hK (own_ne (Ne.symm T.six.d1.2.1)), row_keeps T.op hK (own_ne (Ne.symm T.six.d1.2.2.1)), row_keeps T.ms hK (own_ne (Ne.symm T.six.d1.2.2.2.1)), row_keeps T.fs hK (own_ne (Ne.symm T.six.d1.2.2.2.2)), fun q hq t ht => ?_, T.six, Nat.le_trans T.room hK.size, T.below.trans (hK.below T.below.size (fun k hk => by subst hk; exact (T.six.lo k (by simp)).1))⟩
  · simp [go_sem, T.s5]
  · simp [go_sem, T.z5]
  · simp [go_sem, T.z6]
  · obtain ⟨c0, c1, c2, rd, hh, cap⟩ := T.done q hq t ht
    refine ⟨c0, c1, c2, rdw_kept rd hK (fun _ k hk h => ?_), hh, cap⟩
    have h1 := hh k hk
    have h2 := (T.six.lo sb (by simp)).2
    have h3 : k = sb := h.2
    omega
/-- A block beside the six may change, where no node's arguments stand. -/
theorem Bd.beside (T : Bd w1 L n sb nb kb ob mb fb uv cs ms fs vs i wq) {b : Nat} (hK : Keeps (fun k => k = b) wq w') (hb : w1.heap.size + 6 ≤ b) (hv : ∀ j, j < i → ∀ t, L[j]? = some t → t.2.2 ≠ [] → (vs j).ownBlock ≠ some b) : Bd w1 L n sb nb kb ob mb fb uv cs ms fs vs i w' := by
  have ns : ∀ k, (k = sb ∨ k = nb ∨ k = kb ∨ k = ob ∨ k = mb ∨ k = fb) → ¬ k = b := fun k hk e => by have := (T.six.lo k hk).2; omega
  have hsb := Nat.lt_of_lt_of_le (T.six.lo sb (.inl rfl)).2 T.room
  have hns : ¬ sb = b := ns sb (.inl rfl)
  refine ⟨(hK.cell (p := ⟨sb, 0, none⟩) hsb hns).trans T.s0, (hK.cell (p := ⟨sb, 1, none⟩) hsb hns).trans T.s1, (hK.cell (p := ⟨sb, 2, none⟩) hsb hns).trans T.s2, (hK.cell (p := ⟨sb, 3, none⟩) hsb hns).trans T.s3, (hK.cell (p := ⟨sb, 4, none⟩) hsb hns).trans T.s4, (hK.cell (p := ⟨sb, 5, none⟩) hsb hns).trans T.s5, (hK.cell (p := ⟨sb, 6, none⟩) hsb hns).trans T.s6, (hK.frozen (p := ⟨sb, 5, none⟩) hsb hns).trans T.z5, (hK.frozen (p := ⟨sb, 6, none⟩) hsb hns).trans T.z6, row_keeps T.nd hK (own_ne (ns nb (by simp))), row_keeps T.kn hK (own_ne (ns kb (by simp))), row_keeps T.op hK (own_ne (ns ob (by simp))), row_keeps T.ms hK (own_ne (ns mb (by simp))), row_keeps T.fs hK (own_ne (ns fb (by simp))), fun q hq t ht => ?_, T.six, Nat.le_trans T.room hK.size, T.below.trans (hK.below T.below.size (fun k hk => by subst hk; omega))⟩
  obtain ⟨c0, c1, c2, rd, hh, cap⟩ := T.done q hq t ht
  exact ⟨c0, c1, c2, rdw_kept rd hK (fun hx k hk h => hv q hq t ht hx (by rw [hk]; exact congrArg some h.2)), hh, cap⟩
end
/-- While the uses are laid. -/
structure Bu (w1 : World) (L : List Tm) (n sb nb kb ob mb fb ub xb cx : Nat) (cs : List Value) (vs : Nat → Value) (E : List (Nat × Nat)) (nx us : List Int) (wq : World) : Prop where
  bd : Bd w1 L n sb nb kb ob mb fb (.slice (some ⟨ub, 0, none⟩) (off L n) (off L n)) cs (msF L n n) (fsP L n n) vs n wq
  rus : wq.ownsRow w1.heap.size 3 1 (.slice (some ⟨ub, 0, none⟩) (off L n) (off L n)) (off L n) (us.map (Value.int .i64))
  rnx : wq.ownsRow w1.heap.size 3 1 (.slice (some ⟨xb, 0, none⟩) (n + 1) cx) (n + 1) (nx.map (Value.int .i64))
  laid : Laid L E nx us
  lu : w1.heap.size + 6 ≤ ub
  lx : w1.heap.size + 6 ≤ xb
  ne : ub ≠ xb
  au : ∀ j, j < n → ∀ t, L[j]? = some t → t.2.2 ≠ [] → (vs j).ownBlock ≠ some ub
  ax : ∀ j, j < n → ∀ t, L[j]? = some t → t.2.2 ≠ [] → (vs j).ownBlock ≠ some xb
section
variable {w1 wq w' : World} {L : List Tm} {n sb nb kb ob mb fb ub xb cx : Nat} {cs : List Value} {vs : Nat → Value} {E : List (Nat × Nat)} {nx us : List Int}
theorem Bu.step (T : Bu w1 L n sb nb kb ob mb fb ub xb cx cs vs E nx us wq) (hB : Below wq.heap.size wq w') : Bu w1 L n sb nb kb ob mb fb ub xb cx cs vs E nx us w' :=
  ⟨T.bd.step hB, row_keeps (F := fun _ => False) T.rus (Keeps.of_below hB) (fun _ _ h => h), row_keeps (F := fun _ => False) T.rnx (Keeps.of_below hB) (fun _ _ h => h), T.laid, T.lu, T.lx, T.ne, T.au, T.ax⟩
/-- One use more: written, and counted. -/
theorem Bu.more (T : Bu w1 L n sb nb kb ob mb fb ub xb cx cs vs E nx us wq) {F : List (Nat × Nat)} {u x : Nat} (hE : edg L L.length = E ++ (u, x) :: F) (hx : x < L.length) (hB : Below (wq.setCell ⟨ub, off L x + (usOf E x).length, none⟩ (.int .i64 u)).heap.size (wq.setCell ⟨ub, off L x + (usOf E x).length, none⟩ (.int .i64 u)) w') :
    Bu w1 L n sb nb kb ob mb fb ub xb cx cs vs (E ++ [(u, x)]) (nx.set x ((off L x + (usOf E x).length : Nat) + 1)) (us.set (off L x + (usOf E x).length) u) (w'.setCell ⟨xb, x, none⟩ (.int .i64 ((off L x + (usOf E x).length : Nat) + 1))) := by
  obtain ⟨hlt, hla⟩ := T.laid.more hE hx
  obtain ⟨r1, g1⟩ := World.ownsRow.stored T.rus (off L x + (usOf E x).length) (.int .i64 u)
  rw [iset] at r1
  have K1 : Keeps (fun k => k = ub) wq (wq.setCell ⟨ub, off L x + (usOf E x).length, none⟩ (.int .i64 u)) := Keeps.of_grown g1 (fun k hk => by cases hk; rfl)
  have b1 := (T.bd.beside K1 T.lu T.au).step hB
  have u1 := row_keeps (F := fun _ => False) r1 (Keeps.of_below hB) (fun _ _ h => h)
  have n1 := row_keeps (F := fun _ => False) (row_keeps T.rnx K1 (own_ne (Ne.symm T.ne))) (Keeps.of_below hB) (fun _ _ h => h)
  obtain ⟨r2, g2⟩ := World.ownsRow.stored n1 x (.int .i64 ((off L x + (usOf E x).length : Nat) + 1))
  rw [iset] at r2
  have K2 : Keeps (fun k => k = xb) w' (w'.setCell ⟨xb, x, none⟩ (.int .i64 ((off L x + (usOf E x).length : Nat) + 1))) := Keeps.of_grown g2 (fun k hk => by cases hk; rfl)
  exact ⟨b1.beside K2 T.lx T.ax, row_keeps u1 K2 (own_ne T.ne), r2, hla, T.lu, T.lx, T.ne, T.au, T.ax⟩
/-- The search that comes of it. -/
theorem Bu.sea (T : Bu w1 L n sb nb kb ob mb fb ub xb cx cs vs (edg L L.length) nx us wq) (hn : L.length = n) (hW : Wf L) :
    ∃ A, A.sb = sb ∧ Sea w1 A L (s0 L) (.slice none 0 0) wq ∧ Seg L (usr L) A := by
  subst hn
  have hs : ∀ k, (k = sb ∨ k = nb ∨ k = kb ∨ k = ob ∨ k = mb ∨ k = fb) → k < wq.heap.size := fun k hk => Nat.lt_of_lt_of_le (T.bd.six.lo k hk).2 T.bd.room
  have lf : (fsP L L.length L.length).length = L.length + 1 := fsP_len L _ _
  have lu := T.laid.lu
  have hd1 := T.bd.six.d1
  have hd2 := T.bd.six.d2
  have hd3 := T.bd.six.d3
  have wr : ∀ k, Wr ⟨sb, kb, ob, mb, L.length, L.length, L.length, nb, L.length, fb, L.length + 1, ub, off L L.length, fsP L L.length L.length, us, vs⟩ (.slice none 0 0) k → k = sb ∨ k = kb ∨ k = ob ∨ k = mb := fun k hk => by
    rcases hk with h | h | h | h | h
    · exact .inl h
    · exact .inr (.inl h)
    · exact .inr (.inr (.inl h))
    · exact .inr (.inr (.inr h))
    · cases h
  have six : ∀ k, k = sb ∨ k = kb ∨ k = ob ∨ k = mb → k < w1.heap.size + 6 := fun k hk => (T.bd.six.lo k (by rcases hk with h | h | h | h <;> simp [h])).2
  refine ⟨⟨sb, kb, ob, mb, L.length, L.length, L.length, nb, L.length, fb, L.length + 1, ub, off L L.length, fsP L L.length L.length, us, vs⟩, rfl, ⟨⟨T.bd.s0, T.bd.s1, T.bd.s2, T.bd.s3, ?_, ?_, T.bd.s6, T.bd.z6, fun i hi => ?_, fun h => ?_, hs nb (by simp), ?_, fun _ k hk h => ?_, ?_, fun _ k hk h => ?_, hd1.2.1, hd1.2.2.1, hd1.2.2.2.1, hd3.1, hd3.2.1, hd3.2.2.2.1, (fun k hk => by cases hk), fun k hk => ?_, T.bd.below⟩, ?_, ?_, ?_, ?_⟩, ⟨lf, fun i hi => ?_, ?_, ?_, hW.len⟩⟩
  · show wq.cell? ⟨sb, 4, none⟩ = some (.slice (some ⟨fb, 0, none⟩) (fsP L L.length L.length).length (L.length + 1))
    rw [lf]
    exact T.bd.s4
  · show wq.cell? ⟨sb, 5, none⟩ = some (.slice (some ⟨ub, 0, none⟩) us.length (off L L.length))
    rw [lu]
    exact T.bd.s5
  · obtain ⟨c0, c1, c2, rd, hh, cap⟩ := T.bd.done i hi _ (List.getElem?_eq_getElem hi)
    refine ⟨(World.ownsRow.cellAt T.bd.nd (i * 3) (by omega)).trans c0, (World.ownsRow.cellAt T.bd.nd (i * 3 + 1) (by omega)).trans c1, (World.ownsRow.cellAt T.bd.nd (i * 3 + 2) (by omega)).trans c2, rd, fun _ k hk h => ?_, cap⟩
    have h1 := hh k hk
    have h2 := six k (wr k h)
    omega
  · rcases wr _ h with e | e | e | e
    · exact hd1.1 e.symm
    · exact hd2.1 e
    · exact hd2.2.1 e
    · exact hd2.2.2.1 e
  · have h := (irow_of T.bd.fs).reads.rdw
    show RdW wq (.slice (some ⟨fb, 0, none⟩) (fsP L L.length L.length).length (L.length + 1)) _
    rw [lf]
    exact h
  · cases hk
    rcases wr _ h with e | e | e | e
    · exact hd1.2.2.2.2 e.symm
    · exact hd3.2.2.1 e.symm
    · exact hd3.2.2.2.2.1 e.symm
    · exact hd3.2.2.2.2.2 e.symm
  · have h := (irow_of T.rus).reads.rdw
    show RdW wq (.slice (some ⟨ub, 0, none⟩) us.length (off L L.length)) _
    rw [lu]
    exact h
  · cases hk
    have h1 := T.lu
    have h2 := six ub (wr _ h)
    omega
  · have h1 := wr k hk
    have h2 : k = sb ∨ k = nb ∨ k = kb ∨ k = ob ∨ k = mb ∨ k = fb := by rcases h1 with h | h | h | h <;> simp [h]
    exact ⟨(T.bd.six.lo k h2).1, hs k h2⟩
  · exact T.bd.kn
  · exact T.bd.op
  · have h := T.bd.ms
    have e : msF L L.length L.length = (s0 L).ms := by
      unfold msF s0
      refine List.map_congr_left fun j hj => ?_
      rw [if_pos (List.mem_range.1 hj)]
    rw [e] at h
    exact h
  · exact World.ownsRow_nil _ _ _ _
  · refine ⟨off L i, off L (i + 1), ?_, ?_, off_mono L (by omega), ?_, T.laid.done hi⟩
    · show (fsP L L.length L.length).getD i 0 = _
      rw [fsP_at (by omega), if_pos (by omega)]
    · show (fsP L L.length L.length).getD (i + 1) 0 = _
      rw [fsP_at (by omega), if_pos (by omega)]
    · show _ ≤ us.length
      rw [lu]
      exact off_mono L hi
  · show us.length ≤ off L L.length
    omega
  · show us.length ≤ _
    have := off_le hW L.length
    have := hW.len
    omega
/-- Before the first use is laid. -/
theorem Bu.start {wr w5 : World} {oU : Obj} {m c5 : Nat} {p5 : Option Addr} (T : Bd w1 L n sb nb kb ob mb fb (.slice none 0 0) cs (msF L n n) (fsP L n n) vs n wr) (hn : L.length = n) (hlt : n ≤ 1048576) (hm : m = off L n) (hm2 : m ≤ 400 * n) (hU : oU = .cells (madeCells (Value.int .i64 0).cells (m * 1)) 3)
    (hown : w5.ownsRow ((wr.alloc oU).setCell ⟨sb, 5, none⟩ (.slice (some ⟨wr.heap.size, 0, none⟩) m m)).heap.size 3 1 (.slice p5 (fsP L n n).length c5) (fsP L n n).length ((fsP L n n).map (Value.int .i64)))
    (B5 : Below ((wr.alloc oU).setCell ⟨sb, 5, none⟩ (.slice (some ⟨wr.heap.size, 0, none⟩) m m)).heap.size ((wr.alloc oU).setCell ⟨sb, 5, none⟩ (.slice (some ⟨wr.heap.size, 0, none⟩) m m)) w5) :
    ∃ xb, p5 = some ⟨xb, 0, none⟩ ∧ Bu w1 L n sb nb kb ob mb fb wr.heap.size xb c5 cs vs [] (fsP L n n) (List.replicate m 0) w5 := by
  have hsz : ((wr.alloc oU).setCell ⟨sb, 5, none⟩ (.slice (some ⟨wr.heap.size, 0, none⟩) m m)).heap.size = wr.heap.size + 1 := by simp
  have hroom := T.room
  have hsb := (T.six.lo sb (.inl rfl)).2
  have ha : (wr.alloc oU).heap[wr.heap.size]? = some oU := heap_alloc_new wr oU
  rw [hU] at ha
  have r0 := row_of_heap (base := w1.heap.size) (n := m) ha (by omega) (size_madeCells _ _) (by unfold maxLen; omega)
  rw [made_ints, ← hU] at r0
  have K1 : Keeps (fun k => k = sb) (wr.alloc oU) ((wr.alloc oU).setCell ⟨sb, 5, none⟩ (.slice (some ⟨wr.heap.size, 0, none⟩) m m)) := Keeps.of_grown (put_grown _ ⟨sb, 5, none⟩ _) (fun k hk => by cases hk; rfl)
  have r1 := row_keeps r0 K1 (own_ne (by omega))
  have r2 := row_keeps (F := fun _ => False) r1 (Keeps.of_below B5) (fun _ _ h => h)
  have b1 := ((T.step ((Below.refl _ wr).alloc (Nat.le_refl _) oU)).setUv (.slice (some ⟨wr.heap.size, 0, none⟩) m m)).step B5
  rw [fsP_len] at hown
  obtain ⟨xb, rfl, hx1, hx2, _, _⟩ := row_open hown (by omega)
  rw [hsz] at hx1
  have hlow := row_lower (base' := w1.heap.size) hown (by rw [hsz]; omega)
  have old : ∀ j, j < n → ∀ t, L[j]? = some t → t.2.2 ≠ [] → ∀ k, (vs j).ownBlock = some k → k < wr.heap.size := fun j hj t ht hx k hk => rdw_ltn (T.done j hj t ht).rd hx hk
  subst hm
  refine ⟨xb, rfl, b1, r2, hlow, ⟨by rw [fsP_len, hn], by simp [hn], fun x hx => ?_, fun x hx j hj => by simp [usOf] at hj⟩, by omega, by omega, by omega, fun j hj t ht hx e => ?_, fun j hj t ht hx e => ?_⟩
  · rw [fsP_at (by omega), if_pos (by omega)]
    simp [usOf]
  · have := old j hj t ht hx _ e
    omega
  · have := old j hj t ht hx _ e
    omega
end
end Go.Proofs.Ytikbeagcflofhaa
