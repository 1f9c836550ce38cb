/-
  KNOW: the search in memory: what it holds, what a write of one of its rows leaves. Own work.
-/
import Derived.Test.YtikbeagcflofhaaKNa
import Derived.Test.YtikbeagcflofhaaSQb
namespace Go.Proofs.Ytikbeagcflofhaa
open Go.RowKit Go.Maps
set_option maxRecDepth 100000
/-- Where the search lies. -/
structure Adr where
  sb : Nat
  kb : Nat
  ob : Nat
  mb : Nat
  ck : Nat
  co : Nat
  cm : Nat
  nb : Nat
  cn : Nat
  fb : Nat
  cf : Nat
  ub : Nat
  cu : Nat
  fs : List Int
  us : List Int
  vs : Nat → Value
def Adr.fv (A : Adr) : Value := .slice (some ⟨A.fb, 0, none⟩) A.fs.length A.cf
def Adr.uv (A : Adr) : Value := .slice (some ⟨A.ub, 0, none⟩) A.us.length A.cu
/-- The blocks that it writes. -/
def Wr (A : Adr) (wv : Value) (k : Nat) : Prop := k = A.sb ∨ k = A.kb ∨ k = A.ob ∨ k = A.mb ∨ wv.ownBlock = some k
/-- What is read stands in no block of F. -/
def Apt (v : Value) (xs : List Int) (F : Nat → Prop) : Prop := xs ≠ [] → ∀ k, v.ownBlock = some k → ¬ F k
theorem rdw_kept {F : Nat → Prop} {w w' : World} {v : Value} {xs : List Int} (h : RdW w v xs) (hK : Keeps F w w') (hn : Apt v xs (fun k => k < w.heap.size ∧ F k)) : RdW w' v xs := by
  obtain ⟨p, c, rfl, h | ⟨b, o, rfl, hb, hc⟩⟩ := h
  · exact ⟨p, c, rfl, .inl h⟩
  · by_cases hx : xs = []
    · exact ⟨_, c, rfl, .inl hx⟩
    · exact ⟨_, c, rfl, .inr ⟨b, o, rfl, Nat.lt_of_lt_of_le hb hK.size, fun t ht => (hK.cell (p := ⟨b, o + t, none⟩) hb (fun hf => hn hx b rfl ⟨hb, hf⟩)).trans (hc t ht)⟩⟩
theorem rdw_ltn {w : World} {v : Value} {xs : List Int} (h : RdW w v xs) (hx : xs ≠ []) {k : Nat} (hk : v.ownBlock = some k) : k < w.heap.size := by
  obtain ⟨p, c, rfl, h | ⟨b, o, rfl, hb, hc⟩⟩ := h
  · exact absurd h hx
  · cases hk
    exact hb
structure NodeAt (wr : World) (nb i : Nat) (v : Value) (t : Tm) (F : Nat → Prop) : Prop where
  c0 : wr.cell? ⟨nb, i * 3, none⟩ = some (.int .i64 t.1)
  c1 : wr.cell? ⟨nb, i * 3 + 1, none⟩ = some (.int .i64 t.2.1)
  c2 : wr.cell? ⟨nb, i * 3 + 2, none⟩ = some v
  rd : RdW wr v t.2.2
  ap : Apt v t.2.2 F
  cap : ∀ p n c, v = .slice p n c → n ≤ c
structure Base (w0 : World) (A : Adr) (L : List Tm) (wv : Value) (wr : World) : Prop where
  c0 : wr.cell? ⟨A.sb, 0, none⟩ = some (.slice (some ⟨A.nb, 0, none⟩) L.length A.cn)
  c1 : wr.cell? ⟨A.sb, 1, none⟩ = some (.slice (some ⟨A.kb, 0, none⟩) L.length A.ck)
  c2 : wr.cell? ⟨A.sb, 2, none⟩ = some (.slice (some ⟨A.ob, 0, none⟩) L.length A.co)
  c3 : wr.cell? ⟨A.sb, 3, none⟩ = some (.slice (some ⟨A.mb, 0, none⟩) L.length A.cm)
  c4 : wr.cell? ⟨A.sb, 4, none⟩ = some A.fv
  c5 : wr.cell? ⟨A.sb, 5, none⟩ = some A.uv
  c6 : wr.cell? ⟨A.sb, 6, none⟩ = some wv
  z6 : wr.frozen? ⟨A.sb, 6, none⟩ = false
  node : ∀ i (h : i < L.length), NodeAt wr A.nb i (A.vs i) L[i] (Wr A wv)
  nbF : ¬ Wr A wv A.nb
  nlt : A.nb < wr.heap.size
  fst : RdW wr A.fv A.fs
  fF : Apt A.fv A.fs (Wr A wv)
  use : RdW wr A.uv A.us
  uF : Apt A.uv A.us (Wr A wv)
  n1 : A.sb ≠ A.kb
  n2 : A.sb ≠ A.ob
  n3 : A.sb ≠ A.mb
  n4 : A.kb ≠ A.ob
  n5 : A.kb ≠ A.mb
  n6 : A.ob ≠ A.mb
  nw : ∀ k, wv.ownBlock = some k → k ≠ A.sb ∧ k ≠ A.kb ∧ k ≠ A.ob ∧ k ≠ A.mb
  own : ∀ k, Wr A wv k → w0.heap.size ≤ k ∧ k < wr.heap.size
  below : Below w0.heap.size w0 wr
/-- Which segments of the uses are whose. -/
structure Seg (L : List Tm) (U : Nat → List Nat) (A : Adr) : Prop where
  lf : A.fs.length = L.length + 1
  seg : ∀ i, i < L.length → ∃ a b : Nat, A.fs.getD i 0 = a ∧ A.fs.getD (i + 1) 0 = b ∧ a ≤ b ∧ b ≤ A.us.length ∧ (A.us.drop a).take (b - a) = (U i).map (fun u : Nat => (u : Int))
  cap : A.us.length ≤ A.cu
  small : A.us.length ≤ 2147483648
  lt : L.length ≤ 1048576
structure Sea (w0 : World) (A : Adr) (L : List Tm) (s : Sk) (wv : Value) (wr : World) : Prop where
  base : Base w0 A L wv wr
  kn : wr.ownsRow w0.heap.size 4 1 (.slice (some ⟨A.kb, 0, none⟩) L.length A.ck) L.length (s.kn.map Value.bool)
  op : wr.ownsRow w0.heap.size 4 1 (.slice (some ⟨A.ob, 0, none⟩) L.length A.co) L.length (s.op.map Value.bool)
  ms : wr.ownsRow w0.heap.size 3 1 (.slice (some ⟨A.mb, 0, none⟩) L.length A.cm) L.length (s.ms.map (Value.int .i64))
  wk : wr.ownsRow w0.heap.size 3 1 wv s.wk.length (s.wk.map (fun i : Nat => Value.int .i64 i))
theorem own_block' {w : World} {base e size n : Nat} {v : Value} {xs : List Value} (h : w.ownsRow base e size v n xs) : ∀ k, v.ownBlock = some k → base ≤ k ∧ k < w.heap.size := fun _ hk => row_base h hk
section
variable {w0 wr w' : World} {A : Adr} {L : List Tm} {s : Sk} {wv : Value} {H : Nat → Prop}
theorem Base.kept (T : Base w0 A L wv wr) (hK : Keeps H wr w') (hs : ¬ H A.sb) (hH : ∀ k, H k → Wr A wv k ∨ wr.heap.size ≤ k) : Base w0 A L wv w' := by
  have hsb := (T.own A.sb (.inl rfl)).2
  have far : ∀ k, k < wr.heap.size → ¬ Wr A wv k → ¬ H k := fun k hk hn hh => by
    rcases hH k hh with h | h
    · exact hn h
    · omega
  refine ⟨(hK.cell (p := ⟨A.sb, 0, none⟩) hsb hs).trans T.c0, (hK.cell (p := ⟨A.sb, 1, none⟩) hsb hs).trans T.c1, (hK.cell (p := ⟨A.sb, 2, none⟩) hsb hs).trans T.c2, (hK.cell (p := ⟨A.sb, 3, none⟩) hsb hs).trans T.c3, (hK.cell (p := ⟨A.sb, 4, none⟩) hsb hs).trans T.c4, (hK.cell (p := ⟨A.sb, 5, none⟩) hsb hs).trans T.c5, (hK.cell (p := ⟨A.sb, 6, none⟩) hsb hs).trans T.c6, (hK.frozen (p := ⟨A.sb, 6, none⟩) hsb hs).trans T.z6, fun i hi => ?_, T.nbF, Nat.lt_of_lt_of_le T.nlt hK.size, ?_, T.fF, ?_, T.uF, T.n1, T.n2, T.n3, T.n4, T.n5, T.n6, T.nw, fun k hk => ⟨(T.own k hk).1, Nat.lt_of_lt_of_le (T.own k hk).2 hK.size⟩, T.below.trans (hK.below T.below.size (fun k hk => ?_))⟩
  · obtain ⟨h0, h1, h2, h3, h4, h5⟩ := T.node i hi
    have hn := far A.nb T.nlt T.nbF
    exact ⟨(hK.cell (p := ⟨A.nb, i * 3, none⟩) T.nlt hn).trans h0, (hK.cell (p := ⟨A.nb, i * 3 + 1, none⟩) T.nlt hn).trans h1, (hK.cell (p := ⟨A.nb, i * 3 + 2, none⟩) T.nlt hn).trans h2, rdw_kept h3 hK (fun hx k hk hh => far k hh.1 (h4 hx k hk) hh.2), h4, h5⟩
  · exact rdw_kept T.fst hK (fun hx k hk hh => far k hh.1 (T.fF hx k hk) hh.2)
  · exact rdw_kept T.use hK (fun hx k hk hh => far k hh.1 (T.uF hx k hk) hh.2)
  · rcases hH k hk with h | h
    · exact (T.own k h).1
    · have := T.below.size; omega
theorem Sea.step (T : Sea w0 A L s wv wr) (hB : Below wr.heap.size wr w') : Sea w0 A L s wv w' :=
  ⟨T.base.kept (Keeps.of_below (F := fun _ => False) hB) (fun h => h) (fun _ h => h.elim), row_keeps (F := fun _ => False) T.kn (Keeps.of_below hB) (fun _ _ h => h), row_keeps (F := fun _ => False) T.op (Keeps.of_below hB) (fun _ _ h => h), row_keeps (F := fun _ => False) T.ms (Keeps.of_below hB) (fun _ _ h => h), row_keeps (F := fun _ => False) T.wk (Keeps.of_below hB) (fun _ _ h => h)⟩
theorem bset (l : List Bool) (i : Nat) (b : Bool) : (l.map Value.bool).set i (.bool b) = (l.set i b).map Value.bool := by rw [List.map_set]
theorem iset (l : List Int) (i : Nat) (b : Int) : (l.map (Value.int .i64)).set i (.int .i64 b) = (l.set i b).map (Value.int .i64) := by rw [List.map_set]
theorem Sea.setKn (T : Sea w0 A L s wv wr) (i : Nat) : Sea w0 A L { s with kn := s.kn.set i true } wv (wr.setCell ⟨A.kb, i, none⟩ (.bool true)) := by
  obtain ⟨hr, hg⟩ := World.ownsRow.stored T.kn i (.bool true)
  rw [bset] at hr
  have hK : Keeps (fun k => k = A.kb) wr (wr.setCell ⟨A.kb, i, none⟩ (.bool true)) := Keeps.of_grown hg (fun k hk => by cases hk; rfl)
  refine ⟨T.base.kept hK T.base.n1 (fun k hk => .inl (.inr (.inl hk))), hr, row_keeps T.op hK (fun k hk he => ?_), row_keeps T.ms hK (fun k hk he => ?_), row_keeps T.wk hK (fun k hk he => (T.base.nw k hk).2.1 he)⟩
  · cases hk
    exact T.base.n4 he.symm
  · cases hk
    exact T.base.n5 he.symm
theorem Sea.setOp (T : Sea w0 A L s wv wr) (i : Nat) : Sea w0 A L { s with op := s.op.set i true } wv (wr.setCell ⟨A.ob, i, none⟩ (.bool true)) := by
  obtain ⟨hr, hg⟩ := World.ownsRow.stored T.op i (.bool true)
  rw [bset] at hr
  have hK : Keeps (fun k => k = A.ob) wr (wr.setCell ⟨A.ob, i, none⟩ (.bool true)) := Keeps.of_grown hg (fun k hk => by cases hk; rfl)
  refine ⟨T.base.kept hK T.base.n2 (fun k hk => .inl (.inr (.inr (.inl hk)))), row_keeps T.kn hK (fun k hk he => ?_), hr, row_keeps T.ms hK (fun k hk he => ?_), row_keeps T.wk hK (fun k hk he => (T.base.nw k hk).2.2.1 he)⟩
  · cases hk
    exact T.base.n4 he
  · cases hk
    exact T.base.n6 he.symm
theorem Sea.setMs (T : Sea w0 A L s wv wr) (i : Nat) (x : Int) : Sea w0 A L { s with ms := s.ms.set i x } wv (wr.setCell ⟨A.mb, i, none⟩ (.int .i64 x)) := by
  obtain ⟨hr, hg⟩ := World.ownsRow.stored T.ms i (.int .i64 x)
  rw [iset] at hr
  have hK : Keeps (fun k => k = A.mb) wr (wr.setCell ⟨A.mb, i, none⟩ (.int .i64 x)) := Keeps.of_grown hg (fun k hk => by cases hk; rfl)
  refine ⟨T.base.kept hK T.base.n3 (fun k hk => .inl (.inr (.inr (.inr (.inl hk))))), row_keeps T.kn hK (fun k hk he => ?_), row_keeps T.op hK (fun k hk he => ?_), hr, row_keeps T.wk hK (fun k hk he => (T.base.nw k hk).2.2.2 he)⟩
  · cases hk
    exact T.base.n5 he
  · cases hk
    exact T.base.n6 he
/-- Another row of work: grown, or shorter. -/
theorem Sea.setWk (T : Sea w0 A L s wv wr) {wv' : Value} {wk' : List Nat} (hg : wr.grownBy w' wv.ownBlock) (hr : w'.ownsRow w0.heap.size 3 1 wv' wk'.length (wk'.map (fun i : Nat => Value.int .i64 i))) (hat : ∀ k, wv'.ownBlock = some k → wv.ownBlock = some k ∨ wr.heap.size ≤ k) : Sea w0 A L { s with wk := wk' } wv' (w'.setCell ⟨A.sb, 6, none⟩ wv') := by
  have hK : Keeps (fun k => wv.ownBlock = some k) wr w' := Keeps.of_grown hg (fun k hk => hk)
  have T1 := T.base.kept hK (fun h => (T.base.nw _ h).1 rfl) (fun k hk => .inl (.inr (.inr (.inr (.inr hk)))))
  have hsb := (T1.own A.sb (.inl rfl)).2
  have hK2 : Keeps (fun k => k = A.sb) w' (w'.setCell ⟨A.sb, 6, none⟩ wv') := Keeps.of_grown (put_grown w' ⟨A.sb, 6, none⟩ wv') (fun k hk => by cases hk; rfl)
  have old : ∀ k, k < wr.heap.size → Wr A wv' k → Wr A wv k := fun k hk hw => by
    rcases hw with h | h | h | h | h
    · exact .inl h
    · exact .inr (.inl h)
    · exact .inr (.inr (.inl h))
    · exact .inr (.inr (.inr (.inl h)))
    · rcases hat k h with h1 | h1
      · exact .inr (.inr (.inr (.inr h1)))
      · omega
  have far : ∀ (j : Nat), j ≠ 6 → (w'.setCell ⟨A.sb, 6, none⟩ wv').cell? ⟨A.sb, j, none⟩ = w'.cell? ⟨A.sb, j, none⟩ := fun j hj => by
    simp [go_sem, hj, Ne.symm hj]
  have nws : ∀ k, wv'.ownBlock = some k → k ≠ A.sb ∧ k ≠ A.kb ∧ k ≠ A.ob ∧ k ≠ A.mb := fun k hk => by
    rcases hat k hk with h | h
    · exact T.base.nw k h
    · have h1 := (T.base.own A.sb (.inl rfl)).2
      have h2 := (T.base.own A.kb (.inr (.inl rfl))).2
      have h3 := (T.base.own A.ob (.inr (.inr (.inl rfl)))).2
      have h4 := (T.base.own A.mb (.inr (.inr (.inr (.inl rfl))))).2
      omega
  have ff : ∀ k, k < wr.heap.size → ¬ Wr A wv k → ¬ Wr A wv' k := fun k hk hn hw => hn (old k hk hw)
  have hK3 : Keeps (fun k => wv.ownBlock = some k ∨ k = A.sb) wr (w'.setCell ⟨A.sb, 6, none⟩ wv') := (hK.mono (fun _ _ h => .inl h)).trans (hK2.mono (fun _ _ h => .inr h)) (fun _ _ h => h)
  have rd : ∀ {v : Value} {xs : List Int}, RdW wr v xs → Apt v xs (Wr A wv) → RdW (w'.setCell ⟨A.sb, 6, none⟩ wv') v xs ∧ Apt v xs (Wr A wv') := by
    intro v xs h hF
    refine ⟨rdw_kept h hK3 (fun hx k hk hh => hF hx k hk ?_), fun hx k hk => ff k (rdw_ltn h hx hk) (hF hx k hk)⟩
    rcases hh.2 with h1 | h1
    · exact .inr (.inr (.inr (.inr h1)))
    · exact .inl h1
  obtain ⟨r1, r2⟩ := rd T.base.fst T.base.fF
  obtain ⟨r3, r4⟩ := rd T.base.use T.base.uF
  have hnb : ¬ (wv.ownBlock = some A.nb ∨ A.nb = A.sb) := fun hh => T.base.nbF (by
    rcases hh with h1 | h1
    · exact .inr (.inr (.inr (.inr h1)))
    · exact .inl h1)
  have hrow := (own_block' hr)
  refine ⟨⟨(far 0 (by omega)).trans T1.c0, (far 1 (by omega)).trans T1.c1, (far 2 (by omega)).trans T1.c2, (far 3 (by omega)).trans T1.c3, (far 4 (by omega)).trans T1.c4, (far 5 (by omega)).trans T1.c5, ?_, ?_, fun i hi => ?_, ff _ T.base.nlt T.base.nbF, Nat.lt_of_lt_of_le T.base.nlt hK3.size, r1, r2, r3, r4, T.base.n1, T.base.n2, T.base.n3, T.base.n4, T.base.n5, T.base.n6, nws, fun k hk => ?_, T1.below.trans (hK2.below T1.below.size (fun k hk => by subst hk; exact (T.base.own A.sb (.inl rfl)).1))⟩, ?_, ?_, ?_, ?_⟩
  · obtain ⟨u, hu⟩ : ∃ u, w'.cell? ⟨A.sb, 6, none⟩ = some u := ⟨_, T1.c6⟩
    simp [go_sem, hu]
  · simp [go_sem, T1.z6]
  · obtain ⟨h0, h1, h2, h3, h4, h5⟩ := T.base.node i hi
    obtain ⟨r5, r6⟩ := rd h3 h4
    exact ⟨(hK3.cell (p := ⟨A.nb, i * 3, none⟩) T.base.nlt hnb).trans h0, (hK3.cell (p := ⟨A.nb, i * 3 + 1, none⟩) T.base.nlt hnb).trans h1, (hK3.cell (p := ⟨A.nb, i * 3 + 2, none⟩) T.base.nlt hnb).trans h2, r5, r6, h5⟩
  · rcases hk with h | h | h | h | h
    · exact ⟨(T.base.own k (.inl h)).1, Nat.lt_of_lt_of_le (T.base.own k (.inl h)).2 hK3.size⟩
    · exact ⟨(T.base.own k (.inr (.inl h))).1, Nat.lt_of_lt_of_le (T.base.own k (.inr (.inl h))).2 hK3.size⟩
    · exact ⟨(T.base.own k (.inr (.inr (.inl h)))).1, Nat.lt_of_lt_of_le (T.base.own k (.inr (.inr (.inl h)))).2 hK3.size⟩
    · exact ⟨(T.base.own k (.inr (.inr (.inr (.inl h))))).1, Nat.lt_of_lt_of_le (T.base.own k (.inr (.inr (.inr (.inl h))))).2 hK3.size⟩
    · have := hrow k h
      exact ⟨this.1, Nat.lt_of_lt_of_le this.2 hK2.size⟩
  · refine row_keeps T.kn hK3 (fun k hk hh => ?_)
    cases hk
    rcases hh with h1 | h1
    · exact (T.base.nw _ h1).2.1 rfl
    · exact T.base.n1 h1.symm
  · refine row_keeps T.op hK3 (fun k hk hh => ?_)
    cases hk
    rcases hh with h1 | h1
    · exact (T.base.nw _ h1).2.2.1 rfl
    · exact T.base.n2 h1.symm
  · refine row_keeps T.ms hK3 (fun k hk hh => ?_)
    cases hk
    rcases hh with h1 | h1
    · exact (T.base.nw _ h1).2.2.2 rfl
    · exact T.base.n3 h1.symm
  · exact row_keeps hr hK2 (fun k hk hh => (nws k hk).1 hh)
end
end Go.Proofs.Ytikbeagcflofhaa
