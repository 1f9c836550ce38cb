/-
  THE SHADOW MACHINE: the operations that read, write and grow the heap. Own work.
-/
import Derived.Test.YtnlhpiieihnbiaaDoorShG
namespace Go.Sh

section
variable {ν : Nat → Int} {ρ : Emb} {F : Facts} {P : Program} {w : World} {H H' : AH} {o : Oper} {k : K} {e : Tr AV} {a : Act} {r : AV} {call : CallFn}

/-- What an operation with the heap is to be. -/
def Eff (ν : Nat → Int) (ρ : Emb) (P : Program) (H : AH) (w : World) (a : Act) (o : Oper) (r : AV) (H' : AH) : Prop :=
  ∃ nx v w' ρ', (execOp a.eval o).run P w = .ok nx w' ∧ (nx = .value v ∨ (nx = .skip ∧ v = undef)) ∧ VR ν ρ' r v ∧ HR ν ρ' H' w' ∧ Stp ρ H w ρ' H' w'

def Fresh (ρ : Emb) (H H' : AH) : Prop := ∀ b, H.next ≤ b → b < H'.next → ρ b = none

theorem newRowA_spec {t : Nat} {cs : List AV} {r : Nat × AH} (h : newRowA H t cs = some r) : t ≠ mapTag ∧ H.alloc ⟨cs, t, true⟩ = some r := by
  unfold newRowA at h
  split at h
  · cases h
  · rename_i hm
    exact ⟨beq_no hm, h⟩

theorem newRow_eff {t b : Nat} {cs : List AV} {C : Array Value} (hh : HR ν ρ H w) (hal : newRowA H t cs = some (b, H')) (hfr : Fresh ρ H H') (hl : LR ν ρ cs C) :
    (newRow t C).run P w = .ok ⟨w.heap.size, 0, none⟩ (w.alloc (.cells C t)) ∧ HR ν (ρ.at b ⟨w.heap.size, 0, C.size⟩) H' (w.alloc (.cells C t)) ∧ Stp ρ H w (ρ.at b ⟨w.heap.size, 0, C.size⟩) H' (w.alloc (.cells C t)) ∧ ρ b = none := by
  obtain ⟨hmt, hal⟩ := newRowA_spec hal
  obtain ⟨a1, a2, _⟩ := AH.alloc_spec hal
  have hb : ρ b = none := hfr b (by omega) (by omega)
  obtain ⟨h1, h2⟩ := hh.fresh (e := t) hal hb hmt (C := C) (fun j c hc => by
    have hj : j < cs.length := (List.getElem?_eq_some_iff.1 hc).1
    have hj' : j < C.size := by rw [← hl.1]; exact hj
    exact ⟨C[j], by simp [hj'], hl.2 j c _ hc (by simp [hj'])⟩)
  exact ⟨rfl, h1, h2, hb⟩

theorem rd_load (hh : HR ν ρ H w) {t : TypeId} {n : Option Nat} (hn : cAgg P t = some n) {b off : Nat} {pl : Pl} (hpl : ρ b = some pl) {v : AV} (hrd : H.rd b off n = some v) :
    ∃ u, (loadVar t ⟨pl.cb, pl.co + off, none⟩).run P w = .ok u w ∧ VR ν ρ v u := by
  obtain ⟨i, hi, ha, hm⟩ := cAgg_spec (w := w) hn
  unfold AH.rd at hrd
  split at hrd
  · rename_i y hy
    have hb := hh.find hy hpl
    split at hrd
    · cases hrd
    rename_i hmb
    have hmb := beq_no hmb
    unfold AV.part at hrd
    cases n with
    | none =>
      obtain ⟨u, h1, h2⟩ := hb.read hmb hrd
      exact ⟨u, by simp [loadVar, ha, h1], h2⟩
    | some m =>
      simp only at hrd
      split at hrd
      · rename_i hle
        simp only [Option.some.injEq] at hrd
        subst hrd
        obtain ⟨vs, g1, g2, g3⟩ := hb.row hmb (off := off) (n := m) (by simpa using hle)
        have hl := run_loadCells_list (P := P) w ⟨pl.cb, pl.co + off, none⟩ vs g3
        rw [g1] at hl
        have hm' := hm m rfl
        exact ⟨.agg vs.toArray, by simp [loadVar, ha, sizeOf, typeInfo, hi, hm', hl], .ag _ _ g2.1 g2.2⟩
      · cases hrd
  · cases hrd

theorem sim_ld (hh : HR ν ρ H w) (he : ER ν ρ e a.tmps) {x : Operand} {x' : O} {t : TypeId} {n : Option Nat} (ho : o.op = .load t x) (hx : cO x = some x') (hn : cAgg P t = some n)
    (h : opA F call e H (.ld n x') = some (r, H')) : Eff ν ρ P H w a o r H' := by
  have hv := cO_sim he hx
  obtain ⟨i, hi, ha, hm⟩ := cAgg_spec (w := w) hn
  simp only [opA] at h
  split at h
  · rename_i b off e1
    rw [e1] at hv
    generalize hxv : a.eval x = xv at hv
    cases hv
    rename_i pl hpl
    simp only [Option.map_eq_some_iff, Prod.mk.injEq] at h
    obtain ⟨v, hrd, rfl, rfl⟩ := h
    unfold AH.rd at hrd
    split at hrd
    · rename_i y hy
      have hb := hh.find hy hpl
      split at hrd
      · cases hrd
      rename_i hmb
      have hmb := beq_no hmb
      unfold AV.part at hrd
      cases n with
      | none =>
        obtain ⟨u, h1, h2⟩ := hb.read hmb hrd
        refine ⟨.value u, u, w, ρ, ?_, .inl rfl, h2, hh, Stp.refl _ _ _⟩
        simp [execOp, ho, hxv, Instr.loadAt, Instr.sureAddr, loadVar, ha, h1]
      | some m =>
        simp only at hrd
        split at hrd
        · rename_i hle
          simp only [Option.some.injEq] at hrd
          subst hrd
          obtain ⟨vs, g1, g2, g3⟩ := hb.row hmb (off := off) (n := m) (by simpa using hle)
          have hl := run_loadCells_list (P := P) w ⟨pl.cb, pl.co + off, none⟩ vs g3
          rw [g1] at hl
          refine ⟨.value (.agg vs.toArray), .agg vs.toArray, w, ρ, ?_, .inl rfl, .ag _ _ g2.1 g2.2, hh, Stp.refl _ _ _⟩
          have hm' := hm m rfl
          simp [execOp, ho, hxv, Instr.loadAt, Instr.sureAddr, loadVar, ha, sizeOf, typeInfo, hi, hm', hl]
        · cases hrd
    · cases hrd
  · cases h

theorem sim_alloc (hh : HR ν ρ H w) {t : TypeId} {zv : AV} {z : List AV} (ho : o.op = .alloc t) (hz : cZero P t = some zv) (hzc : zv.cells = some z) (hfr : Fresh ρ H H')
    (h : opA F call e H (.alloc t z) = some (r, H')) : Eff ν ρ P H w a o r H' := by
  obtain ⟨vz, h1, h2, _⟩ := cZero_spec (w := w) (ν := ν) (ρ := ρ) hz
  obtain ⟨hl, _⟩ := cells_sim hzc h2
  simp only [opA] at h
  split at h
  · simp only [Option.map_eq_some_iff, Prod.mk.injEq] at h
    obtain ⟨⟨b, H2⟩, hal, rfl, rfl⟩ := h
    obtain ⟨g1, g2, g3, g4⟩ := newRow_eff (P := P) hh hal hfr hl
    refine ⟨.value (.pointer (some ⟨w.heap.size, 0, none⟩)), _, _, _, ?_, .inl rfl, ?_, g2, g3⟩
    · simp [execOp, ho, Instr.alloc, h1, newVar, g1]
    · exact .p b 0 ⟨w.heap.size, 0, vz.cells.size⟩ (Emb.at_same g4)
  · cases h

theorem sim_box (hh : HR ν ρ H w) (he : ER ν ρ e a.tmps) {t : TypeId} {x : Operand} {x' : O} (ho : o.op = .box t x) (hx : cO x = some x') (hfr : Fresh ρ H H')
    (h : opA F call e H (.box t x') = some (r, H')) : Eff ν ρ P H w a o r H' := by
  have hv := cO_sim he hx
  simp only [opA] at h
  split at h
  · rename_i cs hcs
    obtain ⟨hl, _⟩ := cells_sim hcs hv
    simp only [Option.map_eq_some_iff, Prod.mk.injEq] at h
    obtain ⟨⟨b, H2⟩, hal, rfl, rfl⟩ := h
    obtain ⟨g1, g2, g3, g4⟩ := newRow_eff (P := P) hh hal hfr hl
    refine ⟨.value (.pointer (some ⟨w.heap.size, 0, none⟩)), _, _, _, ?_, .inl rfl, ?_, g2, g3⟩
    · simp [execOp, ho, Instr.box, newVar, g1]
    · exact .p b 0 ⟨w.heap.size, 0, (a.eval x).cells.size⟩ (Emb.at_same g4)
  · cases h

theorem repA_get (z : List AV) (_hz : 0 < z.length) : ∀ (n j : Nat), (repA n z)[j]? = if j < n * z.length then z[j % z.length]? else none := by
  intro n
  induction n with
  | zero => intro j; simp [repA]
  | succ n ih =>
    intro j
    simp only [repA]
    by_cases h1 : j < z.length
    · rw [List.getElem?_append_left h1, if_pos (by rw [Nat.succ_mul]; omega), Nat.mod_eq_of_lt h1]
    · rw [List.getElem?_append_right (by omega), ih]
      have e1 : (j - z.length < n * z.length) = (j < (n + 1) * z.length) := by rw [Nat.succ_mul]; apply propext; omega
      have e2 : (j - z.length) % z.length = j % z.length := by
        conv => rhs; rw [show j = (j - z.length) + z.length from by omega]
        rw [Nat.add_mod_right]
      simp only [e1, e2]

theorem made_sim {z : List AV} {zv : Array Value} (hl : LR ν ρ z zv) (hz : 0 < z.length) (n : Nat) : LR ν ρ (repA n z) ((Array.range (n * z.length)).map fun i => zv[i % zv.size]!) := by
  have hsz : ∀ n, (repA n z).length = n * z.length := by
    intro n
    induction n with
    | zero => simp [repA]
    | succ n ih => simp [repA, ih, Nat.succ_mul, Nat.add_comm]
  refine ⟨by simp [hsz], fun j x v hx hv => ?_⟩
  rw [repA_get z hz] at hx
  split at hx
  · rename_i hj
    simp [hj] at hv
    have hm : j % z.length < z.length := Nat.mod_lt _ hz
    refine hl.2 (j % z.length) x v hx ?_
    rw [← hl.1] at hv
    have hm2 : j % z.length < zv.size := by rw [← hl.1]; exact hm
    rw [← hv, getElem!_pos zv _ hm2]
    simp [hm2]
  · cases hx

theorem sim_bsl (hh : HR ν ρ H w) (he : ER ν ρ e a.tmps) {t t' : TypeId} {n s : Nat} {ps : Array (Nat × Operand)} {zv : AV} {z : List AV} {l : List (Nat × Nat × O)}
    (ho : o.op = .buildSlice t n ps) (hu : P.underlying t = some (.slice t')) (hz : cZero P t' = some zv) (hzc : zv.cells = some z) (hs : cSize P t' = some s) (hp : cParts (fun i => some (i * s, s)) ps.toList = some l) (hfr : Fresh ρ H H')
    (h : opA F call e H (.bsl t' s n z l) = some (r, H')) : Eff ν ρ P H w a o r H' := by
  obtain ⟨vz, h1, h2, i, hi, hiz⟩ := cZero_spec (w := w) (ν := ν) (ρ := ρ) hz
  obtain ⟨hl, _⟩ := cells_sim hzc h2
  simp only [opA] at h
  split at h
  · rename_i hc
    simp only [Bool.and_eq_true, Nat.ble_eq, Nat.blt_eq] at hc
    have hzl : z.length = s := Nat.eq_of_beq_eq_true hc.1.1.2
    have hpos : 0 < s := hc.1.2
    split at h
    · rename_i cs hcs
      simp only [Option.map_eq_some_iff, Prod.mk.injEq] at h
      obtain ⟨⟨b, H2⟩, hal, rfl, rfl⟩ := h
      have hm := made_sim (ν := ν) (ρ := ρ) hl (by omega) n
      rw [hzl] at hm
      obtain ⟨rv, g1, g2⟩ := fill_sim he ps.toList l _ _ cs hp hm hcs
      obtain ⟨k1, k2, k3, k4⟩ := newRow_eff (P := P) hh hal hfr g2
      refine ⟨.value (.slice (some ⟨w.heap.size, 0, none⟩) n n), _, _, _, ?_, .inl rfl, ?_, k2, k3⟩
      · have el : (ps.map fun (i, x) => (i, a.eval x)).toList = ps.toList.map fun p => (p.1, a.eval p.2) := by simp
        have hnot : ¬ (n * s > 2 ^ 24) := by have := hc.1.1.1; omega
        simp only [execOp, ho, Instr.buildSlice, Sem.run_bind, run_underlying hu, Result.andThen_ok, cSize_spec hs, Sem.run_ite, if_neg hnot, Sem.run_pure]
        by_cases h0 : n * s = 0
        · have hn0 : n = 0 := by
            rcases Nat.mul_eq_zero.1 h0 with h | h <;> omega
          subst hn0
          simp only [Nat.zero_mul, if_true, el] at g1 ⊢
          have er : (Array.range 0).map (fun (i : Nat) => (#[] : Array Value)[i % (#[] : Array Value).size]!) = (Array.range 0).map (fun (i : Nat) => vz.cells[i % vz.cells.size]!) := by simp
          rw [er, g1]
          simp [k1]
        · simp only [if_neg h0, Sem.run_bind, h1, Result.andThen_ok, Sem.run_pure, el, g1]
          simp [k1]
      · exact .sl b 0 _ _ ⟨w.heap.size, 0, rv.size⟩ n n (Emb.at_same k4) rfl rfl (Nat.le_refl _)
    · cases h
  · cases h

theorem sim_msl (hh : HR ν ρ H w) (he : ER ν ρ e a.tmps) {t t' : TypeId} {l c : Operand} {l' c' : O} {zv : AV} {z : List AV} {i : TypeInfo}
    (ho : o.op = .makeSlice t l c) (hu : P.underlying t = some (.slice t')) (hl : cO l = some l') (hc : cO c = some c') (hz : cZero P t' = some zv) (hzc : zv.cells = some z) (hi : P.info? t' = some i) (hfr : Fresh ρ H H')
    (h : opA F call e H (.msl t' i.size i.bytes z l' c') = some (r, H')) : Eff ν ρ P H w a o r H' := by
  obtain ⟨vz, h1, h2, i', hi', hiz⟩ := cZero_spec (w := w) (ν := ν) (ρ := ρ) hz
  rw [hi] at hi'
  cases hi'
  obtain ⟨hlz, _⟩ := cells_sim hzc h2
  simp only [opA] at h
  split at h
  · rename_i ln cn e1 e2
    obtain ⟨kl, hkl⟩ := asNat_sim e1 (cO_sim he hl)
    obtain ⟨kc, hkc⟩ := asNat_sim e2 (cO_sim he hc)
    split at h
    · rename_i hcc
      simp only [Bool.and_eq_true, Nat.ble_eq, Nat.blt_eq] at hcc
      obtain ⟨⟨⟨⟨⟨q1, q2⟩, q3⟩, q4⟩, q5⟩, q6⟩ := hcc
      have hzl : z.length = i.size := Nat.eq_of_beq_eq_true q4
      simp only [Option.map_eq_some_iff, Prod.mk.injEq] at h
      obtain ⟨⟨b, H2⟩, hal, rfl, rfl⟩ := h
      have hm := made_sim (ν := ν) (ρ := ρ) hlz (by omega) cn
      rw [hzl] at hm
      obtain ⟨k1, k2, k3, k4⟩ := newRow_eff (P := P) hh hal hfr hm
      unfold most at q2 q3
      have hb : (i.bytes : Int) * (cn : Int) ≤ 281474976710656 := by
        have : ((cn * i.bytes : Nat) : Int) ≤ 140737488355328 := by omega
        rw [Nat.mul_comm] at this
        rw [Int.natCast_mul] at this
        omega
      have hr := run_make (P := P) w t t' i vz hu hi hiz kl kc ln cn (by omega) (by omega) hb (by omega)
      refine ⟨.value (.slice (some ⟨w.heap.size, 0, none⟩) ln cn), _, _, _, ?_, .inl rfl, ?_, k2, k3⟩
      · simp only [execOp, ho, Sem.run_bind, hkl, hkc, hr, Result.andThen_ok]
        rfl
      · exact .sl b 0 _ _ ⟨w.heap.size, 0, ((Array.range (cn * i.size)).map fun j => vz.cells[j % vz.cells.size]!).size⟩ ln cn (Emb.at_same k4) rfl rfl q1
    · cases h
  · cases h

theorem sim_st (hh : HR ν ρ H w) (he : ER ν ρ e a.tmps) {t : TypeId} {x v : Operand} {x' v' : O} {n : Nat} (ho : o.op = .store t x v) (hx : cO x = some x') (hv : cO v = some v') (hn : cSize P t = some n)
    (h : opA F call e H (.st n x' v') = some (r, H')) : Eff ν ρ P H w a o r H' := by
  have hxs := cO_sim he hx
  have hvs := cO_sim he hv
  simp only [opA] at h
  split at h
  · rename_i b off cs e1 e2
    rw [e1] at hxs
    generalize hxv : a.eval x = xv at hxs
    cases hxs
    rename_i pl hpl
    obtain ⟨hl, _⟩ := cells_sim e2 hvs
    split at h
    · rename_i hb
      have hcn : cs.length = n := Nat.eq_of_beq_eq_true hb
      simp only [Option.map_eq_some_iff, Prod.mk.injEq] at h
      obtain ⟨H2, hwr, rfl, rfl⟩ := h
      obtain ⟨w', g1, g2, g3⟩ := AH.wr_sim (P := P) (vs := (a.eval v).cells.toList) hh hpl hwr (by simpa using hl)
      refine ⟨.skip, undef, w', ρ, ?_, .inr ⟨rfl, rfl⟩, .u _, g2, g3⟩
      have hsz : (a.eval v).cells.size = n := by rw [← hl.1]; exact hcn
      simp only [execOp, ho, hxv, Instr.storeAt, Instr.sureAddr, storeVar, Sem.run_bind, Sem.run_pure, Result.andThen_ok, cSize_spec hn, hsz, ne_eq, not_true_eq_false, if_false, g1]
    · cases h
  · cases h

theorem lenA_sim {x : AV} {n : Nat} {v : Value} (h : lenA x = some n) (hv : VR ν ρ x v) : ∃ base c, v = .slice base n c := by
  unfold lenA at h
  split at h
  · rename_i b off m cap
    simp only [Option.some.injEq] at h
    subst h
    cases hv
    rename_i pl nn cc hle hpl hnn hcap
    have : m = nn := by simp only [AI.val] at hnn; exact Int.ofNat.inj hnn
    subst this
    exact ⟨_, _, rfl⟩
  · simp only [Option.some.injEq] at h
    subst h
    cases hv
    exact ⟨_, _, rfl⟩
  · simp only [Option.some.injEq] at h
    subst h
    cases hv
    exact ⟨_, _, rfl⟩
  · cases h

/-- The first elements' cells: at an address, or there are none. -/
theorem firstA_sim (hh : HR ν ρ H w) {x : AV} {v : Value} {size n : Nat} {cs : List AV} (h : firstA H size n x = some cs) (hv : VR ν ρ x v) :
    ∃ vs : List Value, vs.length = n * size ∧ LR ν ρ cs vs.toArray ∧ ((∃ ad m c, v = .slice (some ad) m c ∧ ∀ (j : Nat) u, vs[j]? = some u → w.cell? (ad.add j) = some u) ∨ (n = 0 ∧ ∃ base m c, v = .slice base m c)) := by
  unfold firstA at h
  split at h
  · cases hv
    rename_i pl nn cc hle hpl hnn hcap
    obtain ⟨vs, g1, g2, g3⟩ := AH.row_sim hh hpl h
    exact ⟨vs, g1, g2, .inl ⟨_, _, _, rfl, g3⟩⟩
  · cases hv
    split at h
    · rename_i hb
      have : n = 0 := Nat.eq_of_beq_eq_true hb
      subst this
      simp only [Option.some.injEq] at h
      subst h
      exact ⟨[], by simp, ⟨rfl, by simp⟩, .inr ⟨rfl, _, _, _, rfl⟩⟩
    · cases h
  · cases hv
    split at h
    · rename_i hb
      have : n = 0 := Nat.eq_of_beq_eq_true hb
      subst this
      simp only [Option.some.injEq] at h
      subst h
      exact ⟨[], by simp, ⟨rfl, by simp⟩, .inr ⟨rfl, _, _, _, rfl⟩⟩
    · cases h
  · cases h

theorem firstA_run (hh : HR ν ρ H w) {x : AV} {v : Value} {size n : Nat} {cs : List AV} (h : firstA H size n x = some cs) (hv : VR ν ρ x v) :
    ∃ vs : List Value, LR ν ρ cs vs.toArray ∧ (Builtin.firstCells size n v).run P w = .ok vs.toArray w := by
  obtain ⟨vs, g1, g2, g3⟩ := firstA_sim hh h hv
  rcases g3 with ⟨ad, m, c, rfl, g3⟩ | ⟨rfl, base, m, c, rfl⟩
  · exact ⟨vs, g2, run_firstCells_some (P := P) w size n ad m c vs g1 g3⟩
  · have : vs = [] := List.eq_nil_of_length_eq_zero (by simpa using g1)
    subst this
    refine ⟨[], g2, ?_⟩
    cases base <;> simp [Builtin.firstCells, loadCells, loadCellsFrom]

def storesAt (base : Option Addr) (vs : List Value) : Sem Unit := match base with | some ad => storeCells ad vs | none => pure ()

theorem sim_cpy (hh : HR ν ρ H w) (he : ER ν ρ e a.tmps) {x y : Operand} {x' y' : O} {ts : Array TypeId} {t t' : TypeId} {s : Nat} (ho : o.op = .call { callee := .builtin .copy, args := #[x, y], argTypes := ts })
    (h0 : ts[0]? = some t) (hu : P.underlying t = some (.slice t')) (hs : cSize P t' = some s) (hx : cO x = some x') (hy : cO y = some y') (h : opA F call e H (.cpy s x' y') = some (r, H')) : Eff ν ρ P H w a o r H' := by
  have hxs := cO_sim he hx
  have hys := cO_sim he hy
  have run : (execOp a.eval o).run P w = ((Builtin.copy_ ts o.type #[a.eval x, a.eval y]).run P w).andThen fun v w => .ok (.value v) w := by
    simp [execOp, ho, resolve, invoke, builtin]
  simp only [opA] at h
  split at h
  · rename_i n1 n2 e1 e2
    obtain ⟨b1, c1, hv1⟩ := lenA_sim e1 hxs
    obtain ⟨b2, c2, hv2⟩ := lenA_sim e2 hys
    have fin : ∀ (cs : List AV), firstA H s (min n2 n1) (y'.ev e) = some cs → ∃ vs : List Value, LR ν ρ cs vs.toArray ∧ (Builtin.copy_ ts o.type #[a.eval x, a.eval y]).run P w =
        ((storesAt b1 vs).run P w).andThen fun _ w => .ok (goInt (min n2 n1 : Nat)) w := by
      intro cs hcs
      obtain ⟨vs, g1, g2⟩ := firstA_run (P := P) hh hcs hys
      refine ⟨vs, g1, ?_⟩
      rw [hv2] at g2
      have gg : (Builtin.firstCells s (Nat.min n2 n1) (Value.slice b2 n2 c2)).run P w = .ok vs.toArray w := g2
      rw [hv1, hv2]
      cases b1 with
      | none => simp [Builtin.copy_, h0, run_underlying hu, Builtin.lenOf, cSize_spec hs, gg, storesAt]
      | some ad => simp [Builtin.copy_, h0, run_underlying hu, Builtin.lenOf, cSize_spec hs, gg, storesAt]
    split at h
    · rename_i cs blk off m cap hcs hd
      rw [hd] at hxs
      obtain ⟨vs, g1, g2⟩ := fin cs hcs
      rw [hv1] at hxs
      cases hxs
      rename_i pl hpl hnn hcap hle
      simp only [Option.map_eq_some_iff, Prod.mk.injEq] at h
      obtain ⟨H2, hwr, rfl, rfl⟩ := h
      obtain ⟨w', k1, k2, k3⟩ := AH.wr_sim (P := P) hh hpl hwr g1
      refine ⟨.value (goInt (min n2 n1 : Nat)), _, w', ρ, ?_, .inl rfl, .i _ (.c _), k2, k3⟩
      rw [run, g2]
      simp only [storesAt, k1, Result.andThen_ok]
    · rename_i cs hcs hd
      split at h
      · rename_i hemp
        simp only [Option.some.injEq, Prod.mk.injEq] at h
        obtain ⟨rfl, rfl⟩ := h
        obtain ⟨vs, g1, g2⟩ := fin cs hcs
        have hc0 : cs = [] := by simpa using hemp
        subst hc0
        have hv0 : vs = [] := List.eq_nil_of_length_eq_zero (by simpa using g1.1.symm)
        subst hv0
        refine ⟨.value (goInt (min n2 n1 : Nat)), _, w, ρ, ?_, .inl rfl, .i _ (.c _), hh, Stp.refl _ _ _⟩
        rw [run, g2]
        cases b1 <;> simp [storesAt, storeCells]
      · cases h
    · cases h
  · cases h

theorem HR.kill {b : Nat} (hh : HR ν ρ H w) {H1 : AH} (h : H.lay b none = some H1) :
    HR ν ρ H1 w ∧ (∀ j z, H1.get j = some z → j ≠ b ∧ H.get j = some z) := by
  have hget := AH.lay_get h
  have tr : ∀ j z, H1.get j = some z → j ≠ b ∧ H.get j = some z := by
    intro j z hz
    rw [hget j] at hz
    split at hz
    · cases hz
    · rename_i hne; exact ⟨hne, hz⟩
  exact ⟨⟨fun j z hz => hh.blk j z (tr j z hz).2, fun j j' z z' q q' hne hz hz' ho hq hq' => hh.apart j j' z z' q q' hne (tr j z hz).2 (tr j' z' hz').2 ho hq hq'⟩, tr⟩

/-- A slice that has grown into a new block of the world. -/
theorem grown_eff {H1 : AH} {t size bytes need sCap : Nat} {old new : List AV} {ov nv : List Value} {z : Array Value} (hh : HR ν ρ H1 w) (hfr : Fresh ρ H1 H') (h : grown H1 t size bytes need old new = some (r, H'))
    (hlo : LR ν ρ old ov.toArray) (hln : LR ν ρ new nv.toArray) (hz : z.size = size) (hn : ov.length + nv.length = need * size) :
    ∃ ρ', VR ν ρ' r (.slice (some ⟨w.heap.size, 0, none⟩) need (grownCap w need sCap t)) ∧
      HR ν ρ' H' (w.drew.alloc (.cells (ov.toArray ++ nv.toArray ++ Builtin.zeroCells z (grownCap w need sCap t - need)) t)) ∧
      Stp ρ H1 w ρ' H' (w.drew.alloc (.cells (ov.toArray ++ nv.toArray ++ Builtin.zeroCells z (grownCap w need sCap t - need)) t)) := by
  unfold grown at h
  split at h
  · split at h
    · rename_i b H2 hal
      simp only [Option.some.injEq, Prod.mk.injEq] at h
      obtain ⟨rfl, rfl⟩ := h
      obtain ⟨hmt, hal⟩ := newRowA_spec hal
      obtain ⟨a1, a2, _⟩ := AH.alloc_spec hal
      have hb : ρ b = none := hfr b (by omega) (by omega)
      have hd : HR ν ρ H1 w.drew := hh.drawn _
      have hoo : ∀ (j : Nat) c, (old ++ new)[j]? = some c → ∃ v, (ov.toArray ++ nv.toArray ++ Builtin.zeroCells z (grownCap w need sCap t - need))[j]? = some v ∧ VR ν ρ c v := by
        intro j c hc
        have l1 : old.length = ov.length := by simpa using hlo.1
        have l2 : new.length = nv.length := by simpa using hln.1
        have hj : j < old.length + new.length := by have := (List.getElem?_eq_some_iff.1 hc).1; simpa using this
        by_cases h1 : j < old.length
        · rw [List.getElem?_append_left h1] at hc
          have h2 : j < ov.length := by omega
          refine ⟨ov[j], ?_, hlo.2 j c _ hc (by simp [h2])⟩
          rw [Array.getElem?_append_left (by simp; omega), Array.getElem?_append_left (by simpa using h2)]
          simp [h2]
        · rw [List.getElem?_append_right (by omega)] at hc
          have h2 : j - ov.length < nv.length := by omega
          refine ⟨nv[j - ov.length], ?_, hln.2 _ c _ hc (by rw [l1]; simp [h2])⟩
          rw [Array.getElem?_append_left (by simp; omega), Array.getElem?_append_right (by simp; omega)]
          simp [h2]
      obtain ⟨g1, g2⟩ := hd.fresh (e := t) hal hb hmt hoo
      have hge := grownCap_ge w need sCap t
      have hsz : (ov.toArray ++ nv.toArray ++ Builtin.zeroCells z (grownCap w need sCap t - need)).size = grownCap w need sCap t * size := by
        simp only [Array.size_append, List.size_toArray, size_zeroCells, hz, hn, ← Nat.add_mul]
        congr 1
        omega
      refine ⟨_, ?_, g1, ?_⟩
      · refine .sl b 0 _ _ ⟨w.drew.heap.size, 0, (ov.toArray ++ nv.toArray ++ Builtin.zeroCells z (grownCap w need sCap t - need)).size⟩ need _ (Emb.at_same hb) rfl ?_ hge
        simp only [CapOk, hsz]
        omega
      · exact ⟨g2.ext, g2.fresh, g2.size, g2.os, g2.tape, g2.output, g2.frame, g2.owned, g2.place⟩
    · cases h
  · cases h

theorem run_append_in (t ty e : TypeId) (i : TypeInfo) (ht : P.underlying t = some (.slice e)) (hi : P.info? e = some i) (base : Option Addr) (sLen sCap : Nat) (b2 : Option Addr) (m c : Nat) (news : List Value)
    (hf : (Builtin.firstCells i.size m (.slice b2 m c)).run P w = .ok news.toArray w) (hroom : sLen + m ≤ sCap) :
    (Builtin.append_ #[t, t] ty #[.slice base sLen sCap, .slice b2 m c]).run P w = ((storesAt (base.map (·.add (sLen * i.size))) news).run P w).andThen fun _ w' => .ok (.slice base (sLen + m) sCap) w' := by
  cases base <;> simp [Builtin.append_, run_underlying ht, sizeOf, typeInfo, hi, Builtin.lenOf, hroom, hf, storesAt]

theorem sim_app (hh : HR ν ρ H w) (he : ER ν ρ e a.tmps) {x y : Operand} {x' y' : O} {ts : Array TypeId} {t t' : TypeId} {i : TypeInfo} {zv : AV} {zc : List AV} (ho : o.op = .call { callee := .builtin .append, args := #[x, y], argTypes := ts })
    (h0 : ts[0]? = some t) (h1 : ts[1]? = some t) (hu : P.underlying t = some (.slice t')) (hi : P.info? t' = some i) (hz : cZero P t' = some zv) (hzc : zv.cells = some zc) (hzl : zc.length = i.size) (hx : cO x = some x') (hy : cO y = some y') (hfr : Fresh ρ H H')
    (hts : ts = #[t, t]) (h : opA F call e H (.app t' i.size i.bytes x' y') = some (r, H')) : Eff ν ρ P H w a o r H' := by
  have _ := h0
  have _ := h1
  have hxs := cO_sim he hx
  have hys := cO_sim he hy
  obtain ⟨vz, z1, z2, i', hi', hiz⟩ := cZero_spec (w := w) (ν := ν) (ρ := ρ) hz
  rw [hi] at hi'
  cases hi'
  obtain ⟨hlz, _⟩ := cells_sim hzc z2
  have hzs : vz.cells.size = i.size := by rw [← hlz.1]; exact hzl
  have run : ∀ v w', (Builtin.append_ #[t, t] o.type #[a.eval x, a.eval y]).run P w = .ok v w' → (execOp a.eval o).run P w = .ok (.value v) w' := by
    intro v w' hr
    subst hts
    simp [execOp, ho, resolve, invoke, builtin, hr]
  simp only [opA] at h
  unfold appA at h
  split at h
  · rename_i n1 n2 e1 e2
    obtain ⟨b1, c1, hv1⟩ := lenA_sim e1 hxs
    obtain ⟨b2, c2, hv2⟩ := lenA_sim e2 hys
    split at h
    · cases h
    · rename_i new hnew
      obtain ⟨nv, g1, g2, g3⟩ := firstA_sim hh hnew hys
      split at h
      · rename_i hn0
        have hn0 : n2 = 0 := Nat.eq_of_beq_eq_true hn0
        subst hn0
        split at h
        · simp only [Option.some.injEq, Prod.mk.injEq] at h
          obtain ⟨rfl, rfl⟩ := h
          have hnv : nv = [] := List.eq_nil_of_length_eq_zero (by simpa using g1)
          subst hnv
          have hle : n1 ≤ c1 := by
            rw [hv1] at hxs
            generalize x'.ev e = xa at hxs e1
            cases hxs <;> first
              | assumption
              | omega
              | (simp [lenA] at e1; done)
          have hf : (Builtin.firstCells i.size 0 (.slice b2 0 c2)).run P w = .ok (([] : List Value).toArray) w := by
            cases b2 <;> simp [Builtin.firstCells, loadCells, loadCellsFrom]
          have hr := run_append_in (P := P) (w := w) t o.type t' i hu hi b1 n1 c1 b2 0 c2 [] hf (by omega)
          refine ⟨.value (.slice b1 n1 c1), _, w, ρ, run _ _ ?_, .inl rfl, ?_, hh, Stp.refl _ _ _⟩
          · rw [hv1, hv2, hr]
            cases b1 <;> simp [storesAt, storeCells]
          · rw [← hv1]; exact hxs
        · cases h
      · rename_i hn0
        have hn0' : 0 < n2 := by
          rcases Nat.eq_zero_or_pos n2 with hq | hq
          · subst hq; exact absurd rfl hn0
          · exact hq
        split at h
        · cases h
        · rename_i hall
          have hall' : ∀ c ∈ new, c.one = true := by
            intro c hc
            have : new.all AV.one = true := by simpa using hall
            exact List.all_eq_true.1 this c hc
          rcases g3 with ⟨ad, m, c, hyv, g3⟩ | ⟨hq, _⟩
          case inr => omega
          rw [hv2] at hyv
          cases hyv
          have hcomm : ∀ {H1 : AH} {old : List AV}, grown H1 t' i.size i.bytes (n1 + n2) old new = some (r, H') → (n1 + n2) * i.bytes ≤ 140737488355328 ∧ n1 + n2 ≤ 140737488355328 := by
            intro H1 old hg
            unfold grown at hg
            split at hg
            · rename_i hc
              simp only [Bool.and_eq_true, Nat.ble_eq] at hc
              exact ⟨hc.1.1, hc.1.2⟩
            · cases hg
          split at h
          · -- nothing there yet
            rename_i hxn
            rw [hxn] at hxs e1
            have hn1 : n1 = 0 := by simp [lenA] at e1; exact e1.symm
            subst hn1
            generalize hxv : a.eval x = xv at hxs
            cases hxs
            obtain ⟨q1, q2⟩ := hcomm h
            simp only [Nat.zero_add] at h q1 q2
            have hr := run_append_nil (P := P) w t o.type t' i vz hu hi hiz ad n2 c2 nv g1 g3 hn0' (by omega) (by omega)
            obtain ⟨ρ', k1, k2, k3⟩ := grown_eff (sCap := 0) (ov := []) hh hfr h ⟨rfl, by simp⟩ g2 hzs (by simpa using g1)
            refine ⟨_, _, _, ρ', run _ _ (by rw [hxv, hv2]; exact hr), .inl rfl, k1, ?_, ?_⟩
            · simpa using k2
            · simpa using k3
          · -- an empty one, without room
            rename_i hxn
            rw [hxn] at hxs e1
            have hn1 : n1 = 0 := by simp [lenA] at e1; exact e1.symm
            subst hn1
            generalize hxv : a.eval x = xv at hxs
            cases hxs
            rename_i ad1 cc hcc
            have := hcc rfl
            subst this
            obtain ⟨q1, q2⟩ := hcomm h
            have hr := run_append_grow (P := P) w t o.type t' i vz hu hi hiz ad1 0 0 [] (by simp) (by simp) ad n2 c2 nv g1 g3 (by omega) (by omega) (growslice_fits (by omega) q1)
            obtain ⟨ρ', k1, k2, k3⟩ := grown_eff (sCap := 0) (ov := []) hh hfr h ⟨rfl, by simp⟩ g2 hzs (by simpa using g1)
            exact ⟨_, _, _, ρ', run _ _ (by rw [hxv, hv2]; exact hr), .inl rfl, k1, k2, k3⟩
          · -- of known capacity
            rename_i blk off len cp hxn
            rw [hxn] at hxs
            generalize hxv : a.eval x = xv at hxs
            cases hxs
            rename_i pl n c hle hpl hnn hcap
            rw [hxv] at hv1
            cases hv1
            have hcap : cp = c1 := hcap
            subst hcap
            split at h
            · rename_i hfit
              simp only [Nat.ble_eq] at hfit
              split at h
              · rename_i H2 hwr
                simp only [Option.some.injEq, Prod.mk.injEq] at h
                obtain ⟨rfl, rfl⟩ := h
                have hf : (Builtin.firstCells i.size n2 (.slice (some ad) n2 c2)).run P w = .ok nv.toArray w := run_firstCells_some (P := P) w i.size n2 ad n2 c2 nv g1 g3
                have hr := run_append_in (P := P) (w := w) t o.type t' i hu hi (some ⟨pl.cb, pl.co + off, none⟩) n1 cp (some ad) n2 c2 nv hf hfit
                obtain ⟨w', k1, k2, k3⟩ := AH.wr_sim (P := P) hh hpl hwr g2
                refine ⟨.value (.slice (some ⟨pl.cb, pl.co + off, none⟩) (n1 + n2) cp), _, w', ρ, run _ _ ?_, .inl rfl, ?_, k2, k3⟩
                · rw [hxv, hv2, hr]
                  simp only [storesAt, Option.map_some, Addr.add_off, Nat.add_assoc, k1, Result.andThen_ok]
                · exact .sl blk off _ _ pl _ _ hpl rfl rfl hfit
              · cases h
            · rename_i hfit
              simp only [Nat.ble_eq] at hfit
              split at h
              · rename_i old hold
                obtain ⟨ov, l1, l2, l3⟩ := firstA_sim hh hold (VR.sl blk off len (.ex cp) pl n1 cp hpl hnn rfl hle)
                obtain ⟨q1, q2⟩ := hcomm h
                have l3' : ∀ (j : Nat) u, ov[j]? = some u → w.cell? ((⟨pl.cb, pl.co + off, none⟩ : Addr).add j) = some u := by
                  rcases l3 with ⟨ad', m', c', hq, l3⟩ | ⟨hq, _⟩
                  · cases hq; exact l3
                  · subst hq
                    have : ov = [] := List.eq_nil_of_length_eq_zero (by simpa using l1)
                    subst this
                    simp
                have hr := run_append_grow (P := P) w t o.type t' i vz hu hi hiz ⟨pl.cb, pl.co + off, none⟩ n1 cp ov l1 l3' ad n2 c2 nv g1 g3 (by omega) (by omega) (growslice_fits (by omega) q1)
                obtain ⟨ρ', k1, k2, k3⟩ := grown_eff (sCap := cp) hh hfr h l2 g2 hzs (by rw [l1, g1, ← Nat.add_mul])
                exact ⟨_, _, _, ρ', run _ _ (by rw [hxv, hv2]; exact hr), .inl rfl, k1, k2, k3⟩
              · cases h
          · -- its own
            rename_i blk off len z hxn
            rw [hxn] at hxs
            generalize hxv : a.eval x = xv at hxs
            cases hxs
            rename_i pl n c hle hpl hnn hcap
            rw [hxv] at hv1
            cases hv1
            split at h
            · rename_i bb old hbb hold
              split at h
              · rename_i hcond
                simp only [Bool.and_eq_true] at hcond
                obtain ⟨⟨⟨hown, hze⟩, hend⟩, hmb⟩ := hcond
                have hmb : bb.elem ≠ mapTag := fun e => by rw [e, Nat.beq_refl] at hmb; cases hmb
                have hze : z = i.size := Nat.eq_of_beq_eq_true hze
                have hend : off + n1 * i.size = bb.cells.length := Nat.eq_of_beq_eq_true hend
                subst hze
                split at h
                · rename_i H1 hk
                  obtain ⟨kh, ktr⟩ := hh.kill hk
                  have kk := AH.lay_keeps hk
                  obtain ⟨_, _, _, hnext, _⟩ := AH.lay_spec hk
                  have hfr1 : Fresh ρ H1 H' := fun b hb1 hb2 => hfr b (by omega) hb2
                  obtain ⟨ov, l1, l2, l3⟩ := firstA_sim hh hold (VR.sl blk off len (.own i.size) pl n1 c1 hpl hnn hcap hle)
                  obtain ⟨q1, q2⟩ := hcomm h
                  have l3' : ∀ (j : Nat) u, ov[j]? = some u → w.cell? ((⟨pl.cb, pl.co + off, none⟩ : Addr).add j) = some u := by
                    rcases l3 with ⟨ad', m', c', hq, l3⟩ | ⟨hq, _⟩
                    · cases hq; exact l3
                    · subst hq
                      have : ov = [] := List.eq_nil_of_length_eq_zero (by simpa using l1)
                      subst this
                      simp
                  have hownb : Owned ρ H pl.cb := ⟨blk, bb, pl, hbb, hown, hpl, rfl⟩
                  by_cases hroom : n1 + n2 ≤ c1
                  · -- it grows where it lies
                    obtain ⟨C, ty, fz, m1, m2, m3⟩ := (hh.find hbb hpl).cells hmb
                    obtain ⟨rfl, m5⟩ := m3 hown
                    have hcap : pl.co + off + c1 * i.size ≤ pl.tot := hcap
                    have hmul : n1 * i.size + n2 * i.size ≤ c1 * i.size := by rw [← Nat.add_mul]; exact Nat.mul_le_mul_right _ hroom
                    have hfit : pl.co + off + n1 * i.size + nv.length ≤ C.size := by rw [g1, m5]; omega
                    have hf : (Builtin.firstCells i.size n2 (.slice (some ad) n2 c2)).run P w = .ok nv.toArray w := run_firstCells_some (P := P) w i.size n2 ad n2 c2 nv g1 g3
                    have hr := run_append_in (P := P) (w := w) t o.type t' i hu hi (some ⟨pl.cb, pl.co + off, none⟩) n1 c1 (some ad) n2 c2 nv hf hroom
                    have hst := run_storeCells_at P pl.cb (pl.co + off + n1 * i.size) ty nv 0 C w m1 (by simpa using hfit) (LR.one g2 hall')
                    simp only [Nat.add_zero] at hst
                    have hrow : ∀ k, k ≠ pl.cb → (w.setRow pl.cb (C.toList.take (pl.co + off + n1 * i.size) ++ nv ++ C.toList.drop (pl.co + off + n1 * i.size + nv.length)).toArray).heap[k]? = w.heap[k]? := fun k hk => setRow_other w pl.cb k _ hk
                    have hsame := setRow_heap w pl.cb C (C.toList.take (pl.co + off + n1 * i.size) ++ nv ++ C.toList.drop (pl.co + off + n1 * i.size + nv.length)).toArray ty (0, 0) m1
                    have hC' : (C.toList.take (pl.co + off + n1 * i.size) ++ nv ++ C.toList.drop (pl.co + off + n1 * i.size + nv.length)).toArray.size = C.size := by simp; omega
                    have hnew' : ∀ (j : Nat), (C.toList.take (pl.co + off + n1 * i.size) ++ nv ++ C.toList.drop (pl.co + off + n1 * i.size + nv.length)).toArray[j]? = if pl.co + off + n1 * i.size ≤ j ∧ j < pl.co + off + n1 * i.size + nv.length then nv[j - (pl.co + off + n1 * i.size)]? else C[j]? := by
                      intro j
                      simp only [List.getElem?_toArray]
                      by_cases h1 : j < pl.co + off + n1 * i.size
                      · rw [if_neg (by omega), List.append_assoc, List.getElem?_append_left (by simp; omega), List.getElem?_take, if_pos h1]
                        simp
                      · rw [List.append_assoc, List.getElem?_append_right (by simp; omega)]
                        have el : (C.toList.take (pl.co + off + n1 * i.size)).length = pl.co + off + n1 * i.size := by simp; omega
                        rw [el]
                        by_cases h2 : j < pl.co + off + n1 * i.size + nv.length
                        · rw [if_pos (by omega), List.getElem?_append_left (by omega)]
                        · rw [if_neg (by omega), List.getElem?_append_right (by omega), List.getElem?_drop]
                          simp only [Array.getElem?_toList]
                          congr 1
                          omega
                    generalize (C.toList.take (pl.co + off + n1 * i.size) ++ nv ++ C.toList.drop (pl.co + off + n1 * i.size + nv.length)).toArray = C' at hst hrow hsame hC' hnew'
                    unfold grown at h
                    split at h
                    · split at h
                      · rename_i b H2 hal
                        simp only [Option.some.injEq, Prod.mk.injEq] at h
                        obtain ⟨rfl, rfl⟩ := h
                        obtain ⟨hmt, hal⟩ := newRowA_spec hal
                        obtain ⟨a1, a2, _⟩ := AH.alloc_spec hal
                        have hb : ρ b = none := hfr1 b (by omega) (by omega)
                        have lo : old.length = n1 * i.size := by rw [← l1]; simpa using l2.1
                        have ln : new.length = n2 * i.size := by rw [← g1]; simpa using g2.1
                        have hcs : ∀ (j : Nat) c, (old ++ new)[j]? = some c → ∃ v, C'[(pl.co + off) + j]? = some v ∧ VR ν ρ c v := by
                          intro j c hc
                          by_cases h1 : j < old.length
                          · rw [List.getElem?_append_left h1] at hc
                            have hj : j < ov.length := by omega
                            have hcell := l3' j ov[j] (by simp [hj])
                            rw [Addr.add_off] at hcell
                            simp only [World.cell?, m1] at hcell
                            rw [hnew', if_neg (by omega)]
                            exact ⟨ov[j], by simpa using hcell, l2.2 j c _ hc (by simp [hj])⟩
                          · rw [List.getElem?_append_right (by omega)] at hc
                            have hj : j - old.length < new.length := (List.getElem?_eq_some_iff.1 hc).1
                            rw [hnew', if_pos (by omega)]
                            have e3 : pl.co + off + j - (pl.co + off + n1 * i.size) = j - old.length := by omega
                            rw [e3]
                            exact ⟨nv[j - old.length]'(by omega), by simp, g2.2 _ c _ hc (by simp)⟩
                        have hap : ∀ b'' x'' pl'', H1.get b'' = some x'' → ρ b'' = some pl'' → pl''.cb ≠ pl.cb := by
                          intro b'' x'' pl'' hx'' hp''
                          obtain ⟨hne, hg⟩ := ktr b'' x'' hx''
                          exact fun hq => hh.apart blk b'' bb x'' pl pl'' (fun q => hne q.symm) hbb hg hown hpl hp'' hq.symm
                        have hbr := HR.bring (pl := ⟨pl.cb, pl.co + off, pl.tot⟩) (w' := w.setRow pl.cb C') kh hal hb (BR.ofCells hb hmt hsame (hC'.trans m5) hcs) (fun k hk _ => hrow k hk) hap
                        refine ⟨.value (.slice (some ⟨pl.cb, pl.co + off, none⟩) (n1 + n2) c1), _, w.setRow pl.cb C', _, run _ _ ?_, .inl rfl, ?_, hbr, ⟨Emb.le_at hb, fun j hj hj' => ?_, by simp [World.setRow], rfl, rfl, rfl, fun cb _ hno => hrow cb (fun ecb => hno (ecb ▸ hownb)), fun cb _ ho => ?_, fun j q hj hj' => ?_⟩⟩
                        · rw [hxv, hv2, hr]
                          simp only [storesAt, Option.map_some, Addr.add_off, hst, Result.andThen_ok]
                        · refine .sl b 0 _ _ ⟨pl.cb, pl.co + off, pl.tot⟩ (n1 + n2) c1 (Emb.at_same hb) rfl ?_ hroom
                          simp only [CapOk]
                          omega
                        · by_cases e9 : j = b
                          · subst e9; omega
                          · exact (hj' (by rw [Emb.at_ne e9]; exact hj)).elim
                        · obtain ⟨j, x1, q, p1, p2, p3, p4⟩ := ho
                          rw [AH.alloc_get hal j] at p1
                          by_cases e9 : j = b
                          · rw [e9, Emb.at_same hb] at p3
                            cases p3
                            rw [← p4]
                            exact hownb
                          · rw [if_neg e9] at p1
                            rw [Emb.at_ne e9] at p3
                            exact ⟨j, x1, q, (ktr j x1 p1).2, p2, p3, p4⟩
                        · by_cases e9 : j = b
                          · rw [e9, Emb.at_same hb] at hj'
                            cases hj'
                            exact .inr hownb
                          · rw [Emb.at_ne e9, hj] at hj'
                            cases hj'
                      · cases h
                    · cases h
                  · -- it grows into a new one
                    have hr := run_append_grow (P := P) w t o.type t' i vz hu hi hiz ⟨pl.cb, pl.co + off, none⟩ n1 c1 ov l1 l3' ad n2 c2 nv g1 g3 (by omega) (by omega) (growslice_fits (by omega) q1)
                    obtain ⟨ρ', k1, k2, k3⟩ := grown_eff (sCap := c1) kh hfr1 h l2 g2 hzs (by rw [l1, g1, ← Nat.add_mul])
                    refine ⟨_, _, _, ρ', run _ _ (by rw [hxv, hv2]; exact hr), .inl rfl, k1, k2, ⟨k3.ext, fun j h1 h2 => ?_, k3.size, k3.os, k3.tape, k3.output, fun cb hc hno => k3.frame cb hc (fun ho => ?_), fun cb hc ho => ?_, fun j q h1 h2 => ?_⟩⟩
                    · have := k3.fresh j h1 h2; omega
                    · obtain ⟨j, x1, q, p1, p2, p3, p4⟩ := ho
                      exact hno ⟨j, x1, q, (ktr j x1 p1).2, p2, p3, p4⟩
                    · obtain ⟨j, x1, q, p1, p2, p3, p4⟩ := k3.owned cb hc ho
                      exact ⟨j, x1, q, (ktr j x1 p1).2, p2, p3, p4⟩
                    · rcases k3.place j q h1 h2 with hq | ⟨j', x1, q', p1, p2, p3, p4⟩
                      · exact .inl hq
                      · exact .inr ⟨j', x1, q', (ktr j' x1 p1).2, p2, p3, p4⟩
                · cases h
              · cases h
            · cases h
          · cases h
  · cases h

end
end Go.Sh
