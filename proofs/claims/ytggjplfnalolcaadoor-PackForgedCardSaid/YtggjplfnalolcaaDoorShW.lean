/-
  THE SHADOW MACHINE: the operations that read, write and grow the heap. Own work.
  THE SHADOW MACHINE: maps, and strings out of bytes. Own work.
-/
import Derived.Test.YtggjplfnalolcaaDoorShG
import Derived.Lib.AppendZerosOnto
import Derived.MapFrom
import Derived.Laws.BytesString
namespace Go.Sh

section
variable {ν : Nat → Int} {ρ : Emb} {F : Facts} {P : Program} {w : World} {H H' : AH} {o : Oper} {k : K} {e : Tr AV} {a : Act} {r : AV} {call : CallFn}

/-- What an operation with the heap is to be. -/
def Eff (ν : Nat → Int) (ρ : Emb) (P : Program) (H : AH) (w : World) (a : Act) (o : Oper) (r : AV) (H' : AH) : Prop :=
  ∃ nx v w' ρ', (execOp a.eval o).run P w = .ok nx w' ∧ (nx = .value v ∨ (nx = .skip ∧ v = undef)) ∧ VR ν ρ' r v ∧ HR ν ρ' H' w' ∧ Stp ρ H w ρ' H' w'

def Fresh (ρ : Emb) (H H' : AH) : Prop := ∀ b, H.next ≤ b → b < H'.next → ρ b = none

theorem newRowA_spec {t : Nat} {cs : List AV} {r : Nat × AH} (h : newRowA H t cs = some r) : t < mapTag ∧ H.alloc ⟨cs, t, true⟩ = some r := by
  unfold newRowA at h
  split at h
  · cases h
  · rename_i hm
    exact ⟨ble_no hm, h⟩

theorem newRow_eff {t b : Nat} {cs : List AV} {C : Array Value} (hh : HR ν ρ H w) (hal : newRowA H t cs = some (b, H')) (hfr : Fresh ρ H H') (hl : LR ν ρ cs C) :
    (newRow t C).run P w = .ok ⟨w.heap.size, 0, none⟩ (w.alloc (.cells C t)) ∧ HR ν (ρ.at b ⟨w.heap.size, 0, C.size⟩) H' (w.alloc (.cells C t)) ∧ Stp ρ H w (ρ.at b ⟨w.heap.size, 0, C.size⟩) H' (w.alloc (.cells C t)) ∧ ρ b = none := by
  obtain ⟨hmt, hal⟩ := newRowA_spec hal
  obtain ⟨a1, a2, _⟩ := AH.alloc_spec hal
  have hb : ρ b = none := hfr b (by omega) (by omega)
  obtain ⟨h1, h2⟩ := hh.fresh (e := t) hal hb hmt (C := C) (fun j c hc => by
    have hj : j < cs.length := (List.getElem?_eq_some_iff.1 hc).1
    have hj' : j < C.size := by rw [← hl.1]; exact hj
    exact ⟨C[j], by simp [hj'], hl.2 j c _ hc (by simp [hj'])⟩)
  exact ⟨rfl, h1, h2, hb⟩

theorem rd_load (hh : HR ν ρ H w) {t : TypeId} {n : Option Nat} (hn : cAgg P t = some n) {b off : Nat} {pl : Pl} (hpl : ρ b = some pl) {v : AV} (hrd : H.rd b off n = some v) :
    ∃ u, (loadVar t ⟨pl.cb, pl.co + off, none⟩).run P w = .ok u w ∧ VR ν ρ v u := by
  obtain ⟨i, hi, ha, hm⟩ := cAgg_spec (w := w) hn
  unfold AH.rd at hrd
  split at hrd
  · rename_i y hy
    have hb := hh.find hy hpl
    split at hrd
    · cases hrd
    rename_i hmb
    have hmb := beq_no hmb
    unfold AV.part at hrd
    cases n with
    | none =>
      obtain ⟨u, h1, h2⟩ := hb.read hmb hrd
      exact ⟨u, by simp [loadVar, ha, h1], h2⟩
    | some m =>
      simp only at hrd
      split at hrd
      · rename_i hle
        simp only [Option.some.injEq] at hrd
        subst hrd
        obtain ⟨vs, g1, g2, g3⟩ := hb.row hmb (off := off) (n := m) (by simpa using hle)
        have hl := run_loadCells_list (P := P) w ⟨pl.cb, pl.co + off, none⟩ vs g3
        rw [g1] at hl
        have hm' := hm m rfl
        exact ⟨.agg vs.toArray, by simp [loadVar, ha, sizeOf, typeInfo, hi, hm', hl], .ag _ _ g2.1 g2.2⟩
      · cases hrd
  · cases hrd

theorem sim_ld (hF : F.Hold ν) (hh : HR ν ρ H w) (he : ER ν ρ e a.tmps) {x : Operand} {x' : O} {t : TypeId} {n : Option Nat} (ho : o.op = .load t x) (hx : cO x = some x') (hn : cAgg P t = some n)
    (h : opA F call e H (.ld n x') = some (r, H')) : Eff ν ρ P H w a o r H' := by
  have hv := cO_sim he hx
  obtain ⟨i, hi, ha, hm⟩ := cAgg_spec (w := w) hn
  simp only [opA] at h
  split at h
  · rename_i b off e1
    rw [e1] at hv
    generalize hxv : a.eval x = xv at hv
    cases hv
    rename_i pl hpl
    simp only [Option.map_eq_some_iff, Prod.mk.injEq] at h
    obtain ⟨v, hrd, rfl, rfl⟩ := h
    unfold ldA at hrd
    split at hrd
    · rename_i v' hl
      simp only [Option.some.injEq] at hrd
      subst hrd
      unfold ldP at hl
      split at hl
      · cases hl
      · split at hl
        · rename_i y hy
          split at hl
          · rename_i hc
            simp only [Option.some.injEq] at hl
            subst hl
            rw [Bool.and_eq_true] at hc
            obtain ⟨c1, c2⟩ := hc
            unfold pinE at c1
            rw [Bool.and_eq_true, Nat.blt_eq, Nat.ble_eq] at c1
            have c3 := yesF_val hF c2
            have c3 : ((off : Nat) : Int) < ν (pinL y.elem) := of_decide_eq_true c3
            have hp := (hh.find hy hpl).pin c1.1
            unfold PinB at hp
            rw [if_pos c1.2] at hp
            obtain ⟨C, ty, fz, r1, r2⟩ := hp
            have r3 := r2 off c3
            refine ⟨.value (.int (pinK y.elem) (ν (pinB y.elem off))), .int (pinK y.elem) (ν (pinB y.elem off)), w, ρ, ?_, .inl rfl, .i _ _, hh, Stp.refl _ _ _⟩
            have r4 : w.cell? ⟨pl.cb, pl.co + off, none⟩ = some (.int (pinK y.elem) (ν (pinB y.elem off))) := by simp [World.cell?, r1, r3]
            simp [execOp, ho, hxv, Instr.loadAt, Instr.sureAddr, loadVar, ha, r4]
          · cases hl
        · cases hl
    unfold AH.rd at hrd
    split at hrd
    · rename_i y hy
      have hb := hh.find hy hpl
      split at hrd
      · cases hrd
      rename_i hmb
      have hmb := beq_no hmb
      unfold AV.part at hrd
      cases n with
      | none =>
        obtain ⟨u, h1, h2⟩ := hb.read hmb hrd
        refine ⟨.value u, u, w, ρ, ?_, .inl rfl, h2, hh, Stp.refl _ _ _⟩
        simp [execOp, ho, hxv, Instr.loadAt, Instr.sureAddr, loadVar, ha, h1]
      | some m =>
        simp only at hrd
        split at hrd
        · rename_i hle
          simp only [Option.some.injEq] at hrd
          subst hrd
          obtain ⟨vs, g1, g2, g3⟩ := hb.row hmb (off := off) (n := m) (by simpa using hle)
          have hl := run_loadCells_list (P := P) w ⟨pl.cb, pl.co + off, none⟩ vs g3
          rw [g1] at hl
          refine ⟨.value (.agg vs.toArray), .agg vs.toArray, w, ρ, ?_, .inl rfl, .ag _ _ g2.1 g2.2, hh, Stp.refl _ _ _⟩
          have hm' := hm m rfl
          simp [execOp, ho, hxv, Instr.loadAt, Instr.sureAddr, loadVar, ha, sizeOf, typeInfo, hi, hm', hl]
        · cases hrd
    · cases hrd
  · cases h

theorem sim_alloc (hh : HR ν ρ H w) {t : TypeId} {zv : AV} {z : List AV} (ho : o.op = .alloc t) (hz : cZero P t = some zv) (hzc : zv.cells = some z) (hfr : Fresh ρ H H')
    (h : opA F call e H (.alloc t z) = some (r, H')) : Eff ν ρ P H w a o r H' := by
  obtain ⟨vz, h1, h2, _⟩ := cZero_spec (w := w) (ν := ν) (ρ := ρ) hz
  obtain ⟨hl, _⟩ := cells_sim hzc h2
  simp only [opA] at h
  split at h
  · simp only [Option.map_eq_some_iff, Prod.mk.injEq] at h
    obtain ⟨⟨b, H2⟩, hal, rfl, rfl⟩ := h
    obtain ⟨g1, g2, g3, g4⟩ := newRow_eff (P := P) hh hal hfr hl
    refine ⟨.value (.pointer (some ⟨w.heap.size, 0, none⟩)), _, _, _, ?_, .inl rfl, ?_, g2, g3⟩
    · simp [execOp, ho, Instr.alloc, h1, newVar, g1]
    · exact .p b 0 ⟨w.heap.size, 0, vz.cells.size⟩ (Emb.at_same g4)
  · cases h

theorem sim_box (hh : HR ν ρ H w) (he : ER ν ρ e a.tmps) {t : TypeId} {x : Operand} {x' : O} (ho : o.op = .box t x) (hx : cO x = some x') (hfr : Fresh ρ H H')
    (h : opA F call e H (.box t x') = some (r, H')) : Eff ν ρ P H w a o r H' := by
  have hv := cO_sim he hx
  simp only [opA] at h
  split at h
  · rename_i cs hcs
    obtain ⟨hl, _⟩ := cells_sim hcs hv
    simp only [Option.map_eq_some_iff, Prod.mk.injEq] at h
    obtain ⟨⟨b, H2⟩, hal, rfl, rfl⟩ := h
    obtain ⟨g1, g2, g3, g4⟩ := newRow_eff (P := P) hh hal hfr hl
    refine ⟨.value (.pointer (some ⟨w.heap.size, 0, none⟩)), _, _, _, ?_, .inl rfl, ?_, g2, g3⟩
    · simp [execOp, ho, Instr.box, newVar, g1]
    · exact .p b 0 ⟨w.heap.size, 0, (a.eval x).cells.size⟩ (Emb.at_same g4)
  · cases h

theorem repA_get (z : List AV) (_hz : 0 < z.length) : ∀ (n j : Nat), (repA n z)[j]? = if j < n * z.length then z[j % z.length]? else none := by
  intro n
  induction n with
  | zero => intro j; simp [repA]
  | succ n ih =>
    intro j
    simp only [repA]
    by_cases h1 : j < z.length
    · rw [List.getElem?_append_left h1, if_pos (by rw [Nat.succ_mul]; omega), Nat.mod_eq_of_lt h1]
    · rw [List.getElem?_append_right (by omega), ih]
      have e1 : (j - z.length < n * z.length) = (j < (n + 1) * z.length) := by rw [Nat.succ_mul]; apply propext; omega
      have e2 : (j - z.length) % z.length = j % z.length := by
        conv => rhs; rw [show j = (j - z.length) + z.length from by omega]
        rw [Nat.add_mod_right]
      simp only [e1, e2]

theorem made_sim {z : List AV} {zv : Array Value} (hl : LR ν ρ z zv) (hz : 0 < z.length) (n : Nat) : LR ν ρ (repA n z) ((Array.range (n * z.length)).map fun i => zv[i % zv.size]!) := by
  have hsz : ∀ n, (repA n z).length = n * z.length := by
    intro n
    induction n with
    | zero => simp [repA]
    | succ n ih => simp [repA, ih, Nat.succ_mul, Nat.add_comm]
  refine ⟨by simp [hsz], fun j x v hx hv => ?_⟩
  rw [repA_get z hz] at hx
  split at hx
  · rename_i hj
    simp [hj] at hv
    have hm : j % z.length < z.length := Nat.mod_lt _ hz
    refine hl.2 (j % z.length) x v hx ?_
    rw [← hl.1] at hv
    have hm2 : j % z.length < zv.size := by rw [← hl.1]; exact hm
    rw [← hv, getElem!_pos zv _ hm2]
    simp [hm2]
  · cases hx

theorem sim_bsl (hh : HR ν ρ H w) (he : ER ν ρ e a.tmps) {t t' : TypeId} {n s : Nat} {ps : Array (Nat × Operand)} {zv : AV} {z : List AV} {l : List (Nat × Nat × O)}
    (ho : o.op = .buildSlice t n ps) (hu : P.underlying t = some (.slice t')) (hz : cZero P t' = some zv) (hzc : zv.cells = some z) (hs : cSize P t' = some s) (hp : cParts (fun i => some (i * s, s)) ps.toList = some l) (hfr : Fresh ρ H H')
    (h : opA F call e H (.bsl t' s n z l) = some (r, H')) : Eff ν ρ P H w a o r H' := by
  obtain ⟨vz, h1, h2, i, hi, hiz⟩ := cZero_spec (w := w) (ν := ν) (ρ := ρ) hz
  obtain ⟨hl, _⟩ := cells_sim hzc h2
  simp only [opA] at h
  split at h
  · rename_i hc
    simp only [Bool.and_eq_true, Nat.ble_eq, Nat.blt_eq] at hc
    have hzl : z.length = s := Nat.eq_of_beq_eq_true hc.1.1.2
    have hpos : 0 < s := hc.1.2
    split at h
    · rename_i cs hcs
      simp only [Option.map_eq_some_iff, Prod.mk.injEq] at h
      obtain ⟨⟨b, H2⟩, hal, rfl, rfl⟩ := h
      have hm := made_sim (ν := ν) (ρ := ρ) hl (by omega) n
      rw [hzl] at hm
      obtain ⟨rv, g1, g2⟩ := fill_sim he ps.toList l _ _ cs hp hm hcs
      obtain ⟨k1, k2, k3, k4⟩ := newRow_eff (P := P) hh hal hfr g2
      refine ⟨.value (.slice (some ⟨w.heap.size, 0, none⟩) n n), _, _, _, ?_, .inl rfl, ?_, k2, k3⟩
      · have el : (ps.map fun (i, x) => (i, a.eval x)).toList = ps.toList.map fun p => (p.1, a.eval p.2) := by simp
        have hnot : ¬ (n * s > 2 ^ 24) := by have := hc.1.1.1; omega
        simp only [execOp, ho, Instr.buildSlice, Sem.run_bind, run_underlying hu, Result.andThen_ok, cSize_spec hs, Sem.run_ite, if_neg hnot, Sem.run_pure]
        by_cases h0 : n * s = 0
        · have hn0 : n = 0 := by
            rcases Nat.mul_eq_zero.1 h0 with h | h <;> omega
          subst hn0
          simp only [Nat.zero_mul, if_true, el] at g1 ⊢
          have er : (Array.range 0).map (fun (i : Nat) => (#[] : Array Value)[i % (#[] : Array Value).size]!) = (Array.range 0).map (fun (i : Nat) => vz.cells[i % vz.cells.size]!) := by simp
          rw [er, g1]
          simp [k1]
        · simp only [if_neg h0, Sem.run_bind, h1, Result.andThen_ok, Sem.run_pure, el, g1]
          simp [k1]
      · exact .sl b 0 _ _ ⟨w.heap.size, 0, rv.size⟩ n n (Emb.at_same k4) rfl rfl (Nat.le_refl _)
    · cases h
  · cases h

theorem sim_st (hh : HR ν ρ H w) (he : ER ν ρ e a.tmps) {t : TypeId} {x v : Operand} {x' v' : O} {n : Nat} (ho : o.op = .store t x v) (hx : cO x = some x') (hv : cO v = some v') (hn : cSize P t = some n)
    (h : opA F call e H (.st n x' v') = some (r, H')) : Eff ν ρ P H w a o r H' := by
  have hxs := cO_sim he hx
  have hvs := cO_sim he hv
  simp only [opA] at h
  split at h
  · rename_i b off cs e1 e2
    rw [e1] at hxs
    generalize hxv : a.eval x = xv at hxs
    cases hxs
    rename_i pl hpl
    obtain ⟨hl, _⟩ := cells_sim e2 hvs
    split at h
    · rename_i hb
      have hcn : cs.length = n := Nat.eq_of_beq_eq_true hb
      simp only [Option.map_eq_some_iff, Prod.mk.injEq] at h
      obtain ⟨H2, hwr, rfl, rfl⟩ := h
      obtain ⟨w', g1, g2, g3⟩ := AH.wr_sim (P := P) (vs := (a.eval v).cells.toList) hh hpl hwr (by simpa using hl)
      refine ⟨.skip, undef, w', ρ, ?_, .inr ⟨rfl, rfl⟩, .u _, g2, g3⟩
      have hsz : (a.eval v).cells.size = n := by rw [← hl.1]; exact hcn
      simp only [execOp, ho, hxv, Instr.storeAt, Instr.sureAddr, storeVar, Sem.run_bind, Sem.run_pure, Result.andThen_ok, cSize_spec hn, hsz, ne_eq, not_true_eq_false, if_false, g1]
    · cases h
  · cases h

theorem lenA_sim {x : AV} {n : Nat} {v : Value} (h : lenA x = some n) (hv : VR ν ρ x v) : ∃ base c, v = .slice base n c := by
  unfold lenA at h
  split at h
  · rename_i b off m cap
    simp only [Option.some.injEq] at h
    subst h
    cases hv
    rename_i pl nn cc hle hpl hnn hcap
    have : m = nn := by simp only [AI.val] at hnn; exact Int.ofNat.inj hnn
    subst this
    exact ⟨_, _, rfl⟩
  · simp only [Option.some.injEq] at h
    subst h
    cases hv
    exact ⟨_, _, rfl⟩
  · simp only [Option.some.injEq] at h
    subst h
    cases hv
    exact ⟨_, _, rfl⟩
  · cases h

/-- The first elements' cells: at an address, or there are none. -/
theorem firstA_sim (hh : HR ν ρ H w) {x : AV} {v : Value} {size n : Nat} {cs : List AV} (h : firstA H size n x = some cs) (hv : VR ν ρ x v) :
    ∃ vs : List Value, vs.length = n * size ∧ LR ν ρ cs vs.toArray ∧ ((∃ ad m c, v = .slice (some ad) m c ∧ ∀ (j : Nat) u, vs[j]? = some u → w.cell? (ad.add j) = some u) ∨ (n = 0 ∧ ∃ base m c, v = .slice base m c)) := by
  unfold firstA at h
  split at h
  · cases hv
    rename_i pl nn cc hle hpl hnn hcap
    obtain ⟨vs, g1, g2, g3⟩ := AH.row_sim hh hpl h
    exact ⟨vs, g1, g2, .inl ⟨_, _, _, rfl, g3⟩⟩
  · cases hv
    split at h
    · rename_i hb
      have : n = 0 := Nat.eq_of_beq_eq_true hb
      subst this
      simp only [Option.some.injEq] at h
      subst h
      exact ⟨[], by simp, ⟨rfl, by simp⟩, .inr ⟨rfl, _, _, _, rfl⟩⟩
    · cases h
  · cases hv
    split at h
    · rename_i hb
      have : n = 0 := Nat.eq_of_beq_eq_true hb
      subst this
      simp only [Option.some.injEq] at h
      subst h
      exact ⟨[], by simp, ⟨rfl, by simp⟩, .inr ⟨rfl, _, _, _, rfl⟩⟩
    · cases h
  · cases h

theorem firstA_run (hh : HR ν ρ H w) {x : AV} {v : Value} {size n : Nat} {cs : List AV} (h : firstA H size n x = some cs) (hv : VR ν ρ x v) :
    ∃ vs : List Value, LR ν ρ cs vs.toArray ∧ (Builtin.firstCells size n v).run P w = .ok vs.toArray w := by
  obtain ⟨vs, g1, g2, g3⟩ := firstA_sim hh h hv
  rcases g3 with ⟨ad, m, c, rfl, g3⟩ | ⟨rfl, base, m, c, rfl⟩
  · exact ⟨vs, g2, run_firstCells_some (P := P) w size n ad m c vs g1 g3⟩
  · have : vs = [] := List.eq_nil_of_length_eq_zero (by simpa using g1)
    subst this
    refine ⟨[], g2, ?_⟩
    cases base <;> simp [Builtin.firstCells, loadCells, loadCellsFrom]

def storesAt (base : Option Addr) (vs : List Value) : Sem Unit := match base with | some ad => storeCells ad vs | none => pure ()

theorem HR.kill {b : Nat} (hh : HR ν ρ H w) {H1 : AH} (h : H.lay b none = some H1) :
    HR ν ρ H1 w ∧ (∀ j z, H1.get j = some z → j ≠ b ∧ H.get j = some z) := by
  have hget := AH.lay_get h
  have tr : ∀ j z, H1.get j = some z → j ≠ b ∧ H.get j = some z := by
    intro j z hz
    rw [hget j] at hz
    split at hz
    · cases hz
    · rename_i hne; exact ⟨hne, hz⟩
  exact ⟨⟨fun j z hz => hh.blk j z (tr j z hz).2, fun j j' z z' q q' hne hz hz' ho hq hq' => hh.apart j j' z z' q q' hne (tr j z hz).2 (tr j' z' hz').2 ho hq hq'⟩, tr⟩

/-- A slice that has grown into a new block of the world. -/
theorem grown_eff {H1 : AH} {t size bytes need sCap : Nat} {old new : List AV} {ov nv : List Value} {z : Array Value} (hh : HR ν ρ H1 w) (hfr : Fresh ρ H1 H') (h : grown H1 t size bytes need old new = some (r, H'))
    (hlo : LR ν ρ old ov.toArray) (hln : LR ν ρ new nv.toArray) (hz : z.size = size) (hn : ov.length + nv.length = need * size) :
    ∃ ρ', VR ν ρ' r (.slice (some ⟨w.heap.size, 0, none⟩) need (grownCap w need sCap t)) ∧
      HR ν ρ' H' (w.drew.alloc (.cells (ov.toArray ++ nv.toArray ++ Builtin.zeroCells z (grownCap w need sCap t - need)) t)) ∧
      Stp ρ H1 w ρ' H' (w.drew.alloc (.cells (ov.toArray ++ nv.toArray ++ Builtin.zeroCells z (grownCap w need sCap t - need)) t)) := by
  unfold grown at h
  split at h
  · split at h
    · rename_i b H2 hal
      simp only [Option.some.injEq, Prod.mk.injEq] at h
      obtain ⟨rfl, rfl⟩ := h
      obtain ⟨hmt, hal⟩ := newRowA_spec hal
      obtain ⟨a1, a2, _⟩ := AH.alloc_spec hal
      have hb : ρ b = none := hfr b (by omega) (by omega)
      have hd : HR ν ρ H1 w.drew := hh.drawn _
      have hoo : ∀ (j : Nat) c, (old ++ new)[j]? = some c → ∃ v, (ov.toArray ++ nv.toArray ++ Builtin.zeroCells z (grownCap w need sCap t - need))[j]? = some v ∧ VR ν ρ c v := by
        intro j c hc
        have l1 : old.length = ov.length := by simpa using hlo.1
        have l2 : new.length = nv.length := by simpa using hln.1
        have hj : j < old.length + new.length := by have := (List.getElem?_eq_some_iff.1 hc).1; simpa using this
        by_cases h1 : j < old.length
        · rw [List.getElem?_append_left h1] at hc
          have h2 : j < ov.length := by omega
          refine ⟨ov[j], ?_, hlo.2 j c _ hc (by simp [h2])⟩
          rw [Array.getElem?_append_left (by simp; omega), Array.getElem?_append_left (by simpa using h2)]
          simp [h2]
        · rw [List.getElem?_append_right (by omega)] at hc
          have h2 : j - ov.length < nv.length := by omega
          refine ⟨nv[j - ov.length], ?_, hln.2 _ c _ hc (by rw [l1]; simp [h2])⟩
          rw [Array.getElem?_append_left (by simp; omega), Array.getElem?_append_right (by simp; omega)]
          simp [h2]
      obtain ⟨g1, g2⟩ := hd.fresh (e := t) hal hb hmt hoo
      have hge := grownCap_ge w need sCap t
      have hsz : (ov.toArray ++ nv.toArray ++ Builtin.zeroCells z (grownCap w need sCap t - need)).size = grownCap w need sCap t * size := by
        simp only [Array.size_append, List.size_toArray, size_zeroCells, hz, hn, ← Nat.add_mul]
        congr 1
        omega
      refine ⟨_, ?_, g1, ?_⟩
      · refine .sl b 0 _ _ ⟨w.drew.heap.size, 0, (ov.toArray ++ nv.toArray ++ Builtin.zeroCells z (grownCap w need sCap t - need)).size⟩ need _ (Emb.at_same hb) rfl ?_ hge
        simp only [CapOk, hsz]
        omega
      · exact ⟨g2.ext, g2.fresh, g2.size, g2.os, g2.tape, g2.output, g2.frame, g2.owned, g2.place⟩
    · cases h
  · cases h

theorem run_append_in (t ty e : TypeId) (i : TypeInfo) (ht : P.underlying t = some (.slice e)) (hi : P.info? e = some i) (base : Option Addr) (sLen sCap : Nat) (b2 : Option Addr) (m c : Nat) (news : List Value)
    (hf : (Builtin.firstCells i.size m (.slice b2 m c)).run P w = .ok news.toArray w) (hroom : sLen + m ≤ sCap) :
    (Builtin.append_ #[t, t] ty #[.slice base sLen sCap, .slice b2 m c]).run P w = ((storesAt (base.map (·.add (sLen * i.size))) news).run P w).andThen fun _ w' => .ok (.slice base (sLen + m) sCap) w' := by
  cases base <;> simp [Builtin.append_, run_underlying ht, sizeOf, typeInfo, hi, Builtin.lenOf, hroom, hf, storesAt]

/-- What is put behind a slice, whatever tells it. -/
theorem app_core (hh : HR ν ρ H w) {x : Operand} {xa : AV} {yv : Value} {ts : Array TypeId} {t' : TypeId} {i : TypeInfo} {vz : Value} {n1 n2 c1 : Nat} {b1 : Option Addr} {new : List AV} {nv : List Value} (hxs : VR ν ρ xa (a.eval x)) (hv1 : a.eval x = .slice b1 n1 c1) (e1 : lenA xa = some n1)
    (hzs : vz.cells.size = i.size) (hfr : Fresh ρ H H') (g1 : nv.length = n2 * i.size) (g2 : LR ν ρ new nv.toArray) (hn0' : 0 < n2) (hall' : ∀ c ∈ new, c.one = true)
    (run : ∀ v w', (Builtin.append_ ts o.type #[a.eval x, yv]).run P w = .ok v w' → (execOp a.eval o).run P w = .ok (.value v) w')
    (rin : ∀ (base : Option Addr) (sLen sCap : Nat), sLen + n2 ≤ sCap → (Builtin.append_ ts o.type #[.slice base sLen sCap, yv]).run P w = ((storesAt (base.map (·.add (sLen * i.size))) nv).run P w).andThen fun _ w' => .ok (.slice base (sLen + n2) sCap) w')
    (rnil : n2 ≤ 140737488355328 → n2 * i.bytes ≤ 140737488355328 → (Builtin.append_ ts o.type #[.slice none 0 0, yv]).run P w = .ok (.slice (some ⟨w.heap.size, 0, none⟩) n2 (grownCap w n2 0 t')) (w.drew.alloc (.cells (nv.toArray ++ Builtin.zeroCells vz.cells (grownCap w n2 0 t' - n2)) t')))
    (rgrow : ∀ (b : Addr) (sLen sCap : Nat) (olds : List Value), olds.length = sLen * i.size → (∀ j v, olds[j]? = some v → w.cell? (b.add j) = some v) → sCap < sLen + n2 → sLen + n2 ≤ 140737488355328 → (sLen + n2) * i.bytes ≤ 140737488355328 →
      (Builtin.append_ ts o.type #[.slice (some b) sLen sCap, yv]).run P w = .ok (.slice (some ⟨w.heap.size, 0, none⟩) (sLen + n2) (grownCap w (sLen + n2) sCap t')) (w.drew.alloc (.cells (olds.toArray ++ nv.toArray ++ Builtin.zeroCells vz.cells (grownCap w (sLen + n2) sCap t' - (sLen + n2))) t')))
    (h : appB H t' i.size i.bytes xa n1 n2 new = some (r, H')) : Eff ν ρ P H w a o r H' := by
  have hcomm : ∀ {H1 : AH} {old : List AV}, grown H1 t' i.size i.bytes (n1 + n2) old new = some (r, H') → (n1 + n2) * i.bytes ≤ 140737488355328 ∧ n1 + n2 ≤ 140737488355328 := by
    intro H1 old hg
    unfold grown at hg
    split at hg
    · rename_i hc
      simp only [Bool.and_eq_true, Nat.ble_eq] at hc
      exact ⟨hc.1.1, hc.1.2⟩
    · cases hg
  unfold appB at h
  split at h
  · -- nothing there yet
    have hn1 : n1 = 0 := by simp [lenA] at e1; exact e1.symm
    subst hn1
    generalize hxv : a.eval x = xv at hxs
    cases hxs
    obtain ⟨q1, q2⟩ := hcomm h
    simp only [Nat.zero_add] at h q1 q2
    have hr := rnil (by omega) (by omega)
    obtain ⟨ρ', k1, k2, k3⟩ := grown_eff (sCap := 0) (ov := []) hh hfr h ⟨rfl, by simp⟩ g2 hzs (by simpa using g1)
    refine ⟨_, _, _, ρ', run _ _ (by rw [hxv]; exact hr), .inl rfl, k1, ?_, ?_⟩
    · simpa using k2
    · simpa using k3
  · -- an empty one, without room
    have hn1 : n1 = 0 := by simp [lenA] at e1; exact e1.symm
    subst hn1
    generalize hxv : a.eval x = xv at hxs
    cases hxs
    rename_i ad1 cc hcc
    have := hcc rfl
    subst this
    obtain ⟨q1, q2⟩ := hcomm h
    have hr := rgrow ad1 0 0 [] (by simp) (by simp) (by omega) (by omega) q1
    obtain ⟨ρ', k1, k2, k3⟩ := grown_eff (sCap := 0) (ov := []) hh hfr h ⟨rfl, by simp⟩ g2 hzs (by simpa using g1)
    exact ⟨_, _, _, ρ', run _ _ (by rw [hxv]; exact hr), .inl rfl, k1, k2, k3⟩
  · -- of known capacity
    rename_i blk off len cp
    generalize hxv : a.eval x = xv at hxs
    cases hxs
    rename_i pl n c hle hpl hnn hcap
    rw [hxv] at hv1
    cases hv1
    have hcap : cp = c1 := hcap
    subst hcap
    split at h
    · rename_i hfit
      simp only [Nat.ble_eq] at hfit
      split at h
      · rename_i H2 hwr
        simp only [Option.some.injEq, Prod.mk.injEq] at h
        obtain ⟨rfl, rfl⟩ := h
        have hr := rin (some ⟨pl.cb, pl.co + off, none⟩) n1 cp hfit
        obtain ⟨w', k1, k2, k3⟩ := AH.wr_sim (P := P) hh hpl hwr g2
        refine ⟨.value (.slice (some ⟨pl.cb, pl.co + off, none⟩) (n1 + n2) cp), _, w', ρ, run _ _ ?_, .inl rfl, ?_, k2, k3⟩
        · rw [hxv, hr]
          simp only [storesAt, Option.map_some, Addr.add_off, Nat.add_assoc, k1, Result.andThen_ok]
        · exact .sl blk off _ _ pl _ _ hpl rfl rfl hfit
      · cases h
    · rename_i hfit
      simp only [Nat.ble_eq] at hfit
      split at h
      · rename_i old hold
        obtain ⟨ov, l1, l2, l3⟩ := firstA_sim hh hold (VR.sl blk off len (.ex cp) pl n1 cp hpl hnn rfl hle)
        obtain ⟨q1, q2⟩ := hcomm h
        have l3' : ∀ (j : Nat) u, ov[j]? = some u → w.cell? ((⟨pl.cb, pl.co + off, none⟩ : Addr).add j) = some u := by
          rcases l3 with ⟨ad', m', c', hq, l3⟩ | ⟨hq, _⟩
          · cases hq; exact l3
          · subst hq
            have : ov = [] := List.eq_nil_of_length_eq_zero (by simpa using l1)
            subst this
            simp
        have hr := rgrow ⟨pl.cb, pl.co + off, none⟩ n1 cp ov l1 l3' (by omega) (by omega) q1
        obtain ⟨ρ', k1, k2, k3⟩ := grown_eff (sCap := cp) hh hfr h l2 g2 hzs (by rw [l1, g1, ← Nat.add_mul])
        exact ⟨_, _, _, ρ', run _ _ (by rw [hxv]; exact hr), .inl rfl, k1, k2, k3⟩
      · cases h
  · -- its own
    rename_i blk off len z
    generalize hxv : a.eval x = xv at hxs
    cases hxs
    rename_i pl n c hle hpl hnn hcap
    rw [hxv] at hv1
    cases hv1
    split at h
    · rename_i bb old hbb hold
      split at h
      · rename_i hcond
        simp only [Bool.and_eq_true] at hcond
        obtain ⟨⟨hown, hze⟩, hmb⟩ := hcond
        have hmblt : bb.elem < mapTag := ble_no (by cases hq : Nat.ble mapTag bb.elem with | false => simp | true => rw [hq] at hmb; cases hmb)
        have hmb : bb.elem ≠ mapTag := Nat.ne_of_lt hmblt
        have hze : z = i.size := Nat.eq_of_beq_eq_true hze
        subst hze
        split at h
        · rename_i H1 hk
          obtain ⟨kh, ktr⟩ := hh.kill hk
          have kk := AH.lay_keeps hk
          obtain ⟨_, _, _, hnext, _⟩ := AH.lay_spec hk
          have hfr1 : Fresh ρ H1 H' := fun b hb1 hb2 => hfr b (by omega) hb2
          obtain ⟨ov, l1, l2, l3⟩ := firstA_sim hh hold (VR.sl blk off len (.own i.size) pl n1 c1 hpl hnn hcap hle)
          obtain ⟨q1, q2⟩ := hcomm h
          have l3' : ∀ (j : Nat) u, ov[j]? = some u → w.cell? ((⟨pl.cb, pl.co + off, none⟩ : Addr).add j) = some u := by
            rcases l3 with ⟨ad', m', c', hq, l3⟩ | ⟨hq, _⟩
            · cases hq; exact l3
            · subst hq
              have : ov = [] := List.eq_nil_of_length_eq_zero (by simpa using l1)
              subst this
              simp
          have hownb : Owned ρ H pl.cb := ⟨blk, bb, pl, hbb, hown, hpl, rfl⟩
          by_cases hroom : n1 + n2 ≤ c1
          · -- it grows where it lies
            obtain ⟨C, ty, fz, m1, m2, m3⟩ := (hh.find hbb hpl).cells hmb
            obtain ⟨rfl, m5⟩ := m3 hown
            have hcap : pl.co + off + c1 * i.size ≤ pl.tot := hcap
            have hmul : n1 * i.size + n2 * i.size ≤ c1 * i.size := by rw [← Nat.add_mul]; exact Nat.mul_le_mul_right _ hroom
            have hfit : pl.co + off + n1 * i.size + nv.length ≤ C.size := by rw [g1, m5]; omega
            have hr := rin (some ⟨pl.cb, pl.co + off, none⟩) n1 c1 hroom
            have hst := run_storeCells_at P pl.cb (pl.co + off + n1 * i.size) ty nv 0 C w m1 (by simpa using hfit) (LR.one g2 hall')
            simp only [Nat.add_zero] at hst
            have hrow : ∀ k, k ≠ pl.cb → (w.setRow pl.cb (C.toList.take (pl.co + off + n1 * i.size) ++ nv ++ C.toList.drop (pl.co + off + n1 * i.size + nv.length)).toArray).heap[k]? = w.heap[k]? := fun k hk => setRow_other w pl.cb k _ hk
            have hsame := setRow_heap w pl.cb C (C.toList.take (pl.co + off + n1 * i.size) ++ nv ++ C.toList.drop (pl.co + off + n1 * i.size + nv.length)).toArray ty (0, 0) m1
            have hC' : (C.toList.take (pl.co + off + n1 * i.size) ++ nv ++ C.toList.drop (pl.co + off + n1 * i.size + nv.length)).toArray.size = C.size := by simp; omega
            have hnew' : ∀ (j : Nat), (C.toList.take (pl.co + off + n1 * i.size) ++ nv ++ C.toList.drop (pl.co + off + n1 * i.size + nv.length)).toArray[j]? = if pl.co + off + n1 * i.size ≤ j ∧ j < pl.co + off + n1 * i.size + nv.length then nv[j - (pl.co + off + n1 * i.size)]? else C[j]? := by
              intro j
              simp only [List.getElem?_toArray]
              by_cases h1 : j < pl.co + off + n1 * i.size
              · rw [if_neg (by omega), List.append_assoc, List.getElem?_append_left (by simp; omega), List.getElem?_take, if_pos h1]
                simp
              · rw [List.append_assoc, List.getElem?_append_right (by simp; omega)]
                have el : (C.toList.take (pl.co + off + n1 * i.size)).length = pl.co + off + n1 * i.size := by simp; omega
                rw [el]
                by_cases h2 : j < pl.co + off + n1 * i.size + nv.length
                · rw [if_pos (by omega), List.getElem?_append_left (by omega)]
                · rw [if_neg (by omega), List.getElem?_append_right (by omega), List.getElem?_drop]
                  simp only [Array.getElem?_toList]
                  congr 1
                  omega
            generalize (C.toList.take (pl.co + off + n1 * i.size) ++ nv ++ C.toList.drop (pl.co + off + n1 * i.size + nv.length)).toArray = C' at hst hrow hsame hC' hnew'
            unfold grown at h
            split at h
            · split at h
              · rename_i b H2 hal
                simp only [Option.some.injEq, Prod.mk.injEq] at h
                obtain ⟨rfl, rfl⟩ := h
                obtain ⟨hmt, hal⟩ := newRowA_spec hal
                obtain ⟨a1, a2, _⟩ := AH.alloc_spec hal
                have hb : ρ b = none := hfr1 b (by omega) (by omega)
                have lo : old.length = n1 * i.size := by rw [← l1]; simpa using l2.1
                have ln : new.length = n2 * i.size := by rw [← g1]; simpa using g2.1
                have hcs : ∀ (j : Nat) c, (old ++ new)[j]? = some c → ∃ v, C'[(pl.co + off) + j]? = some v ∧ VR ν ρ c v := by
                  intro j c hc
                  by_cases h1 : j < old.length
                  · rw [List.getElem?_append_left h1] at hc
                    have hj : j < ov.length := by omega
                    have hcell := l3' j ov[j] (by simp [hj])
                    rw [Addr.add_off] at hcell
                    simp only [World.cell?, m1] at hcell
                    rw [hnew', if_neg (by omega)]
                    exact ⟨ov[j], by simpa using hcell, l2.2 j c _ hc (by simp [hj])⟩
                  · rw [List.getElem?_append_right (by omega)] at hc
                    have hj : j - old.length < new.length := (List.getElem?_eq_some_iff.1 hc).1
                    rw [hnew', if_pos (by omega)]
                    have e3 : pl.co + off + j - (pl.co + off + n1 * i.size) = j - old.length := by omega
                    rw [e3]
                    exact ⟨nv[j - old.length]'(by omega), by simp, g2.2 _ c _ hc (by simp)⟩
                have hap : ∀ b'' x'' pl'', H1.get b'' = some x'' → ρ b'' = some pl'' → pl''.cb ≠ pl.cb := by
                  intro b'' x'' pl'' hx'' hp''
                  obtain ⟨hne, hg⟩ := ktr b'' x'' hx''
                  exact fun hq => hh.apart blk b'' bb x'' pl pl'' (fun q => hne q.symm) hbb hg hown hpl hp'' hq.symm
                have hbr := HR.bring (pl := ⟨pl.cb, pl.co + off, pl.tot⟩) (w' := w.setRow pl.cb C') kh hal hb (BR.ofCells hb hmt hsame (hC'.trans m5) hcs) (fun k hk _ => hrow k hk) hap
                refine ⟨.value (.slice (some ⟨pl.cb, pl.co + off, none⟩) (n1 + n2) c1), _, w.setRow pl.cb C', _, run _ _ ?_, .inl rfl, ?_, hbr, ⟨Emb.le_at hb, fun j hj hj' => ?_, by simp [World.setRow], rfl, rfl, rfl, fun cb _ hno => hrow cb (fun ecb => hno (ecb ▸ hownb)), fun cb _ ho => ?_, fun j q hj hj' => ?_⟩⟩
                · rw [hxv, hr]
                  simp only [storesAt, Option.map_some, Addr.add_off, hst, Result.andThen_ok]
                · refine .sl b 0 _ _ ⟨pl.cb, pl.co + off, pl.tot⟩ (n1 + n2) c1 (Emb.at_same hb) rfl ?_ hroom
                  simp only [CapOk]
                  omega
                · by_cases e9 : j = b
                  · subst e9; omega
                  · exact (hj' (by rw [Emb.at_ne e9]; exact hj)).elim
                · obtain ⟨j, x1, q, p1, p2, p3, p4⟩ := ho
                  rw [AH.alloc_get hal j] at p1
                  by_cases e9 : j = b
                  · rw [e9, Emb.at_same hb] at p3
                    cases p3
                    rw [← p4]
                    exact hownb
                  · rw [if_neg e9] at p1
                    rw [Emb.at_ne e9] at p3
                    exact ⟨j, x1, q, (ktr j x1 p1).2, p2, p3, p4⟩
                · by_cases e9 : j = b
                  · rw [e9, Emb.at_same hb] at hj'
                    cases hj'
                    exact .inr hownb
                  · rw [Emb.at_ne e9, hj] at hj'
                    cases hj'
              · cases h
            · cases h
          · -- it grows into a new one
            have hr := rgrow ⟨pl.cb, pl.co + off, none⟩ n1 c1 ov l1 l3' (by omega) (by omega) q1
            obtain ⟨ρ', k1, k2, k3⟩ := grown_eff (sCap := c1) kh hfr1 h l2 g2 hzs (by rw [l1, g1, ← Nat.add_mul])
            refine ⟨_, _, _, ρ', run _ _ (by rw [hxv]; exact hr), .inl rfl, k1, k2, ⟨k3.ext, fun j h1 h2 => ?_, k3.size, k3.os, k3.tape, k3.output, fun cb hc hno => k3.frame cb hc (fun ho => ?_), fun cb hc ho => ?_, fun j q h1 h2 => ?_⟩⟩
            · have := k3.fresh j h1 h2; omega
            · obtain ⟨j, x1, q, p1, p2, p3, p4⟩ := ho
              exact hno ⟨j, x1, q, (ktr j x1 p1).2, p2, p3, p4⟩
            · obtain ⟨j, x1, q, p1, p2, p3, p4⟩ := k3.owned cb hc ho
              exact ⟨j, x1, q, (ktr j x1 p1).2, p2, p3, p4⟩
            · rcases k3.place j q h1 h2 with hq | ⟨j', x1, q', p1, p2, p3, p4⟩
              · exact .inl hq
              · exact .inr ⟨j', x1, q', (ktr j' x1 p1).2, p2, p3, p4⟩
        · cases h
      · cases h
    · cases h
  · cases h

theorem run_append_in_zeros (t tn ty e : TypeId) (i : TypeInfo) (z : Value) (kq kn : IntKind) (ht : P.underlying t = some (.slice e)) (htn : P.underlying tn = some (.int kn)) (hi : P.info? e = some i) (hz : i.zero = some z) (hs : 0 < i.size) (base : Option Addr) (sLen sCap k : Nat) (h0 : 0 < k) (h48 : k * i.bytes ≤ 281474976710656) (h63 : k ≤ 140737488355328) (hroom : sLen + k ≤ sCap) :
    (Builtin.append_ #[t, tn] ty #[.slice base sLen sCap, .int kq k]).run P w = ((storesAt (base.map (·.add (sLen * i.size))) (Builtin.zeroCells z.cells k).toList).run P w).andThen fun _ w' => .ok (.slice base (sLen + k) sCap) w' := by
  have hk : k ≠ 0 := by omega
  have hw : IntKind.i64.wrap (k : Int) = k := by rw [IntKind.wrap_i64]; omega
  have h48i : ¬ (281474976710656 < (k : Int) * (i.bytes : Int)) := by
    rw [← Int.natCast_mul]
    omega
  have hneg : ¬ ((k : Int) < 0) := by omega
  have hns : ¬ (k * i.size = 0) := Nat.mul_ne_zero hk (by omega)
  cases base <;> simp [Builtin.append_, run_underlying ht, run_underlying htn, sizeOf, typeInfo, zeroValue, hi, hz, Go.asInt, Go.asIntOf, hw, hneg, hns, h48i, hroom, storesAt]

theorem sim_appA (hh : HR ν ρ H w) (he : ER ν ρ e a.tmps) {x y : Operand} {x' y' : O} {ts : Array TypeId} {t t' : TypeId} {i : TypeInfo} {zv : AV} {zc : List AV} (ho : o.op = .call { callee := .builtin .append, args := #[x, y], argTypes := ts })
    (h0 : ts[0]? = some t) (h1 : ts[1]? = some t) (hu : P.underlying t = some (.slice t')) (hi : P.info? t' = some i) (hz : cZero P t' = some zv) (hzc : zv.cells = some zc) (hzl : zc.length = i.size) (hx : cO x = some x') (hy : cO y = some y') (hfr : Fresh ρ H H')
    (hts : ts = #[t, t]) (h : appA H t' i.size i.bytes [] (x'.ev e) (y'.ev e) = some (r, H')) : Eff ν ρ P H w a o r H' := by
  have _ := h0
  have _ := h1
  have hxs := cO_sim he hx
  have hys := cO_sim he hy
  obtain ⟨vz, z1, z2, i', hi', hiz⟩ := cZero_spec (w := w) (ν := ν) (ρ := ρ) hz
  rw [hi] at hi'
  cases hi'
  obtain ⟨hlz, _⟩ := cells_sim hzc z2
  have hzs : vz.cells.size = i.size := by rw [← hlz.1]; exact hzl
  have run : ∀ v w', (Builtin.append_ #[t, t] o.type #[a.eval x, a.eval y]).run P w = .ok v w' → (execOp a.eval o).run P w = .ok (.value v) w' := by
    intro v w' hr
    subst hts
    simp [execOp, ho, resolve, invoke, builtin, hr]
  unfold appA at h
  split at h
  · rename_i n1 n2 e1 e2
    replace e2 : lenA (y'.ev e) = some n2 := e2
    obtain ⟨b1, c1, hv1⟩ := lenA_sim e1 hxs
    obtain ⟨b2, c2, hv2⟩ := lenA_sim e2 hys
    split at h
    · cases h
    · rename_i new hnew
      replace hnew : firstA H i.size n2 (y'.ev e) = some new := hnew
      obtain ⟨nv, g1, g2, g3⟩ := firstA_sim hh hnew hys
      split at h
      · rename_i hn0
        have hn0 : n2 = 0 := Nat.eq_of_beq_eq_true hn0
        subst hn0
        split at h
        · simp only [Option.some.injEq, Prod.mk.injEq] at h
          obtain ⟨rfl, rfl⟩ := h
          have hnv : nv = [] := List.eq_nil_of_length_eq_zero (by simpa using g1)
          subst hnv
          have hle : n1 ≤ c1 := by
            rw [hv1] at hxs
            generalize x'.ev e = xa at hxs e1
            cases hxs <;> first
              | assumption
              | omega
              | (simp [lenA] at e1; done)
          have hf : (Builtin.firstCells i.size 0 (.slice b2 0 c2)).run P w = .ok (([] : List Value).toArray) w := by
            cases b2 <;> simp [Builtin.firstCells, loadCells, loadCellsFrom]
          have hr := run_append_in (P := P) (w := w) t o.type t' i hu hi b1 n1 c1 b2 0 c2 [] hf (by omega)
          refine ⟨.value (.slice b1 n1 c1), _, w, ρ, run _ _ ?_, .inl rfl, ?_, hh, Stp.refl _ _ _⟩
          · rw [hv1, hv2, hr]
            cases b1 <;> simp [storesAt, storeCells]
          · rw [← hv1]; exact hxs
        · cases h
      · rename_i hn0
        have hn0' : 0 < n2 := by
          rcases Nat.eq_zero_or_pos n2 with hq | hq
          · subst hq; exact absurd rfl hn0
          · exact hq
        split at h
        · cases h
        · rename_i hall
          have hall' : ∀ c ∈ new, c.one = true := by
            intro c hc
            have : new.all AV.one = true := by simpa using hall
            exact List.all_eq_true.1 this c hc
          rcases g3 with ⟨ad, m, c, hyv, g3⟩ | ⟨hq, _⟩
          case inr => omega
          rw [hv2] at hyv
          cases hyv
          have hf : (Builtin.firstCells i.size n2 (.slice (some ad) n2 c2)).run P w = .ok nv.toArray w := run_firstCells_some (P := P) w i.size n2 ad n2 c2 nv g1 g3
          refine app_core (vz := vz) (yv := .slice (some ad) n2 c2) (ts := #[t, t]) hh hxs hv1 e1 hzs hfr g1 g2 hn0' hall' (by rw [← hv2]; exact run) (fun base sLen sCap hroom => run_append_in (P := P) (w := w) t o.type t' i hu hi base sLen sCap (some ad) n2 c2 nv hf hroom)
            (fun q1 q2 => run_append_nil (P := P) w t o.type t' i vz hu hi hiz ad n2 c2 nv g1 g3 hn0' (by omega) (by omega))
            (fun b sLen sCap olds l1 l3 hg q2 q1 => run_append_grow (P := P) w t o.type t' i vz hu hi hiz b sLen sCap olds l1 l3 ad n2 c2 nv g1 g3 hg (by omega) (growslice_fits (by omega) q1)) h
  · cases h

/-! Appending where names tell how long it is. -/

/-- A new object of the world, seen from some place on. -/
theorem HR.freshAt {H1 H' : AH} {cs : List AV} {t b co tot : Nat} {ob : Obj} (hh : HR ν ρ H1 w) (hal : H1.alloc ⟨cs, t, true⟩ = some (b, H')) (hfr : ρ b = none)
    (hbr : BR ν (ρ.at b ⟨w.heap.size, co, tot⟩) (w.alloc ob) ⟨cs, t, true⟩ ⟨w.heap.size, co, tot⟩) :
    HR ν (ρ.at b ⟨w.heap.size, co, tot⟩) H' (w.alloc ob) ∧ Stp ρ H1 w (ρ.at b ⟨w.heap.size, co, tot⟩) H' (w.alloc ob) := by
  have hlt : ∀ j x q, H1.get j = some x → ρ j = some q → q.cb < w.heap.size := fun j x q hx hq => (hh.find hx hq).lt
  have hold : ∀ k, k < w.heap.size → (w.alloc ob).heap[k]? = w.heap[k]? := fun k hk => by
    show (w.heap.push _)[k]? = _
    rw [Array.getElem?_push, if_neg (by omega)]
  obtain ⟨a1, a2, a3, a4, a5, a6⟩ := AH.alloc_spec hal
  refine ⟨HR.bring hh hal hfr hbr (fun k _ hk => hold k hk) (fun j x q hx hq => ?_), ⟨Emb.le_at hfr, fun j hj hj' => ?_, ?_, rfl, rfl, rfl, fun k hk _ => hold k hk, fun cb hcb ho => ?_, fun j q hj hj' => ?_⟩⟩
  · have := hlt j x q hx hq
    show q.cb ≠ w.heap.size
    omega
  · by_cases e : j = b
    · subst e; omega
    · exact (hj' (by rw [Emb.at_ne e]; exact hj)).elim
  · show w.heap.size ≤ (w.heap.push _).size
    simp
  · obtain ⟨j, x, q, h1, h2, h3, h4⟩ := ho
    rw [AH.alloc_get hal j] at h1
    by_cases e : j = b
    · rw [e, Emb.at_same hfr] at h3
      cases h3
      simp at h4
      omega
    · rw [if_neg e] at h1
      rw [Emb.at_ne e] at h3
      exact ⟨j, x, q, h1, h2, h3, h4⟩
  · by_cases e : j = b
    · rw [e, Emb.at_same hfr] at hj'
      cases hj'
      exact .inl (Nat.le_refl _)
    · rw [Emb.at_ne e, hj] at hj'
      cases hj'

/-- Where a slice lies that may grow: nowhere; or in a block of its own. -/
def Grows (_ν : Nat → Int) (ρ : Emb) (H : AH) (w : World) (kb : Option Nat) (base : Option Addr) (n1 c1 : Nat) (olds : List Value) : Prop :=
  (kb = none ∧ base = none ∧ n1 = 0 ∧ c1 = 0 ∧ olds = []) ∨
  ∃ blk bb pl C ty o, kb = some blk ∧ H.get blk = some bb ∧ bb.own = true ∧ ρ blk = some pl ∧ base = some ⟨pl.cb, o, none⟩ ∧ w.heap[pl.cb]? = some (.cells C ty (0, 0)) ∧ C.size = pl.tot ∧ o + c1 ≤ pl.tot ∧ n1 ≤ c1 ∧ olds.length = n1 ∧ ∀ j v, olds[j]? = some v → C[o + j]? = some v

/-- It has grown: where it lies now, and that a block may be laid there. -/
theorem grows_eff (hh : HR ν ρ H w) {kb : Option Nat} {H1 : AH} (hk : killA H kb = some H1) {base : Option Addr} {n1 c1 n2 : Nat} {olds nv : List Value} (hx : Grows ν ρ H w kb base n1 c1 olds) (hnv : nv.length = n2) (hone : ∀ v ∈ nv, v.oneCell' = true) {A : Sem Value} {t' : TypeId} {zc : Nat → Array Value} (hzc : ∀ m, (zc m).size = m)
    (rin : ∀ b, base = some b → n1 + n2 ≤ c1 → A.run P w = ((storeCells (b.add n1) nv).run P w).andThen fun _ w' => .ok (.slice (some b) (n1 + n2) c1) w')
    (rout : base = none ∨ c1 < n1 + n2 → A.run P w = .ok (.slice (some ⟨w.heap.size, 0, none⟩) (n1 + n2) (grownCap w (n1 + n2) c1 t')) (w.drew.alloc (.cells (olds.toArray ++ nv.toArray ++ zc (grownCap w (n1 + n2) c1 t' - (n1 + n2))) t'))) :
    ∃ cb o c tot C ty w', A.run P w = .ok (.slice (some ⟨cb, o, none⟩) (n1 + n2) c) w' ∧ n1 + n2 ≤ c ∧ w'.heap[cb]? = some (.cells C ty (0, 0)) ∧ C.size = tot ∧ o + c ≤ tot ∧ (∀ j v, (olds ++ nv)[j]? = some v → C[o + j]? = some v) ∧
      ∀ cs t b H' k, H1.alloc ⟨cs, t, true⟩ = some (b, H') → Fresh ρ H H' → BR ν (ρ.at b ⟨cb, o + k, tot⟩) w' ⟨cs, t, true⟩ ⟨cb, o + k, tot⟩ → ρ b = none ∧ HR ν (ρ.at b ⟨cb, o + k, tot⟩) H' w' ∧ Stp ρ H w (ρ.at b ⟨cb, o + k, tot⟩) H' w' := by
  have kill : HR ν ρ H1 w ∧ H1.next = H.next ∧ (∀ j z, H1.get j = some z → H.get j = some z) := by
    cases kb with
    | none =>
      simp only [killA, Option.some.injEq] at hk
      subst hk
      exact ⟨hh, rfl, fun _ _ h => h⟩
    | some blk =>
      have hk : H.lay blk none = some H1 := hk
      obtain ⟨k1, k2⟩ := hh.kill hk
      obtain ⟨_, _, _, hnext, _⟩ := AH.lay_spec hk
      exact ⟨k1, hnext, fun j z hz => (k2 j z hz).2⟩
  obtain ⟨kh, knext, ktr⟩ := kill
  have lolds : olds.length = n1 := by
    rcases hx with ⟨_, _, rfl, _, rfl⟩ | ⟨_, _, _, _, _, _, _, _, _, _, _, _, _, _, _, h, _⟩
    · rfl
    · exact h
  -- into a new block
  have out : base = none ∨ c1 < n1 + n2 → _ := fun hr => by
    have hge := grownCap_ge w (n1 + n2) c1 t'
    refine (⟨w.heap.size, 0, grownCap w (n1 + n2) c1 t', grownCap w (n1 + n2) c1 t', olds.toArray ++ nv.toArray ++ zc (grownCap w (n1 + n2) c1 t' - (n1 + n2)), t', _, rout hr, hge, ?_, ?_, by omega, fun j v hj => ?_, fun cs t b H' k hal hfr hbr => ?_⟩ :
      ∃ cb o c tot C ty w', A.run P w = .ok (.slice (some ⟨cb, o, none⟩) (n1 + n2) c) w' ∧ n1 + n2 ≤ c ∧ w'.heap[cb]? = some (.cells C ty (0, 0)) ∧ C.size = tot ∧ o + c ≤ tot ∧ (∀ j v, (olds ++ nv)[j]? = some v → C[o + j]? = some v) ∧
      ∀ cs t b H' k, H1.alloc ⟨cs, t, true⟩ = some (b, H') → Fresh ρ H H' → BR ν (ρ.at b ⟨cb, o + k, tot⟩) w' ⟨cs, t, true⟩ ⟨cb, o + k, tot⟩ → ρ b = none ∧ HR ν (ρ.at b ⟨cb, o + k, tot⟩) H' w' ∧ Stp ρ H w (ρ.at b ⟨cb, o + k, tot⟩) H' w')
    · show (w.heap.push _)[w.heap.size]? = _
      simp
    · simp only [Array.size_append, List.size_toArray, hzc, lolds, hnv]
      omega
    · have hj2 : j < (olds ++ nv).length := (List.getElem?_eq_some_iff.1 hj).1
      have e1 : olds.toArray ++ nv.toArray = (olds ++ nv).toArray := by simp
      rw [Nat.zero_add, Array.getElem?_append_left (by rw [e1]; simpa using hj2), e1]
      simpa using hj
    · obtain ⟨a1, a2, _⟩ := AH.alloc_spec hal
      have hb : ρ b = none := hfr b (by omega) (by omega)
      have hd : HR ν ρ H1 w.drew := kh.drawn _
      obtain ⟨g1, g2⟩ := hd.freshAt hal hb hbr
      have ow : ∀ cb, Owned ρ H1 cb → Owned ρ H cb := fun cb ⟨j, x1, q, p1, p2, p3, p4⟩ => ⟨j, x1, q, ktr j x1 p1, p2, p3, p4⟩
      refine ⟨hb, g1, ⟨g2.ext, fun j h1 h2 => by have := g2.fresh j h1 h2; omega, g2.size, g2.os, g2.tape, g2.output, fun cb hc hno => g2.frame cb hc fun ho => hno (ow cb ho), fun cb hc ho => ow cb (g2.owned cb hc ho), fun j q h1 h2 => ?_⟩⟩
      rcases g2.place j q h1 h2 with hq | hq
      · exact .inl hq
      · exact .inr (ow _ hq)
  rcases hx with ⟨rfl, rfl, rfl, rfl, rfl⟩ | ⟨blk, bb, pl, C, ty, o, rfl, hbb, hown, hpl, rfl, m1, m5, hcap, hle, _, hold⟩
  · exact out (.inl rfl)
  · by_cases hroom : n1 + n2 ≤ c1
    case neg => exact out (.inr (by omega))
    -- where it lies
    have hownb : Owned ρ H pl.cb := ⟨blk, bb, pl, hbb, hown, hpl, rfl⟩
    have hk : H.lay blk none = some H1 := hk
    have kne := (hh.kill hk).2
    have hr := rin ⟨pl.cb, o, none⟩ rfl hroom
    have hst := run_storeCells_at P pl.cb (o + n1) ty nv 0 C w m1 (by simp; omega) hone
    simp only [Nat.add_zero] at hst
    have hrow : ∀ k, k ≠ pl.cb → (w.setRow pl.cb (C.toList.take (o + n1) ++ nv ++ C.toList.drop (o + n1 + nv.length)).toArray).heap[k]? = w.heap[k]? := fun k hk => setRow_other w pl.cb k _ hk
    have hsame := setRow_heap w pl.cb C (C.toList.take (o + n1) ++ nv ++ C.toList.drop (o + n1 + nv.length)).toArray ty (0, 0) m1
    have hC' : (C.toList.take (o + n1) ++ nv ++ C.toList.drop (o + n1 + nv.length)).toArray.size = C.size := by simp; omega
    have hnew : ∀ (i : Nat), (C.toList.take (o + n1) ++ nv ++ C.toList.drop (o + n1 + nv.length)).toArray[i]? = if o + n1 ≤ i ∧ i < o + n1 + nv.length then nv[i - (o + n1)]? else C[i]? := by
      intro i
      simp only [List.getElem?_toArray]
      by_cases h1 : i < o + n1
      · rw [if_neg (by omega), List.append_assoc, List.getElem?_append_left (by simp; omega), List.getElem?_take, if_pos h1]
        simp
      · rw [List.append_assoc, List.getElem?_append_right (by simp; omega)]
        have el : (C.toList.take (o + n1)).length = o + n1 := by simp; omega
        rw [el]
        by_cases h2 : i < o + n1 + nv.length
        · rw [if_pos (by omega), List.getElem?_append_left (by omega)]
        · rw [if_neg (by omega), List.getElem?_append_right (by omega), List.getElem?_drop]
          simp only [Array.getElem?_toList]
          congr 1
          omega
    generalize (C.toList.take (o + n1) ++ nv ++ C.toList.drop (o + n1 + nv.length)).toArray = C' at hst hrow hsame hnew hC'
    refine ⟨pl.cb, o, c1, pl.tot, C', ty, w.setRow pl.cb C', ?_, hroom, hsame, hC'.trans m5, hcap, fun j v hj => ?_, fun cs t b H' k hal hfr hbr => ?_⟩
    · rw [hr]
      simp only [Addr.add_off, hst, Result.andThen_ok]
    · rw [hnew]
      by_cases h1 : j < olds.length
      · rw [if_neg (by omega)]
        rw [List.getElem?_append_left h1] at hj
        exact hold j v hj
      · rw [List.getElem?_append_right (by omega)] at hj
        have hj2 : j - olds.length < nv.length := (List.getElem?_eq_some_iff.1 hj).1
        rw [if_pos (by omega)]
        have e3 : o + j - (o + n1) = j - olds.length := by omega
        rw [e3]
        exact hj
    · obtain ⟨a1, a2, _⟩ := AH.alloc_spec hal
      have hb : ρ b = none := hfr b (by omega) (by omega)
      have hap : ∀ b'' x'' pl'', H1.get b'' = some x'' → ρ b'' = some pl'' → pl''.cb ≠ pl.cb := by
        intro b'' x'' pl'' hx'' hp''
        obtain ⟨hne, hg⟩ := kne b'' x'' hx''
        exact fun hq => hh.apart blk b'' bb x'' pl pl'' (fun q => hne q.symm) hbb hg hown hpl hp'' hq.symm
      refine ⟨hb, HR.bring (pl := ⟨pl.cb, o + k, pl.tot⟩) kh hal hb hbr (fun k hk _ => hrow k hk) hap, ⟨Emb.le_at hb, fun j hj hj' => ?_, by simp [World.setRow], rfl, rfl, rfl, fun cb _ hno => hrow cb (fun ecb => hno (ecb ▸ hownb)), fun cb _ ho => ?_, fun j q hj hj' => ?_⟩⟩
      · by_cases e9 : j = b
        · subst e9; omega
        · exact (hj' (by rw [Emb.at_ne e9]; exact hj)).elim
      · obtain ⟨j, x1, q, p1, p2, p3, p4⟩ := ho
        rw [AH.alloc_get hal j] at p1
        by_cases e9 : j = b
        · rw [e9, Emb.at_same hb] at p3
          cases p3
          rw [← p4]
          exact hownb
        · rw [if_neg e9] at p1
          rw [Emb.at_ne e9] at p3
          exact ⟨j, x1, q, ktr j x1 p1, p2, p3, p4⟩
      · by_cases e9 : j = b
        · rw [e9, Emb.at_same hb] at hj'
          cases hj'
          exact .inr hownb
        · rw [Emb.at_ne e9, hj] at hj'
          cases hj'

theorem endF_spec {t : Nat} (hF : F.Hold ν) (h : endF F t = true) : ν (pinA t) = ν (pinL t) ∧ ν (pinL t) < 1099511627776 := by
  unfold endF yesF at h
  simp only [Bool.and_eq_true] at h
  obtain ⟨h1, h2⟩ := h
  split at h1
  case h_2 => cases h1
  rename_i q1
  split at h2
  case h_2 => cases h2
  rename_i q2
  have r1 : (ν (pinA t) == ν (pinL t)) = true := cmpI_val hF _ _ _ _ q1
  have r2 : decide (ν (pinL t) < 1099511627776) = true := cmpI_val hF _ _ _ _ q2
  exact ⟨by simpa using r1, of_decide_eq_true r2⟩

theorem lenE_val {k : AI} {wd : Nat} {n : Nat} (hk : k.val ν = (n : Int)) (h1 : n < 1099511627776) (h2 : wd < 2147483648) : (lenE k wd).val ν = ((n + wd : Nat) : Int) := by
  unfold lenE
  split
  · rename_i h0
    have := Nat.eq_of_beq_eq_true h0
    subst this
    exact hk
  · show IntKind.i64.wrap (k.val ν + (wd : Int)) = _
    rw [hk]
    simp only [IntKind.wrap, IntKind.bits, IntKind.signed]
    simp
    omega

theorem lst_length {t n : Nat} (h : ν (pinL t) = (n : Int)) : (lst ν t).length = n := by
  simp [lst, h]
theorem lst_get {t n : Nat} (h : ν (pinL t) = (n : Int)) (j : Nat) : (lst ν t)[j]? = if j < n then some (ν (pinB t j)) else none := by
  simp only [lst, h, Int.toNat_natCast]
  by_cases hj : j < n
  · rw [if_pos hj]
    simp [hj]
  · rw [if_neg hj]
    simp [hj]

/-- What a slice that may grow is made of. -/
theorem partsA_sim (hF : F.Hold ν) (hh : HR ν ρ H w) {x : AV} {v : Value} {kb : Option Nat} {tx : Nat} {xs : List AV} (h : partsA F H x = some (kb, tx, xs)) (hv : VR ν ρ x v) :
    ∃ base n1 c1 olds, v = .slice base n1 c1 ∧ Grows ν ρ H w kb base n1 c1 olds ∧ n1 < 1100585369600 ∧
      ∃ (m : Nat) (xv : List Value), olds = (List.range m).map (fun j => Value.int (pinK tx) (ν (pinB tx j))) ++ xv ∧ LR ν ρ xs xv.toArray ∧ xs.length < 1073741824 ∧ (tx = 0 → m = 0) ∧ (tx ≠ 0 → mapTag < tx ∧ ν (pinA tx) = (m : Int) ∧ ν (pinL tx) = (m : Int) ∧ m < 1099511627776) ∧ (tx ≠ 0 → kb ≠ none) := by
  unfold partsA at h
  split at h
  · simp only [Option.some.injEq, Prod.mk.injEq] at h
    obtain ⟨rfl, rfl, rfl⟩ := h
    cases hv
    exact ⟨none, 0, 0, [], rfl, .inl ⟨rfl, rfl, rfl, rfl, rfl⟩, by decide, 0, [], rfl, ⟨rfl, by simp⟩, by decide, fun _ => rfl, fun h => (h rfl).elim, fun h => (h rfl).elim⟩
  · rename_i blk off n z
    split at h
    · rename_i bb hbb
      split at h
      · rename_i hc
        simp only [Bool.and_eq_true, Nat.blt_eq] at hc
        obtain ⟨⟨⟨h1, h2⟩, h3⟩, h4⟩ := hc
        have h3 := Nat.eq_of_beq_eq_true h3
        subst h3
        split at h
        · rename_i cs hcs
          simp only [Option.some.injEq, Prod.mk.injEq] at h
          obtain ⟨rfl, rfl, rfl⟩ := h
          cases hv
          rename_i pl nn cc hle hpl hnn hcap
          have hln : n = nn := by simp only [AI.val] at hnn; exact Int.ofNat.inj hnn
          subst hln
          obtain ⟨vs, g1, g2, g3⟩ := AH.row_sim hh hpl hcs
          obtain ⟨C, ty, fz, m1, m2, m3⟩ := (hh.find hbb hpl).cells (Nat.ne_of_lt h2)
          obtain ⟨rfl, m5⟩ := m3 h1
          have hcap : pl.co + off + cc * 1 ≤ pl.tot := hcap
          have hcl : cs.length = n := by have := g2.1; simp at this; omega
          refine ⟨_, n, cc, vs, rfl, .inr ⟨blk, bb, pl, C, ty, pl.co + off, rfl, hbb, h1, hpl, rfl, m1, m5, by omega, hle, g1, fun j v hj => ?_⟩, by omega, 0, vs, rfl, g2, by omega, fun _ => rfl, fun h => (h rfl).elim, fun h => (h rfl).elim⟩
          have := g3 j v hj
          rw [Addr.add_off] at this
          simpa [World.cell?, m1] using this
        · cases h
      · cases h
    · cases h
  · rename_i blk z k wd len z'
    split at h
    · rename_i bb hbb
      split at h
      · rename_i hc
        simp only [Bool.and_eq_true, Nat.blt_eq] at hc
        obtain ⟨⟨⟨⟨⟨⟨⟨⟨h1, h2⟩, h3⟩, h4⟩, h5⟩, h6⟩, h7⟩, h8⟩, h9⟩ := hc
        have h3 := Nat.eq_of_beq_eq_true h3
        have h4 := Nat.eq_of_beq_eq_true h4
        have h5 := AI.beq_eq _ _ h5
        have h6 := Nat.eq_of_beq_eq_true h6
        have h7 := AI.beq_eq _ _ h7
        subst h3 h4 h5 h6 h7
        simp only [Option.some.injEq, Prod.mk.injEq] at h
        obtain ⟨rfl, rfl, rfl⟩ := h
        obtain ⟨e1, e2⟩ := endF_spec hF h8
        cases hv
        rename_i pl o a n c hl hb hpl hoo ha hw hn hc
        have ha : ν (pinA (bb.elem - mapTag)) = (a : Int) := ha
        have hbr := hh.find hbb hpl
        have hm : bb.elem ≠ mapTag := by unfold winTag at h2; unfold mapTag; omega
        obtain ⟨C, ty, fz, m1, m2, m3⟩ := hbr.cells hm
        obtain ⟨rfl, m5⟩ := m3 h1
        have hpin := hbr.pin (by unfold winTag at h2; unfold mapTag; omega)
        unfold PinB at hpin
        rw [if_neg (by omega)] at hpin
        obtain ⟨C2, ty2, fz2, o2, a2, q1, q2, q3, q4⟩ := hpin
        rw [m1] at q1
        cases q1
        rw [ha] at q2
        have q2 : a = a2 := by omega
        subst q2
        have eo : o2 = o := by omega
        subst eo
        have haL : ν (pinL (bb.elem - mapTag)) = (a : Int) := by omega
        have han : a < 1099511627776 := by omega
        have hln := lenE_val (ν := ν) (k := .s (pinA (bb.elem - mapTag))) (wd := bb.cells.length) ha han (by omega)
        rw [hn] at hln
        have hnn : n = a + bb.cells.length := by omega
        have hcap : o2 + 0 + c * 1 ≤ pl.tot := hc
        obtain ⟨xv, x1, x2⟩ : ∃ xv : List Value, LR ν ρ bb.cells xv.toArray ∧ ∀ j v, xv[j]? = some v → C[pl.co + j]? = some v := by
          have key : ∀ (k : Nat) (cs : List AV), (∀ (j : Nat) (c : AV), cs[j]? = some c → ∃ v, C[pl.co + k + j]? = some v ∧ VR ν ρ c v) → ∃ xv : List Value, xv.length = cs.length ∧ (∀ (j : Nat) (c : AV) (v : Value), cs[j]? = some c → xv[j]? = some v → VR ν ρ c v) ∧ ∀ (j : Nat) (v : Value), xv[j]? = some v → C[pl.co + k + j]? = some v := by
            intro k cs
            induction cs generalizing k with
            | nil => intro _; exact ⟨[], rfl, fun j c v h => by simp at h, fun j v h => by simp at h⟩
            | cons c r ih =>
              intro hcs
              obtain ⟨v, v1, v2⟩ := hcs 0 c rfl
              obtain ⟨xv, y1, y2, y3⟩ := ih (k + 1) fun j c' hj => by
                obtain ⟨u, u1, u2⟩ := hcs (j + 1) c' (by simpa using hj)
                exact ⟨u, by rw [← u1, show pl.co + (k + 1) + j = pl.co + k + (j + 1) by omega], u2⟩
              refine ⟨v :: xv, by simp [y1], fun j c' u hj hu => ?_, fun j u hj => ?_⟩
              · cases j with
                | zero =>
                  simp at hj hu
                  subst hj hu
                  exact v2
                | succ j => exact y2 j c' u (by simpa using hj) (by simpa using hu)
              · cases j with
                | zero =>
                  simp at hj
                  subst hj
                  exact v1
                | succ j =>
                  rw [← y3 j u (by simpa using hj), show pl.co + (k + 1) + j = pl.co + k + (j + 1) by omega]
          obtain ⟨xv, y1, y2, y3⟩ := key 0 bb.cells (by simpa using m2)
          exact ⟨xv, ⟨by simpa using y1.symm, fun j x v hx hv => y2 j x v hx (by simpa using hv)⟩, by simpa using y3⟩
        have xl : xv.length = bb.cells.length := by simpa using x1.1.symm
        refine ⟨_, n, c, _, rfl, .inr ⟨blk, bb, pl, C, ty, o2, rfl, hbb, h1, hpl, rfl, m1, m5, by omega, hl, ?_, fun j v hj => ?_⟩, by omega, a, xv, rfl, x1, h9, fun h => by unfold winTag at h2; unfold mapTag at h; omega, fun _ => ⟨by unfold winTag at h2; unfold mapTag; omega, ha, haL, han⟩, fun _ => by simp⟩
        · simp [xl, hnn]
        · by_cases hj2 : j < a
          · rw [List.getElem?_append_left (by simpa using hj2)] at hj
            simp [hj2] at hj
            subst hj
            exact q4 j (by omega) (.inl hj2)
          · rw [List.getElem?_append_right (by simp; omega)] at hj
            simp at hj
            have h9 := x2 _ v hj
            rw [show pl.co + (j - a) = o2 + j by omega] at h9
            exact h9
      · cases h
    · cases h
  · cases h

theorem intsA_val {k : IntKind} : ∀ {xs : List AV} {is : List AI} {xv : List Value}, intsA k xs = some is → LR ν ρ xs xv.toArray → xv = is.map fun i => Value.int k (i.val ν)
  | [], is, xv, h, hl => by
    simp only [intsA, Option.some.injEq] at h
    subst h
    have := hl.1
    cases xv with
    | nil => rfl
    | cons _ _ => simp at this
  | x :: r, is, xv, h, hl => by
    unfold intsA at h
    split at h
    · rename_i heq
      cases heq
    · rename_i k' n r' heq
      cases heq
      split at h
      · rename_i hk
        subst hk
        simp only [Option.map_eq_some_iff] at h
        obtain ⟨is', h1, rfl⟩ := h
        cases xv with
        | nil => have := hl.1; simp at this
        | cons v s =>
          have hv := hl.2 0 _ v rfl (by simp)
          have hs := intsA_val (xv := s) h1 ⟨by have := hl.1; simpa using this, fun j x u hx hu => hl.2 (j + 1) x u (by simpa using hx) (by simpa using hu)⟩
          cases hv
          rw [hs]
          rfl
      · cases h
    · cases h

theorem eqIs_eq : ∀ {a b : List AI}, eqIs a b = true → a = b
  | [], [], _ => rfl
  | x :: r, y :: s, h => by
    simp only [eqIs, Bool.and_eq_true] at h
    rw [AI.beq_eq _ _ h.1, eqIs_eq h.2]
  | [], _ :: _, h => by cases h
  | _ :: _, [], h => by cases h

theorem findCat_mem : ∀ {l : List (Nat × List AI × Nat × Nat)} {tx : Nat} {xs : List AI} {ty tr : Nat}, findCat l tx xs ty = some tr → (tx, xs, ty, tr) ∈ l
  | [], _, _, _, _, h => by cases h
  | p :: r, tx, xs, ty, tr, h => by
    simp only [findCat] at h
    split at h
    · rename_i hc
      simp only [Bool.and_eq_true] at hc
      cases h
      have h1 := Nat.eq_of_beq_eq_true hc.1.1
      have h2 := eqIs_eq hc.1.2
      have h3 := Nat.eq_of_beq_eq_true hc.2
      subst h1 h2 h3
      exact List.mem_cons_self
    · exact List.mem_cons_of_mem _ (findCat_mem h)

/-- A row that is but read. -/
theorem rowOf_sim (hF : F.Hold ν) (hh : HR ν ρ H w) {y : AV} {v : Value} {ty : Nat} (h : rowOf F H y = some ty) (hv : VR ν ρ y v) :
    ∃ ad n c, v = .slice (some ad) n c ∧ ν (pinL ty) = (n : Int) ∧ 0 < n ∧ n < 1099511627776 ∧ mapTag < ty ∧ ∀ j, j < n → w.cell? (ad.add j) = some (.int (pinK ty) (ν (pinB ty j))) := by
  unfold rowOf at h
  split at h
  · rename_i b l cap
    split at h
    · rename_i x hx
      split at h
      · rename_i hc
        simp only [Bool.and_eq_true, Nat.blt_eq, Nat.ble_eq] at hc
        obtain ⟨⟨⟨⟨h1, h2⟩, h3⟩, h4⟩, h5⟩ := hc
        have h3 : l = pinL x.elem := Nat.eq_of_beq_eq_true h3
        rw [h3] at hv h4 h5
        cases h
        cases hv
        rename_i pl n c hle hpl hnn hcap
        have hnn : ν (pinL x.elem) = (n : Int) := hnn
        unfold yesF at h4 h5
        split at h4
        case h_2 => cases h4
        rename_i q1
        split at h5
        case h_2 => cases h5
        rename_i q2
        have r1 : decide (ν (pinL x.elem) > 0) = true := cmpI_val hF _ _ _ _ q1
        have r2 : decide (ν (pinL x.elem) < 1099511627776) = true := cmpI_val hF _ _ _ _ q2
        have r1 := of_decide_eq_true r1
        have r2 := of_decide_eq_true r2
        have hp := (hh.find hx hpl).pin h1
        unfold PinB at hp
        rw [if_pos h2] at hp
        obtain ⟨C, t, fz, g1, g2⟩ := hp
        refine ⟨_, n, c, rfl, hnn, by omega, by omega, h1, fun j hj => ?_⟩
        rw [Addr.add_off]
        simp only [World.cell?, g1]
        simpa using g2 j (by omega)
      · cases h
    · cases h
  · rename_i b z k wd len cap
    split at h
    · rename_i x hx
      split at h
      · rename_i hc
        simp only [Bool.and_eq_true, Nat.blt_eq] at hc
        obtain ⟨⟨⟨⟨⟨⟨⟨h1, h2⟩, h3⟩, h4⟩, h5⟩, h6⟩, h7⟩, h8⟩ := hc
        have h2 := Nat.eq_of_beq_eq_true h2
        have h3 := Nat.eq_of_beq_eq_true h3
        have h4 := Nat.eq_of_beq_eq_true h4
        have h5 := AI.beq_eq _ _ h5
        have h6 := AI.beq_eq _ _ h6
        subst h2 h3 h5 h6
        simp only [Option.some.injEq] at h
        subst h
        obtain ⟨e1, e2⟩ := endF_spec hF h7
        have r1 : decide (ν (pinL (x.elem - mapTag)) > 0) = true := yesF_val hF h8
        have r1 := of_decide_eq_true r1
        cases hv
        rename_i pl o a n c hl hb hpl hoo ha hw hn hc
        have ha : ν (pinA (x.elem - mapTag)) = (a : Int) := ha
        have hn : ν (pinA (x.elem - mapTag)) = (n : Int) := hn
        have hpin := (hh.find hx hpl).pin (by unfold winTag at h1; unfold mapTag; omega)
        unfold PinB at hpin
        rw [if_neg (by omega), h4] at hpin
        obtain ⟨C, t, fz, o2, a2, q1, q2, q3, q4⟩ := hpin
        rw [ha] at q2
        have q2 : a = a2 := by omega
        subst q2
        have eo : o2 = o := by omega
        subst eo
        refine ⟨_, n, c, rfl, by rw [← e1]; exact hn, by omega, by omega, by unfold winTag at h1; unfold mapTag; omega, fun j hj => ?_⟩
        rw [Addr.add_off]
        simp only [World.cell?, q1]
        simpa using q4 j (by omega) (.inl (by omega))
      · cases h
    · cases h
  · cases h

theorem findTail_spec (hF : F.Hold ν) {tx ty t2 : Nat} : ∀ {l : List (Nat × List AI × Nat × Nat)}, findTail F tx ty l = some t2 → ∃ t1, (t1, [], t2, tx) ∈ l ∧ mapTag < t1 ∧ ν (pinL t1) = ν (pinL ty)
  | [], h => by cases h
  | p :: r, h => by
    have hr : findTail F tx ty r = some t2 → ∃ t1, (t1, [], t2, tx) ∈ p :: r ∧ mapTag < t1 ∧ ν (pinL t1) = ν (pinL ty) := fun h9 => by
      obtain ⟨t1, q1, q2, q3⟩ := findTail_spec hF h9
      exact ⟨t1, List.mem_cons_of_mem _ q1, q2, q3⟩
    unfold findTail at h
    split at h
    · rename_i t1 t2' t'
      split at h
      · rename_i hb
        cases h
        simp only [Bool.and_eq_true, Nat.blt_eq] at hb
        obtain ⟨⟨b1, b2⟩, b3⟩ := hb
        have b1 := Nat.eq_of_beq_eq_true b1
        subst b1
        exact ⟨t1, List.mem_cons_self, b2, eq_of_beq (yesF_val hF b3)⟩
      · exact hr h
    · exact hr h
/-- What is stored into a block of one's own, which then says something else. -/
theorem lay_store {blk : Nat} {x y : ABlk} {pl : Pl} {H' : AH} {C : Array Value} {ty : TypeId} {vs : List Value} {at0 : Nat} (hh : HR ν ρ H w) (hx : H.get blk = some x) (hxo : x.own = true) (hp : ρ blk = some pl) (h : H.lay blk (some y) = some H')
    (g1 : w.heap[pl.cb]? = some (.cells C ty (0, 0))) (hend : at0 + vs.length ≤ C.size) (hone : ∀ v ∈ vs, v.oneCell' = true)
    (hbr : ∀ (w' : World) (C' : Array Value), w'.heap[pl.cb]? = some (.cells C' ty (0, 0)) → C'.size = C.size → (∀ i, C'[i]? = if at0 ≤ i ∧ i < at0 + vs.length then vs[i - at0]? else C[i]?) → BR ν ρ w' y pl) :
    ∃ w', (storeCells ⟨pl.cb, at0, none⟩ vs).run P w = .ok () w' ∧ HR ν ρ H' w' ∧ Stp ρ H w ρ H' w' := by
  have hget := AH.lay_get h
  have hown : ∀ cb, Owned ρ H' cb → Owned ρ H cb := by
    rintro cb ⟨j, z, q, h1, h2, h3, h4⟩
    rw [hget j] at h1
    split at h1
    · rename_i e; subst e; exact ⟨j, x, q, hx, hxo, h3, h4⟩
    · exact ⟨j, z, q, h1, h2, h3, h4⟩
  have hst := run_storeCells_at P pl.cb at0 ty vs 0 C w g1 (by simpa using hend) hone
  simp only [Nat.add_zero] at hst
  have hrow : ∀ k, k ≠ pl.cb → (w.setRow pl.cb (C.toList.take at0 ++ vs ++ C.toList.drop (at0 + vs.length)).toArray).heap[k]? = w.heap[k]? := fun k hk => setRow_other w pl.cb k _ hk
  have hsame := setRow_heap w pl.cb C (C.toList.take at0 ++ vs ++ C.toList.drop (at0 + vs.length)).toArray ty (0, 0) g1
  have hnew : ∀ (i : Nat), (C.toList.take at0 ++ vs ++ C.toList.drop (at0 + vs.length)).toArray[i]? = if at0 ≤ i ∧ i < at0 + vs.length then vs[i - at0]? else C[i]? := by
    intro i
    simp only [List.getElem?_toArray]
    by_cases h1 : i < at0
    · rw [if_neg (by omega), List.append_assoc, List.getElem?_append_left (by simp; omega), List.getElem?_take, if_pos h1]
      simp
    · rw [List.append_assoc, List.getElem?_append_right (by simp; omega)]
      have el : (C.toList.take at0).length = at0 := by simp; omega
      rw [el]
      by_cases h2 : i < at0 + vs.length
      · rw [if_pos (by omega), List.getElem?_append_left (by omega)]
      · rw [if_neg (by omega), List.getElem?_append_right (by omega), List.getElem?_drop]
        simp only [Array.getElem?_toList]
        congr 1
        omega
  have hC' : (C.toList.take at0 ++ vs ++ C.toList.drop (at0 + vs.length)).toArray.size = C.size := by simp; omega
  generalize (C.toList.take at0 ++ vs ++ C.toList.drop (at0 + vs.length)).toArray = C' at hst hrow hsame hnew hC'
  have tr : ∀ j z, H'.get j = some z → ∃ z0, H.get j = some z0 ∧ (z.own = true → z0.own = true) := by
    intro j z hz
    rw [hget j] at hz
    split at hz
    · rename_i ej; subst ej; exact ⟨x, hx, fun _ => hxo⟩
    · exact ⟨z, hz, id⟩
  refine ⟨_, hst, ⟨fun j z hz => ?_, fun j j' z z' q q' hne hz hz' hzo hq hq' => ?_⟩, ⟨Emb.le_refl _, fun _ p q => (q p).elim, by simp [World.setRow], rfl, rfl, rfl, fun cb _ hno => hrow cb (fun ecb => hno ⟨blk, x, pl, hx, hxo, hp, ecb.symm⟩), fun cb _ o => hown cb o, fun _ _ h k => by rw [h] at k; cases k⟩⟩
  · rw [hget j] at hz
    split at hz
    · rename_i ej
      subst ej
      cases hz
      exact ⟨pl, hp, hbr _ _ hsame hC' hnew⟩
    · rename_i ej
      obtain ⟨q, h1, h2⟩ := hh.blk j z hz
      exact ⟨q, h1, h2.keep (Emb.le_refl _) (hrow q.cb (fun ecb => hh.apart blk j x z pl q (fun hq => ej hq.symm) hx hz hxo hp h1 ecb.symm))⟩
  · obtain ⟨y0, hy0, hyo⟩ := tr j z hz
    obtain ⟨y1, hy1, _⟩ := tr j' z' hz'
    exact hh.apart j j' y0 y1 q q' hne hy0 hy1 (hyo hzo) hq hq'

theorem sim_cpyV (hF : F.Hold ν) (hh : HR ν ρ H w) {x y : Operand} {xa ya : AV} {ts : Array TypeId} {t t' : TypeId} {s : Nat} (ho : o.op = .call { callee := .builtin .copy, args := #[x, y], argTypes := ts })
    (h0 : ts[0]? = some t) (hu : P.underlying t = some (.slice t')) (hs : cSize P t' = some s) (hxs : VR ν ρ xa (a.eval x)) (hys : VR ν ρ ya (a.eval y)) (h : cpyV F H s xa ya = some (r, H')) : Eff ν ρ P H w a o r H' := by
  have run : (execOp a.eval o).run P w = ((Builtin.copy_ ts o.type #[a.eval x, a.eval y]).run P w).andThen fun v w => .ok (.value v) w := by
    simp [execOp, ho, resolve, invoke, builtin]
  unfold cpyV at h
  split at h
  case h_3 => cases h
  case h_2 =>
    rename_i blk off n cap
    split at h
    case h_2 => cases h
    rename_i b2 o2 len cap2
    split at h
    case isFalse => cases h
    rename_i hc
    have hge := of_decide_eq_true (yesF_val hF hc)
    split at h
    case h_2 => cases h
    rename_i cs hcs
    simp only [Option.map_eq_some_iff, Prod.mk.injEq] at h
    obtain ⟨H2, hwr, rfl, rfl⟩ := h
    obtain ⟨vs, g1, g2⟩ := firstA_run (P := P) hh hcs hys
    generalize hxv : a.eval x = xv at hxs
    generalize hyv : a.eval y = yv at hys g2
    cases hxs
    rename_i pl nn cc hle hpl hnn hcap
    cases hys
    rename_i pl2 n2 c2 hle2 hpl2 hnn2 hcap2
    have e1 : nn = n := by
      have : ((n : Nat) : Int) = (nn : Int) := hnn
      omega
    subst e1
    have hge2 : nn ≤ n2 := by
      have h9 : len.val ν ≥ ((nn : Nat) : Int) := hge
      rw [hnn2] at h9
      omega
    have hmin : min n2 nn = nn := Nat.min_eq_right hge2
    obtain ⟨w', k1, k2, k3⟩ := AH.wr_sim (P := P) hh hpl hwr g1
    refine ⟨.value (goInt (nn : Nat)), _, w', ρ, ?_, .inl rfl, .i _ (.c _), k2, k3⟩
    rw [run, hxv, hyv]
    simp [Builtin.copy_, h0, run_underlying hu, Builtin.lenOf, cSize_spec hs, hmin, g2, k1]
  rename_i blk z k len cap
  generalize hxv : a.eval x = xv at hxs
  cases hxs
  rename_i pl o' b' n1 c1 hl hb hpl hoo hka hw hn hcap
  split at h
  · -- nothing
    rename_i n e1
    split at h
    case isFalse => cases h
    rename_i hn0
    have hn0 := Nat.eq_of_beq_eq_true hn0
    subst hn0
    simp only [Option.some.injEq, Prod.mk.injEq] at h
    obtain ⟨rfl, rfl⟩ := h
    obtain ⟨b2, c2, hv2⟩ := lenA_sim e1 hys
    refine ⟨.value (goInt (0 : Nat)), _, w, ρ, ?_, .inl rfl, .i _ (.c _), hh, Stp.refl _ _ _⟩
    have gg : (Builtin.firstCells s 0 (Value.slice b2 0 c2)).run P w = .ok #[] w := by cases b2 <;> simp [Builtin.firstCells, loadCells, loadCellsFrom]
    rw [run, hxv, hv2]
    simp [Builtin.copy_, h0, run_underlying hu, Builtin.lenOf, cSize_spec hs, gg, storeCells]
  · rename_i e1
    split at h
    case h_2 => cases h
    rename_i bb ty hbb hrow
    split at h
    case isFalse => cases h
    rename_i hc
    simp only [Bool.and_eq_true, Nat.blt_eq] at hc
    obtain ⟨⟨⟨⟨⟨⟨c1', c2'⟩, c3'⟩, c4'⟩, c5'⟩, c6'⟩, c7'⟩ := hc
    have hs1 : s = 1 := Nat.eq_of_beq_eq_true c4'
    have hz1 : z = 1 := Nat.eq_of_beq_eq_true c5'
    have hcl : bb.cells.length = 0 := Nat.eq_of_beq_eq_true c3'
    have hkk := AI.beq_eq _ _ c6'
    subst hs1; subst hz1
    generalize hT : bb.elem - mapTag = tx at *
    have hle := of_decide_eq_true (yesF_val hF c7')
    split at h
    case h_2 => cases h
    rename_i t2 htail
    split at h
    case h_2 => cases h
    rename_i tr htr
    split at h
    case isFalse => cases h
    rename_i hd
    simp only [Bool.and_eq_true, Nat.blt_eq, decide_eq_true_eq] at hd
    obtain ⟨⟨⟨⟨⟨d1, d0⟩, d2⟩, d3⟩, d4⟩, d5⟩ := hd
    have d2 : ν (pinA tr) = ν (pinA tx) := eq_of_beq (yesF_val hF d2)
    have d3 : ν (pinL tr) = ν (pinL tx) := eq_of_beq (yesF_val hF d3)
    simp only [Option.map_eq_some_iff, Prod.mk.injEq] at h
    obtain ⟨H2, hlay, rfl, rfl⟩ := h
    obtain ⟨t1, m1, m2, m3⟩ := findTail_spec hF htail
    obtain ⟨s1, s2⟩ := hF.cat _ m1
    obtain ⟨s3, s4⟩ := hF.cat _ (findCat_mem htr)
    obtain ⟨ad, n2, c2, hyv, hL, hn2, hlt, hty, hcell⟩ := rowOf_sim hF hh hrow hys
    rw [hL] at m3
    have hbr0 := hh.find hbb hpl
    have hem : bb.elem ≠ mapTag := by intro e9; rw [e9] at c2'; unfold winTag mapTag at c2'; omega
    obtain ⟨C, tyy, fz, q1, q2, q3⟩ := hbr0.cells hem
    obtain ⟨rfl, q4⟩ := q3 c1'
    have hpin := hbr0.pin (by unfold winTag at c2'; unfold mapTag; omega)
    unfold PinB at hpin
    rw [if_neg (Nat.not_le_of_lt c2'), hT, hcl] at hpin
    obtain ⟨C2, ty2, fz2, o2, a2, r1, r2, r3, r4⟩ := hpin
    rw [q1] at r1
    cases r1
    have eo : o2 = o' := by
      rw [hkk] at hka
      have : ν (pinA tx) = (b' : Int) := hka
      omega
    subst eo
    let nv : List Value := (List.range n2).map fun j => Value.int (pinK ty) (ν (pinB ty j))
    have lnv : nv.length = n2 := by simp [nv]
    have hfc : (Builtin.firstCells 1 n2 (.slice (some ad) n2 c2)).run P w = .ok nv.toArray w := run_firstCells_some (P := P) w 1 n2 ad n2 c2 nv (by omega) (fun j v hj => by
      have hj2 : j < n2 := by rw [← lnv]; exact (List.getElem?_eq_some_iff.1 hj).1
      simp [nv, hj2] at hj
      rw [hcell j hj2, hj])
    have hle2 : n2 ≤ n1 := by
      have h9 : (AI.s (pinL ty)).val ν ≤ len.val ν := hle
      have h8 : (AI.s (pinL ty)).val ν = (n2 : Int) := hL
      rw [h8, hn] at h9
      omega
    have hone : ∀ v ∈ nv, v.oneCell' = true := fun v hv => by
      simp only [nv, List.mem_map] at hv
      obtain ⟨_, _, rfl⟩ := hv
      rfl
    -- the rows' numbers
    obtain ⟨mr, hmr⟩ := Int.eq_ofNat_of_zero_le s3
    have hmr : ν (pinL tr) = (mr : Int) := hmr
    have hmx : ν (pinL tx) = (mr : Int) := by rw [← d3]; exact hmr
    have s4' : lst ν tr = lst ν ty ++ lst0 ν t2 := by
      have := s4
      simp only [List.map_nil, List.append_nil] at this
      rw [lst0_row ν hty] at this
      exact this
    have s2' : lst ν tx = lst ν t1 ++ lst0 ν t2 := by
      have := s2
      simp only [List.map_nil, List.append_nil] at this
      rw [lst0_row ν m2] at this
      exact this
    have l1 : (lst ν t1).length = n2 := lst_length m3
    have l2 : (lst ν ty).length = n2 := lst_length hL
    have hle3 : n2 ≤ mr := by
      have e1 := congrArg List.length s2'
      rw [List.length_append, l1, lst_length hmx] at e1
      omega
    have hsz : o2 + n2 ≤ C.size := by
      have e1 := r4 (n2 - 1) (by rw [hmx]; omega) (by omega)
      have := (Array.getElem?_eq_some_iff.1 e1).1
      omega
    have hnum : ∀ j, j < mr → ν (pinB tr j) = if j < n2 then ν (pinB ty j) else ν (pinB tx j) := by
      intro j hj
      have e1 := lst_get hmr j
      rw [if_pos hj] at e1
      have e2 := lst_get hmx j
      rw [if_pos hj] at e2
      by_cases hj2 : j < n2
      · rw [if_pos hj2]
        rw [s4', List.getElem?_append_left (by omega)] at e1
        have e3 := lst_get hL j
        rw [if_pos hj2] at e3
        rw [e3] at e1
        exact (Option.some.inj e1).symm
      · rw [if_neg hj2]
        rw [s4', List.getElem?_append_right (by omega), l2] at e1
        rw [s2', List.getElem?_append_right (by omega), l1] at e2
        rw [e2] at e1
        exact (Option.some.inj e1).symm
    obtain ⟨w', k1, k2, k3⟩ := lay_store (P := P) (y := ⟨[], tr + mapTag, true⟩) (vs := nv) (at0 := o2) hh hbb c1' hpl hlay q1 (by rw [lnv]; omega) hone (fun w' C' p1 p2 p3 => by
      refine ⟨fun _ => ⟨C', tyy, (0, 0), p1, fun j c hc => by simp at hc, fun _ => ⟨rfl, p2.trans q4⟩⟩, fun e9 => ?_, fun _ => ?_⟩
      · exfalso
        have e9 : tr + mapTag = mapTag := e9
        unfold mapTag at e9 d1
        omega
      · unfold PinB
        have hbig : ¬ (ABlk.mk [] (tr + mapTag) true).elem ≤ winTag := by
          show ¬ tr + mapTag ≤ winTag
          unfold winTag
          unfold mapTag at d1 ⊢
          omega
        rw [if_neg hbig]
        have e5 : (ABlk.mk [] (tr + mapTag) true).elem - mapTag = tr := Nat.add_sub_cancel _ _
        rw [e5]
        refine ⟨C', tyy, (0, 0), o2, a2, p1, d2.trans r2, r3, fun j hj _ => ?_⟩
        rw [hmr] at hj
        have hj : j < mr := by omega
        rw [p3, hnum j hj]
        by_cases hj2 : j < n2
        · rw [if_pos (by omega), if_pos hj2, Nat.add_sub_cancel_left]
          simp [nv, hj2, d4]
        · rw [if_neg (by omega), if_neg hj2, d5]
          exact r4 j (by rw [hmx]; omega) (by omega))
    refine ⟨.value (goInt (n2 : Nat)), _, w', ρ, ?_, .inl rfl, ?_, k2, k3⟩
    · have hmin : Nat.min n2 n1 = n2 := Nat.min_eq_left hle2
      have gg : (Builtin.firstCells 1 (min n2 n1) (Value.slice (some ad) n2 c2)).run P w = .ok nv.toArray w := by rw [show min n2 n1 = n2 from hmin]; exact hfc
      rw [run, hxv, hyv]
      simp [Builtin.copy_, h0, run_underlying hu, Builtin.lenOf, cSize_spec hs, hfc, k1, goInt, show min n2 n1 = n2 from hmin]
    · rw [← show (AI.s (pinL ty)).val ν = ((n2 : Nat) : Int) from hL]
      exact .i _ _

theorem sim_cpy (hF : F.Hold ν) (hh : HR ν ρ H w) (he : ER ν ρ e a.tmps) {x y : Operand} {x' y' : O} {ts : Array TypeId} {t t' : TypeId} {s : Nat} (ho : o.op = .call { callee := .builtin .copy, args := #[x, y], argTypes := ts })
    (h0 : ts[0]? = some t) (hu : P.underlying t = some (.slice t')) (hs : cSize P t' = some s) (hx : cO x = some x') (hy : cO y = some y') (h : opA F call e H (.cpy s x' y') = some (r, H')) : Eff ν ρ P H w a o r H' := by
  have hxs := cO_sim he hx
  have hys := cO_sim he hy
  have run : (execOp a.eval o).run P w = ((Builtin.copy_ ts o.type #[a.eval x, a.eval y]).run P w).andThen fun v w => .ok (.value v) w := by
    simp [execOp, ho, resolve, invoke, builtin]
  simp only [opA] at h
  split at h
  · rename_i n1 n2 e1 e2
    obtain ⟨b1, c1, hv1⟩ := lenA_sim e1 hxs
    obtain ⟨b2, c2, hv2⟩ := lenA_sim e2 hys
    have fin : ∀ (cs : List AV), firstA H s (min n2 n1) (y'.ev e) = some cs → ∃ vs : List Value, LR ν ρ cs vs.toArray ∧ (Builtin.copy_ ts o.type #[a.eval x, a.eval y]).run P w =
        ((storesAt b1 vs).run P w).andThen fun _ w => .ok (goInt (min n2 n1 : Nat)) w := by
      intro cs hcs
      obtain ⟨vs, g1, g2⟩ := firstA_run (P := P) hh hcs hys
      refine ⟨vs, g1, ?_⟩
      rw [hv2] at g2
      have gg : (Builtin.firstCells s (Nat.min n2 n1) (Value.slice b2 n2 c2)).run P w = .ok vs.toArray w := g2
      rw [hv1, hv2]
      cases b1 with
      | none => simp [Builtin.copy_, h0, run_underlying hu, Builtin.lenOf, cSize_spec hs, gg, storesAt]
      | some ad => simp [Builtin.copy_, h0, run_underlying hu, Builtin.lenOf, cSize_spec hs, gg, storesAt]
    split at h
    · rename_i cs blk off m cap hcs hd
      rw [hd] at hxs
      obtain ⟨vs, g1, g2⟩ := fin cs hcs
      rw [hv1] at hxs
      cases hxs
      rename_i pl hpl hnn hcap hle
      simp only [Option.map_eq_some_iff, Prod.mk.injEq] at h
      obtain ⟨H2, hwr, rfl, rfl⟩ := h
      obtain ⟨w', k1, k2, k3⟩ := AH.wr_sim (P := P) hh hpl hwr g1
      refine ⟨.value (goInt (min n2 n1 : Nat)), _, w', ρ, ?_, .inl rfl, .i _ (.c _), k2, k3⟩
      rw [run, g2]
      simp only [storesAt, k1, Result.andThen_ok]
    · rename_i cs hcs hd
      split at h
      · rename_i hemp
        simp only [Option.some.injEq, Prod.mk.injEq] at h
        obtain ⟨rfl, rfl⟩ := h
        obtain ⟨vs, g1, g2⟩ := fin cs hcs
        have hc0 : cs = [] := by simpa using hemp
        subst hc0
        have hv0 : vs = [] := List.eq_nil_of_length_eq_zero (by simpa using g1.1.symm)
        subst hv0
        refine ⟨.value (goInt (min n2 n1 : Nat)), _, w, ρ, ?_, .inl rfl, .i _ (.c _), hh, Stp.refl _ _ _⟩
        rw [run, g2]
        cases b1 <;> simp [storesAt, storeCells]
      · cases h
    · cases h
  · exact sim_cpyV hF hh ho h0 hu hs hxs hys h

/-- A window at the end of what there is. -/
theorem win_end {w' : World} {tr cb o tot m b n c : Nat} {C : Array Value} {ty : TypeId} {cs : List AV} {xv : List Value} {pre : List Value} (hA : ν (pinA tr) = (m : Int)) (hL : ν (pinL tr) = (m : Int)) (htr : mapTag < tr) (hpre : pre = (List.range m).map fun j => Value.int (pinK tr) (ν (pinB tr j))) (hw : w'.heap[cb]? = some (.cells C ty (0, 0))) (hsz : C.size = tot)
    (hC : ∀ j v, (pre ++ xv)[j]? = some v → C[o + j]? = some v) (hcs : LR ν ρ cs xv.toArray) (hb : ρ b = none) (hn : n = m + cs.length) (hnc : n ≤ c) (hoc : o + c ≤ tot) (hm : m < 1099511627776) (hcl : cs.length < 2147483648) :
    BR ν (ρ.at b ⟨cb, o + m, tot⟩) w' ⟨cs, tr + mapTag, true⟩ ⟨cb, o + m, tot⟩ ∧ VR ν (ρ.at b ⟨cb, o + m, tot⟩) (slE b tr cs.length) (.slice (some ⟨cb, o, none⟩) n c) := by
  have lpre : pre.length = m := by rw [hpre]; simp
  have hl : cs.length = xv.length := by simpa using hcs.1
  have e1 : tr + mapTag - mapTag = tr := Nat.add_sub_cancel _ _
  refine ⟨⟨fun _ => ⟨C, ty, (0, 0), hw, fun j c hj => ?_, fun _ => ⟨rfl, hsz⟩⟩, fun h => ?_, fun _ => ?_⟩, ?_⟩
  · have hj2 : j < xv.length := by rw [← hl]; exact (List.getElem?_eq_some_iff.1 hj).1
    refine ⟨xv[j], ?_, (hcs.2 j c _ hj (by simp [hj2])).mono (Emb.le_at hb)⟩
    have h9 := hC (m + j) xv[j] (by rw [List.getElem?_append_right (by omega)]; simp [lpre, hj2])
    show C[o + m + j]? = _
    rw [Nat.add_assoc]
    exact h9
  · exfalso
    have h : tr + mapTag = mapTag := h
    unfold mapTag at htr h
    omega
  · unfold PinB
    rw [if_neg (by show ¬ tr + mapTag ≤ winTag; unfold winTag; unfold mapTag at htr ⊢; omega)]
    show Windowed ν w' (tr + mapTag - mapTag) cs.length _
    rw [e1]
    refine ⟨C, ty, (0, 0), o, m, hw, hA, rfl, fun j hj _ => ?_⟩
    have hj : j < m := by omega
    exact hC j _ (by rw [List.getElem?_append_left (by omega), hpre]; simp [hj])
  · have hln := lenE_val (ν := ν) (k := .s (pinA tr)) (wd := cs.length) hA hm hcl
    refine .slw b 1 _ _ _ _ ⟨cb, o + m, tot⟩ o m n c (Emb.at_same hb) hA (by show o + m = o + m * 1; omega) (by omega) (by rw [hln, hn]) ?_ hnc (by omega)
    show o + 0 + c * 1 ≤ tot
    omega

theorem sameName_val (hF : F.Hold ν) {x : AI} {n : Nat} : ∀ {l : List (BinOp × AI × AI × Bool)}, (∀ p ∈ l, compare p.1 (p.2.1.val ν) (p.2.2.1.val ν) = p.2.2.2) → sameName l x = some n → x.val ν = ν n
  | [], _, h => by cases h
  | p :: r, hl, h => by
    have _ := hF
    have hr : sameName r x = some n → x.val ν = ν n := sameName_val hF fun q hq => hl q (List.mem_cons_of_mem _ hq)
    unfold sameName at h
    split at h
    · rename_i y m
      split at h
      · rename_i hb
        cases h
        have := AI.beq_eq _ _ hb
        subst this
        have h1 := hl _ List.mem_cons_self
        exact eq_of_beq h1
      · exact hr h
    · exact hr h
theorem nameOf_val (hF : F.Hold ν) {x : AI} {n : Nat} (h : nameOf F x = some n) : x.val ν = ν n := by
  unfold nameOf at h
  split at h
  · cases h
    rfl
  · exact sameName_val hF hF.cmp h
theorem sim_mslV (hF : F.Hold ν) (hh : HR ν ρ H w) (he : ER ν ρ e a.tmps) {t t' : TypeId} {l c : Operand} {l' c' : O} {zv : AV} {z : List AV} {i : TypeInfo}
    (ho : o.op = .makeSlice t l c) (hu : P.underlying t = some (.slice t')) (hl : cO l = some l') (hc : cO c = some c') (hz : cZero P t' = some zv) (hzc : zv.cells = some z) (hi : P.info? t' = some i) (hfr : Fresh ρ H H')
    (h : mslV F H t' i.size i.bytes z (l'.ev e) (c'.ev e) = some (r, H')) : Eff ν ρ P H w a o r H' := by
  obtain ⟨vz, h1, h2, i', hi', hiz⟩ := cZero_spec (w := w) (ν := ν) (ρ := ρ) hz
  rw [hi] at hi'
  cases hi'
  obtain ⟨hlz, _⟩ := cells_sim hzc h2
  have hls := cO_sim he hl
  have hcs := cO_sim he hc
  unfold mslV at h
  split at h
  case isFalse => cases h
  rename_i hsz
  simp only [Bool.and_eq_true, Nat.ble_eq] at hsz
  obtain ⟨⟨q1, q2⟩, q3⟩ := hsz
  have hs1 : i.size = 1 := Nat.eq_of_beq_eq_true q1
  have hz1 : z.length = 1 := Nat.eq_of_beq_eq_true q3
  have hvz : vz.cells.size = 1 := by rw [← hlz.1]; exact hz1
  split at h
  case h_2 => cases h
  rename_i kl lx kc cx e1 e2
  rw [e1] at hls
  rw [e2] at hcs
  generalize hlv : a.eval l = lv at hls
  generalize hcv : a.eval c = cv at hcs
  cases hls
  cases hcs
  have mk : ∀ (ln cn : Nat), lx.val ν = (ln : Int) → cx.val ν = (cn : Int) → ln ≤ cn → cn < 1099511627776 → (execOp a.eval o).run P w = .ok (.value (.slice (some ⟨w.heap.size, 0, none⟩) ln cn)) (w.alloc (.cells ((Array.range (cn * i.size)).map fun j => vz.cells[j % vz.cells.size]!) t')) := by
    intro ln cn e3 e4 g1 g2
    have hb : (i.bytes : Int) * (cn : Int) ≤ 281474976710656 := by
      have h8 : (i.bytes : Int) ≤ 8 := by omega
      exact Int.le_trans (Int.mul_le_mul_of_nonneg_right h8 (by omega)) (by omega)
    have hr := run_make (P := P) w t t' i vz hu hi hiz kl kc ln cn (by omega) (by omega) hb (by omega)
    simp only [execOp, ho, hlv, hcv, e3, e4, Sem.run_bind, hr, Result.andThen_ok]
    rfl
  have csz : ∀ cn : Nat, ((Array.range (cn * i.size)).map fun j => vz.cells[j % vz.cells.size]!).size = cn := fun cn => by simp [hs1]
  split at h
  · -- room alone
    split at h
    case isFalse => cases h
    rename_i hf
    simp only [Bool.and_eq_true] at hf
    have f1 := yesF_val hF hf.1
    have f2 := yesF_val hF hf.2
    have f1 : cx.val ν ≥ 0 := of_decide_eq_true f1
    have f2 : cx.val ν < 1099511627776 := of_decide_eq_true f2
    obtain ⟨cn, hcn⟩ := Int.eq_ofNat_of_zero_le f1
    simp only [Option.map_eq_some_iff, Prod.mk.injEq] at h
    obtain ⟨⟨b, H2⟩, hal, rfl, rfl⟩ := h
    have hfr : Fresh ρ H H2 := hfr
    obtain ⟨hmt, hal⟩ := newRowA_spec hal
    obtain ⟨a1, a2, _⟩ := AH.alloc_spec hal
    have hb : ρ b = none := hfr b (by omega) (by omega)
    obtain ⟨g1, g2⟩ := hh.fresh (e := t') hal hb hmt (C := (Array.range (cn * i.size)).map fun j => vz.cells[j % vz.cells.size]!) (fun j c hc => by simp at hc)
    refine ⟨.value (.slice (some ⟨w.heap.size, 0, none⟩) 0 cn), _, _, _, mk 0 cn rfl hcn (Nat.zero_le _) (by omega), .inl rfl, ?_, g1, g2⟩
    exact .sl b 0 _ _ ⟨w.heap.size, 0, _⟩ 0 cn (Emb.at_same hb) rfl (by rw [csz]; show 0 + 0 + cn * 1 ≤ cn; omega : 0 + 0 + cn * 1 ≤ ((Array.range (cn * i.size)).map fun j => vz.cells[j % vz.cells.size]!).size) (Nat.zero_le _)
  · -- noughts
    split at h
    case isFalse => cases h
    rename_i hbq
    have hxx := AI.beq_eq _ _ hbq
    subst hxx
    split at h
    case h_2 => cases h
    rename_i n k hnm _
    split at h
    case isFalse => cases h
    rename_i hc1
    simp only [Bool.and_eq_true, Nat.blt_eq] at hc1
    obtain ⟨⟨hn0, hnm1⟩, hge⟩ := hc1
    have hge : lx.val ν ≥ 0 := of_decide_eq_true (yesF_val hF hge)
    split at h
    case h_2 => cases h
    rename_i tr htr
    split at h
    case isFalse => cases h
    rename_i hc2
    simp only [Bool.and_eq_true, Nat.blt_eq, decide_eq_true_eq] at hc2
    obtain ⟨⟨hend, htm⟩, hk⟩ := hc2
    split at h
    case h_2 => cases h
    rename_i b H2 hal
    simp only [Option.some.injEq, Prod.mk.injEq] at h
    obtain ⟨rfl, rfl⟩ := h
    obtain ⟨r1, r2⟩ := endF_spec hF hend
    obtain ⟨s1, s2⟩ := hF.cat _ (findCat_mem htr)
    have s2 : lst ν tr = List.replicate (ν n).toNat 0 := by
      have := s2
      simp only [lst0_zero, List.map_nil, List.append_nil] at this
      rw [this]
      exact lst0_nought ν hn0 hnm1
    have hval := nameOf_val hF hnm
    obtain ⟨m, hm⟩ := Int.eq_ofNat_of_zero_le hge
    have hm : lx.val ν = (m : Int) := hm
    have hnn : (ν n).toNat = m := by rw [← hval, hm]; rfl
    rw [hnn] at s2
    obtain ⟨mr, hmr⟩ := Int.eq_ofNat_of_zero_le s1
    have hmr : ν (pinL tr) = (mr : Int) := hmr
    have hmm : mr = m := by
      have := lst_length hmr
      rw [s2] at this
      simpa using this.symm
    subst hmm
    obtain ⟨a1, a2, _⟩ := AH.alloc_spec hal
    have hb : ρ b = none := hfr b (by omega) (by omega)
    have hz0 : ∀ j, j < mr → ν (pinB tr j) = 0 := fun j hj => by
      have h9 := lst_get hmr j
      rw [s2, if_pos hj] at h9
      have : (List.replicate mr (0 : Int))[j]? = some 0 := by simp [hj]
      rw [this] at h9
      exact (Option.some.inj h9).symm
    have hc0 : vz.cells[0]! = .int k 0 := by
      have h0 : 0 < vz.cells.size := by omega
      have h9 := hlz.2 0 (.i k (.c (.ofNat 0))) vz.cells[0] rfl (by simp [h0])
      rw [getElem!_pos vz.cells 0 h0]
      generalize vz.cells[0] = u at h9
      cases h9
      rfl
    obtain ⟨u1, u2⟩ := win_end (n := mr) (c := mr) (cs := []) (xv := []) (o := 0) (pre := (List.range mr).map fun j => Value.int (pinK tr) (ν (pinB tr j))) (w' := w.alloc (.cells ((Array.range (mr * i.size)).map fun j => vz.cells[j % vz.cells.size]!) t')) (cb := w.heap.size) (b := b) (ρ := ρ) (C := (Array.range (mr * i.size)).map fun j => vz.cells[j % vz.cells.size]!) (ty := t') (r1.trans hmr) hmr htm rfl (by show (w.heap.push _)[w.heap.size]? = _; simp) (csz mr)
      (fun j v hj => by
        rw [List.append_nil] at hj
        have hj2 : j < mr := by have := (List.getElem?_eq_some_iff.1 hj).1; simpa using this
        simp [hj2] at hj
        rw [Nat.zero_add, ← hj, hz0 j hj2, hk]
        have e9 : j % vz.cells.size = 0 := by rw [hvz]; omega
        simp [hs1, hj2, e9, hc0]) ⟨rfl, by simp⟩ hb (by simp) (Nat.le_refl _) (by omega) (by omega) (by decide)
    obtain ⟨g1, g2⟩ := hh.freshAt hal hb u1
    exact ⟨.value (.slice (some ⟨w.heap.size, 0, none⟩) mr mr), _, _, _, mk mr mr hm hm (Nat.le_refl _) (by omega), .inl rfl, u2, g1, g2⟩

theorem sim_msl (hF : F.Hold ν) (hh : HR ν ρ H w) (he : ER ν ρ e a.tmps) {t t' : TypeId} {l c : Operand} {l' c' : O} {zv : AV} {z : List AV} {i : TypeInfo}
    (ho : o.op = .makeSlice t l c) (hu : P.underlying t = some (.slice t')) (hl : cO l = some l') (hc : cO c = some c') (hz : cZero P t' = some zv) (hzc : zv.cells = some z) (hi : P.info? t' = some i) (hfr : Fresh ρ H H')
    (h : opA F call e H (.msl t' i.size i.bytes z l' c') = some (r, H')) : Eff ν ρ P H w a o r H' := by
  obtain ⟨vz, h1, h2, i', hi', hiz⟩ := cZero_spec (w := w) (ν := ν) (ρ := ρ) hz
  rw [hi] at hi'
  cases hi'
  obtain ⟨hlz, _⟩ := cells_sim hzc h2
  simp only [opA] at h
  split at h
  · rename_i ln cn e1 e2
    obtain ⟨kl, hkl⟩ := asNat_sim e1 (cO_sim he hl)
    obtain ⟨kc, hkc⟩ := asNat_sim e2 (cO_sim he hc)
    split at h
    · rename_i hcc
      simp only [Bool.and_eq_true, Nat.ble_eq, Nat.blt_eq] at hcc
      obtain ⟨⟨⟨⟨⟨q1, q2⟩, q3⟩, q4⟩, q5⟩, q6⟩ := hcc
      have hzl : z.length = i.size := Nat.eq_of_beq_eq_true q4
      simp only [Option.map_eq_some_iff, Prod.mk.injEq] at h
      obtain ⟨⟨b, H2⟩, hal, rfl, rfl⟩ := h
      have hm := made_sim (ν := ν) (ρ := ρ) hlz (by omega) cn
      rw [hzl] at hm
      obtain ⟨k1, k2, k3, k4⟩ := newRow_eff (P := P) hh hal hfr hm
      unfold most at q2 q3
      have hb : (i.bytes : Int) * (cn : Int) ≤ 281474976710656 := by
        have : ((cn * i.bytes : Nat) : Int) ≤ 140737488355328 := by omega
        rw [Nat.mul_comm] at this
        rw [Int.natCast_mul] at this
        omega
      have hr := run_make (P := P) w t t' i vz hu hi hiz kl kc ln cn (by omega) (by omega) hb (by omega)
      refine ⟨.value (.slice (some ⟨w.heap.size, 0, none⟩) ln cn), _, _, _, ?_, .inl rfl, ?_, k2, k3⟩
      · simp only [execOp, ho, Sem.run_bind, hkl, hkc, hr, Result.andThen_ok]
        rfl
      · exact .sl b 0 _ _ ⟨w.heap.size, 0, ((Array.range (cn * i.size)).map fun j => vz.cells[j % vz.cells.size]!).size⟩ ln cn (Emb.at_same k4) rfl rfl q1
    · cases h
  · exact sim_mslV hF hh he ho hu hl hc hz hzc hi hfr h

theorem sim_appV (hF : F.Hold ν) (hh : HR ν ρ H w) (he : ER ν ρ e a.tmps) {x y : Operand} {x' y' : O} {ts : Array TypeId} {t t' : TypeId} {i : TypeInfo} {zv : AV} {zc : List AV} (ho : o.op = .call { callee := .builtin .append, args := #[x, y], argTypes := ts })
    (hu : P.underlying t = some (.slice t')) (hi : P.info? t' = some i) (hz : cZero P t' = some zv) (hzc : zv.cells = some zc) (hzl : zc.length = i.size) (hx : cO x = some x') (hy : cO y = some y') (hfr : Fresh ρ H H')
    (hts : ts = #[t, t]) (h : appV F H i.size i.bytes (x'.ev e) (y'.ev e) = some (r, H')) : Eff ν ρ P H w a o r H' := by
  have hxs := cO_sim he hx
  have hys := cO_sim he hy
  obtain ⟨vz, z1, z2, i', hi', hiz⟩ := cZero_spec (w := w) (ν := ν) (ρ := ρ) hz
  rw [hi] at hi'
  cases hi'
  obtain ⟨hlz, _⟩ := cells_sim hzc z2
  have hzs : vz.cells.size = i.size := by rw [← hlz.1]; exact hzl
  have run : ∀ v w', (Builtin.append_ #[t, t] o.type #[a.eval x, a.eval y]).run P w = .ok v w' → (execOp a.eval o).run P w = .ok (.value v) w' := by
    intro v w' hr
    subst hts
    simp [execOp, ho, resolve, invoke, builtin, hr]
  unfold appV at h
  split at h
  case isFalse => cases h
  rename_i hsz
  simp only [Bool.and_eq_true, Nat.ble_eq] at hsz
  have hs1 : i.size = 1 := Nat.eq_of_beq_eq_true hsz.1
  have hby := hsz.2
  have hzcz : ∀ m, (Builtin.zeroCells vz.cells m).size = m := fun m => by rw [size_zeroCells, hzs, hs1, Nat.mul_one]
  split at h
  case h_2 => cases h
  rename_i kb tx xs hparts
  obtain ⟨base, n1, c1, olds, hxv, hgr, hn1, m, xv, holds, hxl, hxn, ht0, ht1, htk⟩ := partsA_sim hF hh hparts hxs
  have lolds : olds.length = n1 := by
    rcases hgr with ⟨_, _, rfl, _, rfl⟩ | ⟨_, _, _, _, _, _, _, _, _, _, _, _, _, _, _, h, _⟩
    · rfl
    · exact h
  have lxv : xs.length = xv.length := by simpa using hxl.1
  -- the true append
  have true' : ∀ (ad : Addr) (n2 c2 : Nat) (nv : List Value), a.eval y = .slice (some ad) n2 c2 → nv.length = n2 → 0 < n2 → n1 + n2 < 4398046511104 → (∀ j v, nv[j]? = some v → w.cell? (ad.add j) = some v) →
      (∀ b, base = some b → n1 + n2 ≤ c1 → (Builtin.append_ #[t, t] o.type #[a.eval x, a.eval y]).run P w = ((storeCells (b.add n1) nv).run P w).andThen fun _ w' => .ok (.slice (some b) (n1 + n2) c1) w') ∧
      (base = none ∨ c1 < n1 + n2 → (Builtin.append_ #[t, t] o.type #[a.eval x, a.eval y]).run P w = .ok (.slice (some ⟨w.heap.size, 0, none⟩) (n1 + n2) (grownCap w (n1 + n2) c1 t')) (w.drew.alloc (.cells (olds.toArray ++ nv.toArray ++ Builtin.zeroCells vz.cells (grownCap w (n1 + n2) c1 t' - (n1 + n2))) t'))) := by
    intro ad n2 c2 nv hyv hl h0 hb hcell
    have g1 : nv.length = n2 * i.size := by rw [hs1, Nat.mul_one]; exact hl
    have hf : (Builtin.firstCells i.size n2 (.slice (some ad) n2 c2)).run P w = .ok nv.toArray w := run_firstCells_some (P := P) w i.size n2 ad n2 c2 nv g1 hcell
    have hmul : (n1 + n2) * i.bytes ≤ 140737488355328 := Nat.le_trans (Nat.mul_le_mul_left _ hby) (by omega)
    refine ⟨fun b hbs hroom => ?_, fun hr => ?_⟩
    · rw [hxv, hyv, hbs, run_append_in (P := P) (w := w) t o.type t' i hu hi (some b) n1 c1 (some ad) n2 c2 nv hf hroom]
      simp [storesAt, hs1]
    · rcases hgr with ⟨_, rfl, rfl, rfl, rfl⟩ | ⟨_, _, pl, C, ty, o', _, _, _, _, rfl, m1, m5, hcap, hle, _, hold⟩
      · rw [hxv, hyv, run_append_nil (P := P) w t o.type t' i vz hu hi hiz ad n2 c2 nv g1 hcell h0 (by omega) (Nat.le_trans (Nat.mul_le_mul_left _ hby) (by omega))]
        simp
      · have hr : c1 < n1 + n2 := hr.elim (fun h => by cases h) id
        rw [hxv, hyv]
        exact run_append_grow (P := P) w t o.type t' i vz hu hi hiz ⟨pl.cb, o', none⟩ n1 c1 olds (by rw [hs1, Nat.mul_one]; exact lolds) (fun j v hj => by
          rw [Addr.add_off]
          simp only [World.cell?, m1]
          simpa using hold j v hj) ad n2 c2 nv g1 hcell hr (by omega) (growslice_fits hr hmul)
  split at h
  · -- a row behind it
    rename_i ty hrow
    obtain ⟨ad, n2, c2, hyv, hL, h0, hlt, hty, hcell⟩ := rowOf_sim hF hh hrow hys
    split at h
    case h_2 => cases h
    rename_i is his
    split at h
    case h_2 => cases h
    rename_i tr htr
    split at h
    case isFalse => cases h
    rename_i hc
    simp only [Bool.and_eq_true, Nat.blt_eq, decide_eq_true_eq, Bool.or_eq_true] at hc
    obtain ⟨⟨⟨hend, htm⟩, hk1⟩, hk2⟩ := hc
    split at h
    case h_2 => cases h
    rename_i H1 hkill
    split at h
    case h_2 => cases h
    rename_i b H2 hal
    simp only [Option.some.injEq, Prod.mk.injEq] at h
    obtain ⟨rfl, rfl⟩ := h
    obtain ⟨r1, r2⟩ := endF_spec hF hend
    obtain ⟨s1, s2⟩ := hF.cat _ (findCat_mem htr)
    obtain ⟨mr, hmr⟩ := Int.eq_ofNat_of_zero_le s1
    have hmr : ν (pinL tr) = (mr : Int) := hmr
    -- the row's numbers
    let nv : List Value := (List.range n2).map fun j => Value.int (pinK ty) (ν (pinB ty j))
    have lnv : nv.length = n2 := by simp [nv]
    have hxi := intsA_val his hxl
    have hm : m = (lst0 ν tx).length := by
      by_cases h : tx = 0
      · rw [h, lst0_zero, ht0 h]; rfl
      · rw [lst0_row ν (ht1 h).1, lst_length (ht1 h).2.2.1]
    have hmlen : mr = n1 + n2 := by
      have e1 : (lst ν tr).length = mr := lst_length hmr
      have e2 := congrArg List.length s2
      have e3 : (lst0 ν ty).length = n2 := by rw [lst0_row ν hty, lst_length hL]
      simp only [List.length_append, List.length_map] at e2
      rw [e1, ← hm, e3] at e2
      have e4 : is.length = xv.length := by rw [hxi]; simp
      have e5 : olds.length = m + xv.length := by rw [holds]; simp
      omega
    obtain ⟨t1, t2⟩ := true' ad n2 c2 nv hyv lnv h0 (by omega) (fun j v hj => by
      have hj2 : j < n2 := by rw [← lnv]; exact (List.getElem?_eq_some_iff.1 hj).1
      simp [nv, hj2] at hj
      rw [hcell j hj2, hj])
    obtain ⟨cb, o', c, tot, C, ty', w', q1, q2, q3, q4, q5, q6, q7⟩ := grows_eff (P := P) hh hkill hgr lnv (fun v hv => by
      simp only [nv, List.mem_map] at hv
      obtain ⟨_, _, rfl⟩ := hv
      rfl) hzcz t1 t2
    have hbn : ρ b = none := by
      obtain ⟨a1, a2, _⟩ := AH.alloc_spec hal
      have kn : H1.next = H.next := by
        cases kb with
        | none => simp only [killA, Option.some.injEq] at hkill; rw [hkill]
        | some blk =>
          obtain ⟨_, _, _, hnext, _⟩ := AH.lay_spec (show H.lay blk none = some H1 from hkill)
          exact hnext
      exact hfr b (by omega) (by omega)
    have hpre : olds ++ nv = (List.range mr).map fun j => Value.int (pinK tr) (ν (pinB tr j)) := by
      have e0 : ∀ (t : Nat) (n : Nat) (kk : IntKind), ν (pinL t) = (n : Int) → (List.range n).map (fun j => Value.int kk (ν (pinB t j))) = (lst ν t).map (Value.int kk) := by
        intro t n kk h
        simp [lst, h]
      rw [e0 tr mr _ hmr, s2, List.map_append, List.map_append, holds]
      have e1 : nv = (lst0 ν ty).map (Value.int (pinK tr)) := by
        rw [lst0_row ν hty, hk1]
        exact e0 ty n2 _ hL
      have e2 : (List.range m).map (fun j => Value.int (pinK tx) (ν (pinB tx j))) = (lst0 ν tx).map (Value.int (pinK tr)) := by
        by_cases h : tx = 0
        · rw [h, lst0_zero, ht0 h]; rfl
        · rcases hk2 with h9 | h9
          · exact (h (Nat.eq_of_beq_eq_true h9)).elim
          · rw [lst0_row ν (ht1 h).1, hk1, ← h9]
            exact e0 tx m _ (ht1 h).2.2.1
      rw [e1, e2, hxi, hk1]
      simp [Function.comp_def]
    obtain ⟨u1, u2⟩ := win_end (n := n1 + n2) (c := c) (cs := []) (xv := []) (pre := olds ++ nv) (r1.trans hmr) hmr htm hpre q3 q4 (by simpa using q6) ⟨rfl, by simp⟩ hbn (by simp [hmlen]) q2 q5 (by omega) (by decide)
    obtain ⟨_, v2, v3⟩ := q7 [] (tr + mapTag) b H2 mr hal hfr u1
    exact ⟨_, _, w', _, run _ _ q1, .inl rfl, u2, v2, v3⟩
  · -- cells behind a row
    split at h
    case h_2 => cases h
    rename_i blk n2 hlen
    split at h
    case isTrue => cases h
    rename_i hc
    simp only [Bool.or_eq_true, not_or, Bool.not_eq_true', Bool.not_eq_true] at hc
    obtain ⟨⟨hc1, hc2⟩, hc3⟩ := hc
    have htx : tx ≠ 0 := fun h => by rw [h] at hc1; cases hc1
    have hn0 : n2 ≠ 0 := fun h => by rw [h] at hc2; cases hc2
    have hc3 : xs.length + n2 < 1073741824 := by
      have : Nat.blt (xs.length + n2) 1073741824 = true := by simpa using hc3
      simpa using this
    split at h
    case h_2 => cases h
    rename_i new hnew
    split at h
    case isFalse => cases h
    rename_i hall
    split at h
    case h_2 => cases h
    rename_i H1 hkill
    split at h
    case h_2 => cases h
    rename_i b H2 hal
    simp only [Option.some.injEq, Prod.mk.injEq] at h
    obtain ⟨rfl, rfl⟩ := h
    obtain ⟨hmt, hA, hL, hml⟩ := ht1 htx
    obtain ⟨nv, g1, g2, g3⟩ := firstA_sim hh hnew hys
    have g1 : nv.length = n2 := by simpa using g1
    obtain ⟨b2, c2, hv2⟩ := lenA_sim hlen hys
    rcases g3 with ⟨ad, mm, cc, hyv, g3⟩ | ⟨hq, _⟩
    case inr => omega
    rw [hv2] at hyv
    cases hyv
    obtain ⟨t1, t2⟩ := true' ad n2 c2 nv hv2 g1 (by omega) (by omega) g3
    have hone : ∀ v ∈ nv, v.oneCell' = true := LR.one g2 (fun c hc => List.all_eq_true.1 hall c hc)
    obtain ⟨cb, o', c, tot, C, ty', w', q1, q2, q3, q4, q5, q6, q7⟩ := grows_eff (P := P) hh hkill hgr g1 hone hzcz t1 t2
    have hbn : ρ b = none := by
      obtain ⟨a1, a2, _⟩ := AH.alloc_spec hal
      obtain ⟨_, _, _, hnext, _⟩ := AH.lay_spec (show H.lay blk none = some H1 from hkill)
      exact hfr b (by omega) (by omega)
    have hnl : new.length = n2 := by rw [← g1]; simpa using g2.1
    have hcs : LR ν ρ (xs ++ new) (xv ++ nv).toArray := by
      refine ⟨by simp [lxv, hnl, g1], fun j z v hz hv => ?_⟩
      by_cases hj : j < xs.length
      · rw [List.getElem?_append_left hj] at hz
        have hv' : (xv ++ nv)[j]? = some v := by simpa using hv
        rw [List.getElem?_append_left (by omega)] at hv'
        exact hxl.2 j z v hz (by simpa using hv')
      · rw [List.getElem?_append_right (by omega)] at hz
        have hv' : (xv ++ nv)[j]? = some v := by simpa using hv
        rw [List.getElem?_append_right (by omega)] at hv'
        exact g2.2 _ z v hz (by rw [lxv]; simpa using hv')
    have elen : (xs ++ new).length = xs.length + n2 := by simp [hnl]
    have en1 : n1 = m + xv.length := by rw [← lolds, holds]; simp
    obtain ⟨u1, u2⟩ := win_end (n := n1 + n2) (c := c) (cs := xs ++ new) (xv := xv ++ nv) hA hL hmt rfl q3 q4 (fun j v hj => q6 j v (by rw [holds, List.append_assoc]; exact hj)) hcs hbn (by rw [elen]; omega) q2 q5 hml (by omega)
    rw [elen] at u2
    obtain ⟨_, v2, v3⟩ := q7 (xs ++ new) (tx + mapTag) b H2 m hal hfr u1
    exact ⟨_, _, w', _, run _ _ q1, .inl rfl, u2, v2, v3⟩

theorem sim_app0 (hh : HR ν ρ H w) (he : ER ν ρ e a.tmps) {x y : Operand} {x' y' : O} {ts : Array TypeId} {t t' : TypeId} {i : TypeInfo} (ho : o.op = .call { callee := .builtin .append, args := #[x, y], argTypes := ts })
    (hu : P.underlying t = some (.slice t')) (hi : P.info? t' = some i) (hx : cO x = some x') (hy : cO y = some y')
    (hts : ts = #[t, t]) (h : app0 H (x'.ev e) (y'.ev e) = some (r, H')) : Eff ν ρ P H w a o r H' := by
  have hxs := cO_sim he hx
  have hys := cO_sim he hy
  have run : ∀ v w', (Builtin.append_ #[t, t] o.type #[a.eval x, a.eval y]).run P w = .ok v w' → (execOp a.eval o).run P w = .ok (.value v) w' := by
    intro v w' hr
    subst hts
    simp [execOp, ho, resolve, invoke, builtin, hr]
  unfold app0 at h
  split at h
  case h_2 => cases h
  rename_i n e2
  split at h
  case isFalse => cases h
  rename_i hn0
  have hn0 : n = 0 := Nat.eq_of_beq_eq_true hn0
  subst hn0
  obtain ⟨b2, c2, hv2⟩ := lenA_sim e2 hys
  have key : ∀ (b1 : Option Addr) (n1 c1 : Nat), n1 ≤ c1 → a.eval x = .slice b1 n1 c1 → (execOp a.eval o).run P w = .ok (.value (.slice b1 n1 c1)) w := by
    intro b1 n1 c1 hle hv1
    have hf : (Builtin.firstCells i.size 0 (.slice b2 0 c2)).run P w = .ok (([] : List Value).toArray) w := by
      cases b2 <;> simp [Builtin.firstCells, loadCells, loadCellsFrom]
    have hr := run_append_in (P := P) (w := w) t o.type t' i hu hi b1 n1 c1 b2 0 c2 [] hf (by omega)
    refine run _ _ ?_
    rw [hv1, hv2, hr]
    cases b1 <;> simp [storesAt, storeCells]
  split at h
  · rename_i hxe
    cases h
    rw [hxe] at hxs
    generalize hg : a.eval x = xv at hxs
    have hxs' := hxs
    cases hxs
    rename_i pl o' b' n1 c1 hl hb hpl hoo ha hw hn hc
    exact ⟨_, _, w, ρ, key _ _ _ (by assumption) hg, .inl rfl, hxs', hh, Stp.refl _ _ _⟩
  · rename_i hxe
    cases h
    rw [hxe] at hxs
    generalize hg : a.eval x = xv at hxs
    have hxs' := hxs
    cases hxs
    rename_i pl n1 c1 hl hpl hn hc
    exact ⟨_, _, w, ρ, key _ _ _ (by assumption) hg, .inl rfl, hxs', hh, Stp.refl _ _ _⟩
  · cases h

theorem sim_app (hF : F.Hold ν) (hh : HR ν ρ H w) (he : ER ν ρ e a.tmps) {x y : Operand} {x' y' : O} {ts : Array TypeId} {t t' : TypeId} {i : TypeInfo} {zv : AV} {zc : List AV} (ho : o.op = .call { callee := .builtin .append, args := #[x, y], argTypes := ts })
    (h0 : ts[0]? = some t) (h1 : ts[1]? = some t) (hu : P.underlying t = some (.slice t')) (hi : P.info? t' = some i) (hz : cZero P t' = some zv) (hzc : zv.cells = some zc) (hzl : zc.length = i.size) (hx : cO x = some x') (hy : cO y = some y') (hfr : Fresh ρ H H')
    (hts : ts = #[t, t]) (h : opA F call e H (.app t' i.size i.bytes [] x' y') = some (r, H')) : Eff ν ρ P H w a o r H' := by
  simp only [opA] at h
  split at h
  · rename_i q hq
    cases h
    exact sim_appA hh he ho h0 h1 hu hi hz hzc hzl hx hy hfr hts hq
  · cases hv : appV F H i.size i.bytes (x'.ev e) (y'.ev e) with
    | some q =>
      rw [hv] at h
      cases h
      exact sim_appV hF hh he ho hu hi hz hzc hzl hx hy hfr hts hv
    | none =>
      rw [hv] at h
      replace h : app0 H (x'.ev e) (y'.ev e) = some (r, H') := h
      exact sim_app0 hh he ho hu hi hx hy hts h

/-- Noughts behind a slice. -/
theorem sim_apz (hh : HR ν ρ H w) (he : ER ν ρ e a.tmps) {x y : Operand} {x' y' : O} {ts : Array TypeId} {t tn t' : TypeId} {kn : IntKind} {i : TypeInfo} {zv : AV} {zc : List AV} (ho : o.op = .call { callee := .builtin .append, args := #[x, y], argTypes := ts })
    (hu : P.underlying t = some (.slice t')) (hun : P.underlying tn = some (.int kn)) (hi : P.info? t' = some i) (hz : cZero P t' = some zv) (hzc : zv.cells = some zc) (hzl : zc.length = i.size) (hz0 : 0 < i.size) (hx : cO x = some x') (hy : cO y = some y') (hfr : Fresh ρ H H')
    (hts : ts = #[t, tn]) (h : opA F call e H (.app t' i.size i.bytes zc x' y') = some (r, H')) : Eff ν ρ P H w a o r H' := by
  have hxs := cO_sim he hx
  have hys := cO_sim he hy
  obtain ⟨vz, z1, z2, i', hi', hiz⟩ := cZero_spec (w := w) (ν := ν) (ρ := ρ) hz
  rw [hi] at hi'
  cases hi'
  obtain ⟨hlz, _⟩ := cells_sim hzc z2
  have hzs : vz.cells.size = i.size := by rw [← hlz.1]; exact hzl
  have run : ∀ v w', (Builtin.append_ #[t, tn] o.type #[a.eval x, a.eval y]).run P w = .ok v w' → (execOp a.eval o).run P w = .ok (.value v) w' := by
    intro v w' hr
    subst hts
    simp [execOp, ho, resolve, invoke, builtin, hr]
  obtain ⟨z0, zs, rfl⟩ : ∃ z0 zs, zc = z0 :: zs := by
    cases zc with
    | nil => simp at hzl; omega
    | cons z0 zs => exact ⟨z0, zs, rfl⟩
  replace h : appA H t' i.size i.bytes (z0 :: zs) (x'.ev e) (y'.ev e) = some (r, H') := by
    simp only [opA] at h
    split at h
    · rename_i q hq
      cases h
      exact hq
    · cases h
  unfold appA at h
  split at h
  · rename_i n1 n2 e1 e2
    replace e2 : asNat (y'.ev e) = some n2 := e2
    obtain ⟨b1, c1, hv1⟩ := lenA_sim e1 hxs
    obtain ⟨kq, hv2⟩ : ∃ kq, a.eval y = .int kq (n2 : Int) := by
      unfold asNat at e2
      split at e2
      · rename_i kq m hq
        simp only [Option.some.injEq] at e2
        subst e2
        rw [hq] at hys
        generalize a.eval y = yv at hys
        cases hys
        exact ⟨kq, rfl⟩
      · cases e2
    split at h
    · cases h
    · rename_i new hnew
      replace hnew : (if Nat.ble (n2 * i.bytes) most && Nat.ble n2 most then some (repA n2 (z0 :: zs)) else none) = some new := hnew
      split at hnew
      case isFalse => cases hnew
      rename_i hbd
      simp only [Bool.and_eq_true, Nat.ble_eq] at hbd
      have hbd1 : n2 * i.bytes ≤ 140737488355328 := hbd.1
      have hbd2 : n2 ≤ 140737488355328 := hbd.2
      simp only [Option.some.injEq] at hnew
      have g2 : LR ν ρ new (Builtin.zeroCells vz.cells n2).toList.toArray := by
        have := made_sim hlz (by simp) n2
        rw [hzl, hzs] at this
        rw [← hnew, Array.toArray_toList]
        show LR ν ρ _ (Builtin.zeroCells vz.cells n2)
        unfold Builtin.zeroCells
        rw [hzs]
        show LR ν ρ _ (Array.map (fun j => vz.cells[j % i.size]!) (Array.range (n2 * i.size)))
        exact this
      have g1 : (Builtin.zeroCells vz.cells n2).toList.length = n2 * i.size := by simp [Builtin.zeroCells, hzs]
      split at h
      · split at h
        · rename_i hn0 _
          have hn0 : n2 = 0 := Nat.eq_of_beq_eq_true hn0
          subst hn0
          simp only [Option.some.injEq, Prod.mk.injEq] at h
          obtain ⟨rfl, rfl⟩ := h
          have hle : n1 ≤ c1 := by
            rw [hv1] at hxs
            generalize x'.ev e = xa at hxs e1
            cases hxs <;> first
              | assumption
              | omega
              | (simp [lenA] at e1; done)
          refine ⟨.value (.slice b1 n1 c1), _, w, ρ, run _ _ ?_, .inl rfl, ?_, hh, Stp.refl _ _ _⟩
          · rw [hv1, hv2]
            have hw : IntKind.i64.wrap (0 : Int) = 0 := by decide
            have hle' : n1 + 0 ≤ c1 := hle
            cases b1 <;> simp [Builtin.append_, run_underlying hu, run_underlying hun, sizeOf, typeInfo, zeroValue, hi, hiz, Go.asInt, Go.asIntOf, hw, hle, storeCells]
          · rw [← hv1]; exact hxs
        · cases h
      · rename_i hn0
        have hn0' : 0 < n2 := by
          rcases Nat.eq_zero_or_pos n2 with hq | hq
          · subst hq; exact absurd rfl hn0
          · exact hq
        split at h
        · cases h
        · rename_i hall
          have hall' : ∀ c ∈ new, c.one = true := by
            intro c hc
            have : new.all AV.one = true := by simpa using hall
            exact List.all_eq_true.1 this c hc
          refine app_core (vz := vz) (yv := .int kq (n2 : Int)) (ts := #[t, tn]) hh hxs hv1 e1 hzs hfr g1 g2 hn0' hall' (by rw [← hv2]; exact run) (fun base sLen sCap hroom => run_append_in_zeros (P := P) (w := w) t tn o.type t' i vz kq kn hu hun hi hiz hz0 base sLen sCap n2 hn0' (by omega) (by omega) hroom)
            (fun q1 q2 => by simpa using Lib.run_append_nil_zeros (P := P) w t tn o.type t' i vz kq kn hu hun hi hiz n2 hn0' hz0 (by omega) (by omega))
            (fun b sLen sCap olds l1 l3 hg q2 q1 => by
              have hfo := run_firstCells_some (P := P) w.drew i.size sLen b sLen sCap olds l1 (by simpa using l3)
              simpa using Lib.run_append_grow_zeros (P := P) w t tn o.type t' i vz kq kn hu hun hi hiz (some b) sLen sCap olds hfo n2 hn0' hz0 hg (by omega) (by omega) (growslice_fits (by omega) q1)) h
  · cases h

end
end Go.Sh

namespace Go.Sh
open Go.MapKept

/-! Strings. -/

theorem bytes_list (ν : Nat → Int) (l : List AI) : (bytesOf ν l).data.toList = l.map (byteOf ν) := by simp [bytesOf]
theorem bytes_map {ν : Nat → Int} {a b : List AI} (h : bytesOf ν a = bytesOf ν b) : a.map (byteOf ν) = b.map (byteOf ν) := by rw [← bytes_list, ← bytes_list, h]
theorem byte_const {ν : Nat → Int} {m n : Nat} (hm : m < 256) (hn : n < 256) (h : byteOf ν (.c (.ofNat m)) = byteOf ν (.c (.ofNat n))) : m = n := by
  have h1 := congrArg UInt8.toNat h
  simp only [byteOf, AI.val, Int.ofNat_eq_natCast, Int.toNat_natCast, UInt8.toNat_ofNat'] at h1
  omega
/-- What the bytes' joint number says. -/
theorem jointS_zero {ν : Nat → Int} : ∀ (a b : List AI), a.map (byteOf ν) = b.map (byteOf ν) → (∀ x ∈ a, 0 ≤ x.val ν) → (∀ x ∈ b, 0 ≤ x.val ν) → (jointS a b).val ν = 0 := by
  intro a
  induction a with
  | nil => intro b h _ _; cases b <;> rfl
  | cons x r ih =>
    intro b h ha hb
    cases b with
    | nil => rfl
    | cons y s =>
      simp only [List.map_cons, List.cons.injEq] at h
      have h1 := congrArg UInt8.toNat h.1
      have hx := ha x (by simp)
      have hy := hb y (by simp)
      have hr := ih s h.2 (fun z hz => ha z (by simp [hz])) (fun z hz => hb z (by simp [hz]))
      have e : BitVec.ofInt 8 (x.val ν) = BitVec.ofInt 8 (y.val ν) := by
        simp only [byteOf, UInt8.toNat_ofNat'] at h1
        apply BitVec.eq_of_toNat_eq
        simp only [BitVec.toNat_ofInt]
        omega
      show arith .or .u8 (arith .xor .u8 (x.val ν) (y.val ν)) ((jointS r s).val ν) = 0
      rw [hr]
      have e2 : arith .xor .u8 (x.val ν) (y.val ν) = 0 := by
        show IntKind.u8.wrap ((BitVec.ofInt 8 (x.val ν) ^^^ BitVec.ofInt 8 (y.val ν)).toNat) = 0
        rw [e, BitVec.xor_self]
        rfl
      rw [e2]
      rfl

section
variable {ν : Nat → Int} {ρ : Emb} {F : Facts} {P : Program} {w : World} {H : AH} {a : Act} {o : Oper} {e : Tr AV} {r : AV} {H' : AH} {call : CallFn}

/-! Keys. -/

def KeyDesc (s : Bool) (d : TypeDesc) : Prop := if s then d = .string else ∃ k, d = .int k

theorem isByte_nn {ν : Nat → Int} {x : AI} (h : isByte x = true) : 0 ≤ x.val ν := by
  unfold isByte at h
  split at h
  · show 0 ≤ IntKind.u8.wrap _
    simp only [IntKind.wrap, IntKind.bits, IntKind.signed]
    simp
    omega
  · exact Int.natCast_nonneg _
  · cases h
theorem eqS_spec (hF : F.Hold ν) (a0 b0 : List AI) : ∀ (a b : List AI) (t0 t : Bool), (∃ p q, a0 = p ++ a ∧ b0 = q ++ b ∧ p.length = q.length ∧ (t0 = true → p.map (byteOf ν) = q.map (byteOf ν))) → eqS F a0 b0 a b t0 = some t → t = decide (a0.map (byteOf ν) = b0.map (byteOf ν))
  | [], [], t0, t, ⟨p, q, h1, h2, _, h4⟩, h => by
    simp only [List.append_nil] at h1 h2
    subst h1; subst h2
    simp only [eqS] at h
    split at h
    · rename_i ht
      simp only [Option.some.injEq] at h
      rw [← h]
      simp [h4 ht]
    · split at h
      · rename_i hb
        simp only [Bool.and_eq_true, List.all_eq_true] at hb
        split at h
        · rename_i hf
          simp only [Option.some.injEq] at h
          rw [← h]
          have hv := findCmp_val _ _ _ _ _ hF.cmp hf
          symm
          rw [decide_eq_false_iff_not]
          intro he
          have := jointS_zero a0 b0 he (fun x hx => isByte_nn (hb.1 x hx)) (fun x hx => isByte_nn (hb.2 x hx))
          rw [this] at hv
          simp [compare, AI.val] at hv
        · cases h
      · cases h
  | x :: r, y :: s, t0, t, ⟨p, q, h1, h2, h3, h4⟩, h => by
    have next : ∀ (t1 : Bool), (t1 = true → t0 = true ∧ byteOf ν x = byteOf ν y) → eqS F a0 b0 r s t1 = some t → t = decide (a0.map (byteOf ν) = b0.map (byteOf ν)) := fun t1 ht1 h' =>
      eqS_spec hF a0 b0 r s t1 t ⟨p ++ [x], q ++ [y], by simp [h1], by simp [h2], by simp [h3], fun e => by
        obtain ⟨e1, e2⟩ := ht1 e
        simp [h4 e1, e2]⟩ h'
    unfold eqS at h
    split at h
    · rename_i m n
      split at h
      · rename_i hmn
        have := Nat.eq_of_beq_eq_true hmn
        subst this
        exact next t0 (fun e => ⟨e, rfl⟩) h
      · rename_i hmn
        split at h
        · rename_i hlt
          simp only [Bool.and_eq_true, Nat.blt_eq] at hlt
          simp only [Option.some.injEq] at h
          rw [← h]
          symm
          rw [decide_eq_false_iff_not]
          intro he
          rw [h1, h2, List.map_append, List.map_append, List.map_cons, List.map_cons] at he
          have he2 := (List.append_inj he (by simp [h3])).2
          simp only [List.cons.injEq] at he2
          have := byte_const hlt.1 hlt.2 he2.1
          subst this
          exact hmn (Nat.beq_refl _)
        · cases h
    · refine next _ (fun e => ?_) h
      simp only [Bool.and_eq_true] at e
      exact ⟨e.1, by rw [AI.beq_eq _ _ e.2]⟩
  | [], y :: s, t0, t, ⟨p, q, h1, h2, h3, _⟩, h => by
    simp only [eqS, Option.some.injEq] at h
    rw [← h]
    symm
    rw [decide_eq_false_iff_not]
    intro he
    have := congrArg List.length he
    simp [h1, h2, h3] at this
  | x :: r, [], t0, t, ⟨p, q, h1, h2, h3, _⟩, h => by
    simp only [eqS, Option.some.injEq] at h
    rw [← h]
    symm
    rw [decide_eq_false_iff_not]
    intro he
    have := congrArg List.length he
    simp [h1, h2, h3] at this

theorem keyEq_sim (hF : F.Hold ν) {s : Bool} {x y : AV} {t : Bool} {vx vy : Value} {d : TypeDesc} (hd : KeyDesc s d) (h : keyEq F s x y = some t) (hx : VR ν ρ x vx) (hy : VR ν ρ y vy) :
    Instr.sameNow d vx vy = some t ∧ (t = true → vy = vx ∧ Instr.sameBits 10000 vx vx = true) := by
  unfold keyEq at h
  split at h
  · rename_i a b
    have ht := eqS_spec hF a b a b true t ⟨[], [], rfl, rfl, rfl, fun _ => rfl⟩ h
    cases hx
    cases hy
    have hd : d = .string := hd
    subst hd
    have key : (bytesOf ν a = bytesOf ν b) ↔ t = true := by
      rw [ht, decide_eq_true_iff]
      exact ⟨bytes_map, fun h => by unfold bytesOf; rw [h]⟩
    simp only [Instr.sameNow, Option.some.injEq]
    refine ⟨?_, fun h => ?_⟩
    · rw [Bool.eq_iff_iff, MapKept.bytes_beq]
      exact key
    · rw [key.2 h]
      exact ⟨rfl, by simp only [Instr.sameBits]; rw [MapKept.bytes_beq]⟩
  · split at h
    · rename_i hk
      simp only [Option.some.injEq] at h
      subst h
      subst hk
      cases hx
      cases hy
      obtain ⟨k0, rfl⟩ : ∃ k, d = .int k := hd
      refine ⟨by simp [Instr.sameNow, AI.val], fun h => ?_⟩
      simp only [beq_iff_eq] at h
      simp [AI.val, h, Instr.sameBits]
    · cases h
  · cases h

theorem findA_sim (hF : F.Hold ν) {s : Bool} {x : AV} {vx : Value} {d : TypeDesc} (hd : KeyDesc s d) (hx : VR ν ρ x vx) : ∀ (cs : List AV) (es : List MapEntry) (i : Nat) (q : Option (Nat × AV)), MapR ν ρ cs es → findA F s x cs i = some q →
    match q with
    | none => Instr.findNow d vx es i = some none
    | some (j, v) => ∃ v', Instr.findNow d vx es i = some (some (j, v')) ∧ VR ν ρ v v' ∧ ∃ n en, j = i + n ∧ es[n]? = some en ∧ en.key = vx ∧ Instr.sameBits 10000 vx vx = true
  | [], [], i, q, _, h => by
    simp only [findA, Option.some.injEq] at h
    subst h
    rfl
  | a :: v :: r, en :: t, i, q, hm, h => by
    obtain ⟨h1, h2, h3⟩ := hm
    simp only [findA] at h
    split at h
    · rename_i hk
      obtain ⟨g1, g2⟩ := keyEq_sim hF hd hk hx h1
      simp only [Option.some.injEq] at h
      subst h
      exact ⟨en.val, by simp [Instr.findNow, g1], h2, 0, en, rfl, rfl, (g2 rfl).1, (g2 rfl).2⟩
    · rename_i hk
      obtain ⟨g1, _⟩ := keyEq_sim hF hd hk hx h1
      have ih := findA_sim hF hd hx r t (i + 1) q h3 h
      cases q with
      | none => simpa [Instr.findNow, g1] using ih
      | some p =>
        obtain ⟨j, v0⟩ := p
        obtain ⟨v', k1, k2, n, e', k3, k4, k5⟩ := ih
        exact ⟨v', by simpa [Instr.findNow, g1] using k1, k2, n + 1, e', by omega, by simpa using k4, k5⟩
    · cases h
  | [], _ :: _, _, _, h, _ => h.elim
  | [_], [], _, _, h, _ => h.elim
  | [_], _ :: _, _, _, h, _ => h.elim
  | _ :: _ :: _, [], _, _, h, _ => h.elim

theorem run_ck {s : Bool} {d : TypeDesc} (hd : KeyDesc s d) {kt : TypeId} (hu : P.underlying kt = some d) (em : Bool) (n : Nat) (v : Value) : (Instr.checkKey em (n + 1) kt v).run P w = .ok () w := by
  unfold Instr.checkKey
  simp only [Sem.run_bind, run_underlying hu, Result.andThen]
  cases s
  · obtain ⟨k0, rfl⟩ : ∃ k, d = .int k := hd
    rfl
  · have hd : d = .string := hd
    subst hd
    rfl

theorem run_stays {v : Value} (h : Instr.sameBits 10000 v v = true) : (Instr.keyThatStays v v).run P w = .ok v w := by
  unfold Instr.keyThatStays
  rw [if_pos h]
  rfl

theorem MapR.push {cs : List AV} {es : List MapEntry} {k v : AV} {en : MapEntry} (h : MapR ν ρ cs es) (hk : VR ν ρ k en.key) (hv : VR ν ρ v en.val) : MapR ν ρ (cs ++ [k, v]) (es ++ [en]) := by
  match cs, es, h with
  | [], [], _ => exact ⟨hk, hv, trivial⟩
  | a :: b :: r, e :: t, h => exact ⟨h.1, h.2.1, MapR.push h.2.2 hk hv⟩
  | [], _ :: _, h => exact h.elim
  | [_], [], h => exact h.elim
  | [_], _ :: _, h => exact h.elim
  | _ :: _ :: _, [], h => exact h.elim

theorem MapR.set {cs : List AV} {es : List MapEntry} {v : AV} {vv kv : Value} {n : Nat} {en : MapEntry} (h : MapR ν ρ cs es) (hn : es[n]? = some en) (hk : en.key = kv) (hv : VR ν ρ v vv) :
    MapR ν ρ (cs.set (2 * n + 1) v) (es.modify n fun e => { e with key := kv, val := vv }) := by
  match cs, es, h, n with
  | a :: b :: r, e :: t, h, 0 =>
    simp only [List.getElem?_cons_zero, Option.some.injEq] at hn
    subst hn
    subst hk
    exact ⟨h.1, hv, h.2.2⟩
  | a :: b :: r, e :: t, h, n + 1 =>
    have := MapR.set h.2.2 (by simpa using hn) hk hv
    rw [show 2 * (n + 1) + 1 = (2 * n + 1) + 1 + 1 by omega]
    exact ⟨h.1, h.2.1, this⟩
  | [], [], _, _ => simp at hn
  | [], _ :: _, h, _ => exact h.elim
  | [_], [], h, _ => exact h.elim
  | [_], _ :: _, h, _ => exact h.elim
  | _ :: _ :: _, [], h, _ => exact h.elim

/-! The operations. -/

theorem sim_mkm (hh : HR ν ρ H w) {t : TypeId} (ho : o.op = .makeMap t none) (hfr : Fresh ρ H H') (h : opA F call e H .mkm = some (r, H')) : Eff ν ρ P H w a o r H' := by
  simp only [opA, Option.map_eq_some_iff, Prod.mk.injEq] at h
  obtain ⟨⟨b, H1⟩, hal, rfl, rfl⟩ := h
  obtain ⟨a1, a2, _⟩ := AH.alloc_spec hal
  have a3 : H1.next = H.next + 1 := a2
  have hb : ρ b = none := hfr b (by omega) (by show b < H1.next; omega)
  obtain ⟨h1, h2⟩ := HR.freshO (tot := 0) (ob := .map #[] 0) hh hal hb ⟨fun hq => (hq rfl).elim, fun _ => ⟨#[], 0, by show (w.heap.push _)[w.heap.size]? = _; simp, trivial⟩, fun hq => absurd hq (Nat.lt_irrefl _)⟩
  refine ⟨.value (.map (some w.heap.size)), _, _, _, ?_, .inl rfl, .mp b _ (Emb.at_same hb), h1, h2⟩
  simp [execOp, ho, Instr.makeMap]

theorem tup2 {p q : AV} {vp vq : Value} (hp : VR ν ρ p vp) (hq : VR ν ρ q vq) : VR ν ρ (.tp [p, q]) (.tuple #[vp, vq]) := by
  refine .tp _ _ rfl fun j y z hy hz => ?_
  match j with
  | 0 => simp at hy hz; subst hy; subst hz; exact hp
  | 1 => simp at hy hz; subst hy; subst hz; exact hq
  | j + 2 => simp at hy

theorem sim_lku (hF : F.Hold ν) (hh : HR ν ρ H w) (he : ER ν ρ e a.tmps) {x y : Operand} {x' y' : O} {t kt et : TypeId} {s ok : Bool} {z : AV} {d : TypeDesc} (ho : o.op = .lookup t x y ok) (hu : P.underlying t = some (.map kt et)) (hk : P.underlying kt = some d) (hd : KeyDesc s d)
    (hz : cZero P et = some z) (hx : cO x = some x') (hy : cO y = some y') (h : opA F call e H (.lku s z ok x' y') = some (r, H')) : Eff ν ρ P H w a o r H' := by
  have hxv := cO_sim he hx
  have hyv := cO_sim he hy
  obtain ⟨vz, z1, z2, _⟩ := cZero_spec (w := w) (ν := ν) (ρ := ρ) hz
  have pack : ∀ v vv, VR ν ρ v vv → (if ok then AV.tp [v, .b true] else v) = r → VR ν ρ r (if ok then .tuple #[vv, .bool true] else vv) := by
    intro v vv hv hr
    subst hr
    cases ok
    · exact hv
    · exact tup2 hv (.b _)
  have packz : (if ok then AV.tp [z, .b false] else z) = r → VR ν ρ r (if ok then .tuple #[vz, .bool false] else vz) := by
    intro hr
    subst hr
    cases ok
    · exact z2
    · exact tup2 z2 (.b _)
  simp only [opA] at h
  split at h
  · rename_i e1
    rw [e1] at hxv
    generalize hq : a.eval x = xv at hxv
    cases hxv
    simp only [Option.some.injEq, Prod.mk.injEq] at h
    obtain ⟨h, rfl⟩ := h
    have hf : Instr.findNow d (a.eval y) ([] : List MapEntry) 0 = some none := rfl
    refine ⟨.value (if ok then .tuple #[vz, .bool false] else vz), _, w, ρ, ?_, .inl rfl, packz h, hh, Stp.refl _ _ _⟩
    simp [execOp, ho, hq, Instr.lookup, run_underlying hu, run_ck hd hk, run_findKey hk hf, z1]
  · rename_i b e1
    rw [e1] at hxv
    generalize hq : a.eval x = xv at hxv
    cases hxv
    rename_i pl hpl
    split at h
    · rename_i bb hbb
      split at h
      · rename_i hmb
        obtain ⟨es, clock, m1, m2⟩ := (hh.find hbb hpl).map (Nat.eq_of_beq_eq_true hmb)
        split at h
        · rename_i j v hf
          obtain ⟨v', f1, f2, _⟩ := findA_sim hF hd hyv _ _ _ _ m2 hf
          simp only [Option.some.injEq, Prod.mk.injEq] at h
          obtain ⟨h, rfl⟩ := h
          refine ⟨.value (if ok then .tuple #[v', .bool true] else v'), _, w, ρ, ?_, .inl rfl, pack v v' f2 h, hh, Stp.refl _ _ _⟩
          simp [execOp, ho, hq, Instr.lookup, run_underlying hu, run_getObj_map m1, run_ck hd hk, run_findKey hk f1]
        · rename_i hf
          have f1 := findA_sim hF hd hyv _ _ _ _ m2 hf
          simp only [Option.some.injEq, Prod.mk.injEq] at h
          obtain ⟨h, rfl⟩ := h
          refine ⟨.value (if ok then .tuple #[vz, .bool false] else vz), _, w, ρ, ?_, .inl rfl, packz h, hh, Stp.refl _ _ _⟩
          simp [execOp, ho, hq, Instr.lookup, run_underlying hu, run_getObj_map m1, run_ck hd hk, run_findKey hk f1, z1]
        · cases h
      · cases h
    · cases h
  · cases h

/-- A map is laid anew. -/
theorem map_lay (hh : HR ν ρ H w) {b : Nat} {x : ABlk} {pl : Pl} {cs : List AV} {es es' : Array MapEntry} {c c' : Nat} (hx : H.get b = some x) (hp : ρ b = some pl) (hm : x.elem = mapTag) (hw : w.heap[pl.cb]? = some (.map es c))
    (h : H.lay b (some { x with cells := cs }) = some H') (hr : MapR ν ρ cs es'.toList) :
    HR ν ρ H' { w with heap := w.heap.setIfInBounds pl.cb (.map es' c') } ∧ Stp ρ H w ρ H' { w with heap := w.heap.setIfInBounds pl.cb (.map es' c') } := by
  obtain ⟨y, hy, ho, n1, n2, n3, n4⟩ := AH.lay_spec h
  rw [hx] at hy
  cases hy
  have hget := AH.lay_get h
  obtain ⟨s1, s2⟩ := heap_set (o' := .map es' c') hw
  have tr : ∀ j z, H'.get j = some z → ∃ z0, H.get j = some z0 ∧ (z.own = true → z0.own = true) := by
    intro j z hz
    rw [hget j] at hz
    split at hz
    · rename_i ej; subst ej; exact ⟨x, hx, fun _ => ho⟩
    · exact ⟨z, hz, id⟩
  refine ⟨⟨fun j z hz => ?_, fun j j' z z' q q' hne hz hz' hzo hq hq' => ?_⟩, ⟨Emb.le_refl _, fun _ p q => (q p).elim, by simp, rfl, rfl, rfl, fun cb _ hno => s2 cb (fun ecb => hno ⟨b, x, pl, hx, ho, hp, ecb.symm⟩), fun cb _ hoo => ?_, fun _ _ h k => by rw [h] at k; cases k⟩⟩
  · rw [hget j] at hz
    split at hz
    · rename_i ej
      subst ej
      cases hz
      exact ⟨pl, hp, ⟨fun hq => (hq hm).elim, fun _ => ⟨es', c', s1, hr⟩, fun hq => absurd hq (by show ¬ mapTag < _; rw [hm]; exact Nat.lt_irrefl _)⟩⟩
    · rename_i ej
      obtain ⟨q, h1, h2⟩ := hh.blk j z hz
      exact ⟨q, h1, h2.keep (Emb.le_refl _) (s2 q.cb (fun ecb => hh.apart b j x z pl q (fun hq => ej hq.symm) hx hz ho hp h1 ecb.symm))⟩
  · obtain ⟨y0, hy0, hyo⟩ := tr j z hz
    obtain ⟨y1, hy1, _⟩ := tr j' z' hz'
    exact hh.apart j j' y0 y1 q q' hne hy0 hy1 (hyo hzo) hq hq'
  · obtain ⟨j, z, q, h1, h2, h3, h4⟩ := hoo
    obtain ⟨z0, g1, g2⟩ := tr j z h1
    exact ⟨j, z0, q, g1, g2 h2, h3, h4⟩

theorem sim_mup (hF : F.Hold ν) (hh : HR ν ρ H w) (he : ER ν ρ e a.tmps) {x y v : Operand} {x' y' v' : O} {t kt et : TypeId} {s : Bool} {d : TypeDesc} (ho : o.op = .mapUpdate t x y v) (hu : P.underlying t = some (.map kt et)) (hk : P.underlying kt = some d) (hd : KeyDesc s d)
    (hx : cO x = some x') (hy : cO y = some y') (hv : cO v = some v') (h : opA F call e H (.mup s x' y' v') = some (r, H')) : Eff ν ρ P H w a o r H' := by
  have hxv := cO_sim he hx
  have hyv := cO_sim he hy
  have hvv := cO_sim he hv
  simp only [opA] at h
  split at h
  · rename_i b e1
    rw [e1] at hxv
    generalize hq : a.eval x = xv at hxv
    cases hxv
    rename_i pl hpl
    split at h
    · rename_i bb hbb
      split at h
      · rename_i hmb
        have hmb := Nat.eq_of_beq_eq_true hmb
        obtain ⟨es, clock, m1, m2⟩ := (hh.find hbb hpl).map hmb
        split at h
        · rename_i j u0 hf
          obtain ⟨u', f1, f2, n, en, rfl, f3, f4, f5⟩ := findA_sim hF hd hyv _ _ _ _ m2 hf
          simp only [Option.map_eq_some_iff, Prod.mk.injEq] at h
          obtain ⟨H1, hl, rfl, rfl⟩ := h
          simp only [Nat.zero_add] at hl f1
          have hes : es[n]? = some en := by simpa using f3
          have hr : MapR ν ρ (bb.cells.set (2 * n + 1) (v'.ev e)) (es.modify n fun e => { e with key := a.eval y, val := a.eval v }).toList := by
            rw [Array.toList_modify]
            exact MapR.set m2 f3 f4 hvv
          obtain ⟨g1, g2⟩ := map_lay (c' := clock) hh hbb hpl hmb m1 hl hr
          refine ⟨.skip, undef, _, ρ, ?_, .inr ⟨rfl, rfl⟩, .u _, g1, g2⟩
          simp [execOp, ho, hq, Instr.mapUpdate, run_underlying hu, run_getObj_map m1, run_ck hd hk, run_findKey hk f1, hes, f4, run_stays f5, run_setObj_map _ m1]
        · rename_i hf
          have f1 := findA_sim hF hd hyv _ _ _ _ m2 hf
          simp only [Option.map_eq_some_iff, Prod.mk.injEq] at h
          obtain ⟨H1, hl, rfl, rfl⟩ := h
          have hr : MapR ν ρ (bb.cells ++ [y'.ev e, v'.ev e]) (es.push { key := a.eval y, val := a.eval v, born := clock }).toList := by
            rw [Array.toList_push]
            exact MapR.push m2 hyv hvv
          obtain ⟨g1, g2⟩ := map_lay (c' := clock + 1) hh hbb hpl hmb m1 hl hr
          refine ⟨.skip, undef, _, ρ, ?_, .inr ⟨rfl, rfl⟩, .u _, g1, g2⟩
          simp [execOp, ho, hq, Instr.mapUpdate, run_underlying hu, run_getObj_map m1, run_ck hd hk, run_findKey hk f1, run_setObj_map _ m1]
        · cases h
      · cases h
    · cases h
  · cases h

theorem bytesA_sim : ∀ {cs : List AV} {l : List AI} {vs : List Value}, bytesA cs = some l → LR ν ρ cs vs.toArray → vs = l.map fun n : AI => Value.int .u8 (n.val ν) := by
  intro cs
  induction cs with
  | nil =>
    intro l vs h hl
    simp only [bytesA, Option.some.injEq] at h
    subst h
    exact List.eq_nil_of_length_eq_zero (by simpa using hl.1.symm)
  | cons c r ih =>
    intro l vs h hl
    unfold bytesA at h
    split at h
    · cases ‹_ :: _ = []›
    · rename_i n r' heq
      cases heq
      simp only [Option.map_eq_some_iff] at h
      obtain ⟨l', h1, rfl⟩ := h
      cases vs with
      | nil => have := hl.1; simp at this
      | cons u0 us =>
        have hu := hl.2 0 _ u0 rfl rfl
        cases hu
        have g1 := ih h1 ⟨by simpa using hl.1, fun j x v hx hv => hl.2 (j + 1) x v (by simpa using hx) (by simpa using hv)⟩
        rw [g1]
        rfl
    · cases h

theorem foldl_bytes (ν : Nat → Int) : ∀ (l : List AI) (b : ByteArray), ((l.map fun n : AI => n.val ν).foldl (fun r n => r.push (UInt8.ofNat n.toNat)) b).data.toList = b.data.toList ++ l.map (byteOf ν) := by
  intro l
  induction l with
  | nil => intro b; simp
  | cons n r ih =>
    intro b
    simp only [List.map_cons, List.foldl_cons]
    rw [ih]
    simp [ByteArray.push, byteOf]

/-- A slice of bytes made to its own type: its block is no more written. -/
theorem sim_frz (hh : HR ν ρ H w) (he : ER ν ρ e a.tmps) {x : Operand} {x' : O} {s e' : TypeId} (ho : o.op = .convert s s x) (hs : P.underlying s = some (.slice e')) (hu : P.underlying e' = some (.int .u8))
    (hx : cO x = some x') (h : opA F call e H (.frz x') = some (r, H')) : Eff ν ρ P H w a o r H' := by
  have hxv := cO_sim he hx
  simp only [opA] at h
  split at h
  case h_2 => cases h
  rename_i b off n c hxe
  rw [hxe] at hxv
  split at h
  case h_2 => cases h
  rename_i y hy
  split at h
  case isFalse => cases h
  rename_i hc
  simp only [Bool.and_eq_true, Nat.blt_eq] at hc
  simp only [Option.map_eq_some_iff, Prod.mk.injEq] at h
  obtain ⟨H2, hlay, rfl, rfl⟩ := h
  generalize hav : a.eval x = xv at hxv
  cases hxv
  rename_i pl nn cc hle hpl hnn hcap
  obtain ⟨C, ty, fz, m1, m2, m3⟩ := (hh.find hy hpl).cells (Nat.ne_of_lt hc.2)
  obtain ⟨rfl, m5⟩ := m3 hc.1
  have hget := AH.lay_get hlay
  have hw : ∀ k, (w.freeze ⟨pl.cb, C.size, none⟩ 1).heap[k]? = if k = pl.cb then some (.cells C ty (C.size, C.size + 1)) else w.heap[k]? := by
    intro k
    unfold World.freeze
    rw [if_neg (by decide)]
    show (w.heap.modify pl.cb _)[k]? = _
    rw [Array.getElem?_modify]
    by_cases hk : pl.cb = k
    · subst hk
      rw [if_pos rfl, if_pos rfl, m1]
      rfl
    · rw [if_neg hk, if_neg (Ne.symm hk)]
  have hsz : (w.freeze ⟨pl.cb, C.size, none⟩ 1).heap.size = w.heap.size := by
    unfold World.freeze
    rw [if_neg (by decide)]
    exact Array.size_modify
  have hrun : (convert s s (.slice (some ⟨pl.cb, pl.co + off, none⟩) nn cc)).run P w = .ok (.slice (some ⟨pl.cb, pl.co + off, none⟩) nn cc) (w.freeze ⟨pl.cb, C.size, none⟩ 1) := by
    have hsh : w.shape? pl.cb = some (ty, C.size) := by
      unfold World.shape?
      rw [m1]
    simp [convert, run_underlying hs, run_underlying hu, markStringish, hsh]
  have hown : Owned ρ H pl.cb := ⟨b, y, pl, hy, hc.1, hpl, rfl⟩
  have fnd : ∀ j z, H2.get j = some z → ∃ z0, H.get j = some z0 ∧ (z.own = true → z0.own = true) := by
    intro j z hz
    rw [hget j] at hz
    split at hz
    · rename_i e9
      cases hz
      exact ⟨y, by rw [e9]; exact hy, fun h => by cases h⟩
    · exact ⟨z, hz, id⟩
  refine ⟨.value (.slice (some ⟨pl.cb, pl.co + off, none⟩) nn cc), _, w.freeze ⟨pl.cb, C.size, none⟩ 1, ρ, ?_, .inl rfl, .sl b off n c pl nn cc hpl hnn hcap hle, ⟨fun j z hz => ?_, fun j j' z z' q q' hne hz hz' hzo hq hq' => ?_⟩, ⟨Emb.le_refl _, fun _ p q => (q p).elim, by rw [hsz]; exact Nat.le_refl _, rfl, rfl, rfl, fun cb _ hno => ?_, fun cb _ ho => ?_, fun _ _ h k => by rw [h] at k; cases k⟩⟩
  · simp [execOp, ho, hav, hrun]
  · rw [hget j] at hz
    split at hz
    · rename_i e9
      subst e9
      cases hz
      refine ⟨pl, hpl, ⟨fun _ => ⟨C, ty, _, (hw pl.cb).trans (if_pos rfl), m2, fun h => by cases h⟩, fun h => absurd h (Nat.ne_of_lt hc.2), fun h => absurd h (Nat.not_lt_of_lt hc.2)⟩⟩
    · rename_i e9
      obtain ⟨q, h1, h2⟩ := hh.blk j z hz
      exact ⟨q, h1, h2.keep (Emb.le_refl _) ((hw q.cb).trans (if_neg fun ecb => hh.apart b j y z pl q (fun hq => e9 hq.symm) hy hz hc.1 hpl h1 ecb.symm))⟩
  · obtain ⟨y0, hy0, hyo⟩ := fnd j z hz
    obtain ⟨y1, hy1, _⟩ := fnd j' z' hz'
    exact hh.apart j j' y0 y1 q q' hne hy0 hy1 (hyo hzo) hq hq'
  · rename_i cb _
    exact (hw cb).trans (if_neg fun (ecb : cb = pl.cb) => hno (by rw [ecb]; exact hown))
  · obtain ⟨j, z, q, h1, h2, h3, h4⟩ := ho
    obtain ⟨y0, hy0, hyo⟩ := fnd j z h1
    exact ⟨j, y0, q, hy0, hyo h2, h3, h4⟩

theorem sim_bts (hh : HR ν ρ H w) (he : ER ν ρ e a.tmps) {x : Operand} {x' : O} {s t e' : TypeId} (ho : o.op = .convert s t x) (hs : P.underlying s = some (.slice e')) (ht : P.underlying t = some .string) (hu : P.underlying e' = some (.int .u8))
    (hx : cO x = some x') (h : opA F call e H (.bts x') = some (r, H')) : Eff ν ρ P H w a o r H' := by
  have hxv := cO_sim he hx
  simp only [opA] at h
  split at h
  · rename_i n e1
    obtain ⟨base, c, hv⟩ := lenA_sim e1 hxv
    split at h
    · rename_i cs hcs
      obtain ⟨vs, g1, g2, g3⟩ := firstA_sim hh hcs hxv
      simp only [Option.map_eq_some_iff, Prod.mk.injEq] at h
      obtain ⟨l, hl, rfl, rfl⟩ := h
      have k1 := bytesA_sim hl g2
      have hex : ∀ v, (convert s t (a.eval x)).run P w = .ok v w → (execOp a.eval o).run P w = .ok (.value v) w := by
        intro v hr
        simp [execOp, ho, hr]
      have hcv : (convert s t (a.eval x)).run P w = (Conv.bytesToString (a.eval x)).run P w := by
        rw [hv]
        cases base <;> simp [convert, run_underlying hs, run_underlying ht, run_underlying hu]
      refine ⟨.value (.string (bytesOf ν l)), _, w, ρ, hex _ ?_, .inl rfl, .bs l, hh, Stp.refl _ _ _⟩
      rw [hcv]
      rcases g3 with ⟨ad, m, c2, q1, q2⟩ | ⟨hn0, base2, m, c2, q1⟩
      · have hm : m = n := by rw [q1] at hv; cases hv; rfl
        subst hm
        have hld := run_loadCells_list (P := P) (w := w) ad vs q2
        have hlen : vs.length = m := by simpa using g1
        rw [hlen, k1] at hld
        have := run_bytesToString (P := P) w ad m c2 (l.map fun n : AI => n.val ν) (by rw [hld]; simp [Function.comp_def])
        rw [q1, this]
        congr 2
        apply ByteArray.ext
        apply Array.ext'
        rw [foldl_bytes, bytes_list]
        simp
      · subst hn0
        have hl0 : l = [] := by
          have : vs = [] := List.eq_nil_of_length_eq_zero (by simpa using g1)
          rw [this] at k1
          cases l with
          | nil => rfl
          | cons _ _ => simp at k1
        subst hl0
        rw [hv]
        cases base with
        | none => rfl
        | some ad =>
          have hld := run_loadCells_list (P := P) (w := w) ad [] (by simp)
          have := run_bytesToString (P := P) w ad 0 c [] (by simpa using hld)
          rw [this]
          rfl
    · cases h
  · cases h

end
end Go.Sh
