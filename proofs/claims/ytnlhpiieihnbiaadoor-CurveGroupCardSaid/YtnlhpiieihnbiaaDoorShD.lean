/-
  THE SHADOW MACHINE: each operation without a heap says what the real one does. Own work.
-/
import Derived.Test.YtnlhpiieihnbiaaDoorShC
namespace Go.Sh

section
variable {ν : Nat → Int} {ρ : Emb} {F : Facts} {P : Program} {w : World}

theorem asNat_sim {x : AV} {n : Nat} {v : Value} (h : asNat x = some n) (hv : VR ν ρ x v) : ∃ k, v = .int k n := by
  unfold asNat at h
  split at h
  · rename_i k m
    simp only [Option.some.injEq] at h
    subst h
    cases hv
    exact ⟨k, rfl⟩
  · cases h

theorem cAgg_spec {t : TypeId} {n : Option Nat} (h : cAgg P t = some n) : ∃ i, P.info? t = some i ∧
    ((isAgg t).run P w = .ok n.isSome w) ∧ (∀ m, n = some m → i.size = m) := by
  unfold cAgg at h
  split at h
  · rename_i fs i h1 h2
    simp only [Option.some.injEq] at h
    subst h
    exact ⟨i, h2, by simp [isAgg, run_underlying h1], fun m hm => by simpa using hm⟩
  · rename_i fs i h1 h2
    simp only [Option.some.injEq] at h
    subst h
    exact ⟨i, h2, by simp [isAgg, run_underlying h1], fun m hm => by simpa using hm⟩
  · rename_i d i h1 h2 h3 h4
    simp only [Option.some.injEq] at h
    subst h
    refine ⟨i, h4, ?_, fun m hm => by cases hm⟩
    simp only [isAgg, Sem.run_bind, run_underlying h3, Result.andThen_ok]
    cases d <;> first
      | rfl
      | exact (h1 _ _ h3 h4).elim
      | exact (h2 _ _ _ h3 h4).elim
  · cases h

theorem cSize_spec {t : TypeId} {n : Nat} (h : cSize P t = some n) : (sizeOf t).run P w = .ok n w := by
  simp only [cSize, Option.map_eq_some_iff] at h
  obtain ⟨i, hi, rfl⟩ := h
  simp [sizeOf, typeInfo, hi]

theorem cZero_spec {t : TypeId} {z : AV} (h : cZero P t = some z) : ∃ v, (zeroValue t).run P w = .ok v w ∧ VR ν ρ z v ∧ (∃ i, P.info? t = some i ∧ i.zero = some v) := by
  unfold cZero at h
  split at h
  · rename_i i hi
    split at h
    · rename_i v hv
      exact ⟨v, by simp [zeroValue, typeInfo, hi, hv], cAV_sim ν ρ _ _ _ h, i, hi, hv⟩
    · cases h
  · cases h

/-- A part of what lies in a row of cells. -/
theorem part_sim {t : TypeId} {n : Option Nat} {cs : List AV} {vs : Array Value} {off : Nat} {r : AV} (hc : cAgg P t = some n) (hl : LR ν ρ cs vs) (h : AV.part n cs off = some r) :
    ∃ v, (part t vs off).run P w = .ok v w ∧ VR ν ρ r v := by
  obtain ⟨i, hi, ha, hn⟩ := cAgg_spec (w := w) hc
  unfold AV.part at h
  cases n with
  | none =>
    simp only at h
    have hlt : off < cs.length := (List.getElem?_eq_some_iff.1 h).1
    have hv : vs[off]? = some vs[off]! := by
      rw [Array.getElem?_eq_getElem (by rw [← hl.1]; exact hlt)]
      simp [getElem!_pos, (by rw [← hl.1]; exact hlt : off < vs.size)]
    refine ⟨vs[off]!, ?_, hl.2 off r _ h hv⟩
    simp [part, ha, hv]
  | some m =>
    simp only at h
    split at h
    · rename_i hb
      simp only [Option.some.injEq] at h
      subst h
      simp only [Nat.ble_eq] at hb
      have hm := hn m rfl
      refine ⟨.agg (vs.extract off (off + m)), ?_, .ag _ _ ?_ ?_⟩
      · simp [part, ha, sizeOf, typeInfo, hi, hm]
      · have := hl.1
        simp
        omega
      · intro j x v hx hv
        simp only [List.getElem?_take, List.getElem?_drop] at hx
        split at hx
        · rename_i hj
          refine hl.2 (off + j) x v hx ?_
          rw [Array.getElem?_extract] at hv
          split at hv
          · exact hv
          · cases hv
        · cases hx
    · cases h

end

section
variable {ν : Nat → Int} {ρ : Emb} {F : Facts} {P : Program} {w : World} {o : Oper} {k : K} {e : Tr AV} {a : Act} {r : AV}

/-- What such an operation is to be. -/
def Val (ν : Nat → Int) (ρ : Emb) (P : Program) (w : World) (a : Act) (o : Oper) (r : AV) : Prop := ∃ v, (execOp a.eval o).run P w = .ok (.value v) w ∧ VR ν ρ r v

theorem Val.of {s : Sem Value} (h : execOp a.eval o = (do pure (.value (← s)) : Sem Next)) (hs : ∃ v, s.run P w = .ok v w ∧ VR ν ρ r v) : Val ν ρ P w a o r := by
  obtain ⟨v, h1, h2⟩ := hs
  exact ⟨v, by rw [h]; simp [h1], h2⟩

theorem run_bound (kk : IntKind) (i y : Nat) (code : BoundsCode) (h : i ≤ y) : (Instr.sliceBound (.int kk (i : Int)) y code).run P w = .ok i w := by
  have h1 : (i : Int) ≤ y := by omega
  have h2 : (0 : Int) ≤ i := by omega
  simp only [Instr.sliceBound, asIntOf, Sem.run_bind, Sem.run_pure, Result.andThen_ok]
  rw [if_pos ⟨h2, h1⟩]
  rfl

theorem sim_bounds {n cap sure : Nat} {tc : Option Nat} {lo hi mx : Option Operand} {lo' hi' mx' : Option O} {l h m : Option Nat} {isSlice : Bool} {r : Nat × Nat × Option Nat}
    (he : ER ν ρ e a.tmps) (h1 : cOpt lo = some lo') (h2 : cOpt hi = some hi') (h3 : cOpt mx = some mx') (e1 : optNat e lo' = some l) (e2 : optNat e hi' = some h) (e3 : optNat e mx' = some m)
    (hsure : sure ≤ cap) (htc : ∀ x, tc = some x → x = cap) (hb : bounds n sure tc l h m = some r) :
    ∃ mm, (Instr.sliceBounds isSlice n cap (lo.map a.eval) (hi.map a.eval) (mx.map a.eval)).run P w = .ok (r.1, r.2.1, mm) w ∧ (∀ x, r.2.2 = some x → x = mm) ∧ r.1 ≤ r.2.1 ∧ r.2.1 ≤ sure ∧ r.2.1 ≤ mm ∧ mm ≤ cap ∧
      (r.2.2 = none → mm = cap) := by
  have key : ∀ (y : Option Operand) (y' : Option O) (z : Option Nat), cOpt y = some y' → optNat e y' = some z → (y = none ∧ z = none) ∨ ∃ yo q kk, y = some yo ∧ z = some q ∧ a.eval yo = .int kk (q : Int) := by
    intro y y' z hy hz
    cases y with
    | none =>
      simp only [cOpt, Option.some.injEq] at hy
      subst hy
      simp [optNat] at hz
      exact .inl ⟨rfl, hz.symm⟩
    | some yo =>
      simp only [cOpt, Option.map_eq_some_iff] at hy
      obtain ⟨yo', hyo, rfl⟩ := hy
      simp only [optNat] at hz
      split at hz
      · rename_i q hq
        simp at hz
        obtain ⟨kk, hk⟩ := asNat_sim hq (cO_sim he hyo)
        exact .inr ⟨yo, q, kk, rfl, hz.symm, hk⟩
      · cases hz
  unfold bounds at hb
  rcases key mx mx' m h3 e3 with ⟨rfl, rfl⟩ | ⟨mo, mq, mk, rfl, rfl, hm⟩
  · simp only at hb
    split at hb
    · rename_i hc
      simp only [Bool.and_eq_true, Nat.ble_eq] at hc
      simp only [Option.some.injEq] at hb
      subst hb
      refine ⟨cap, ?_, htc, hc.2, hc.1, Nat.le_trans hc.1 hsure, Nat.le_refl _, fun _ => rfl⟩
      rcases key hi hi' h h2 e2 with ⟨rfl, rfl⟩ | ⟨ho, hq, hk, rfl, rfl, hh⟩
      · rcases key lo lo' l h1 e1 with ⟨rfl, rfl⟩ | ⟨lo, lq, lk, rfl, rfl, hl⟩
        · simp [Instr.sliceBounds]
        · have : lq ≤ n := by have := hc.2; simp at this; omega
          simp [Instr.sliceBounds, hl, run_bound, this]
      · have h5 : hq ≤ cap := by have := hc.1; simp at this; omega
        rcases key lo lo' l h1 e1 with ⟨rfl, rfl⟩ | ⟨lo, lq, lk, rfl, rfl, hl⟩
        · simp [Instr.sliceBounds, run_bound, hh, h5]
        · have : lq ≤ hq := by have := hc.2; simp at this; omega
          simp [Instr.sliceBounds, run_bound, hl, hh, this, h5]
    · cases hb
  · simp only at hb
    rcases key hi hi' h h2 e2 with ⟨rfl, rfl⟩ | ⟨ho, hq, hk, rfl, rfl, hh⟩
    · cases hb
    · simp only at hb
      split at hb
      · rename_i hc
        simp only [Bool.and_eq_true, Nat.ble_eq] at hc
        simp only [Option.some.injEq] at hb
        subst hb
        refine ⟨mq, ?_, fun x hx => by simpa using hx.symm, hc.2, Nat.le_trans hc.1.2 hc.1.1, hc.1.2, Nat.le_trans hc.1.1 hsure, fun hx => by cases hx⟩
        have h6 : mq ≤ cap := by have := hc.1.1; omega
        have h7 : hq ≤ mq := by have := hc.1.2; omega
        rcases key lo lo' l h1 e1 with ⟨rfl, rfl⟩ | ⟨lo, lq, lk, rfl, rfl, hl⟩
        · simp [Instr.sliceBounds, run_bound, hm, hh, h6, h7]
        · have : lq ≤ hq := by have := hc.2; simp at this; omega
          simp [Instr.sliceBounds, run_bound, hm, hl, hh, this, h6, h7]
      · cases hb

theorem Addr.add_off (cb o n : Nat) : (⟨cb, o, none⟩ : Addr).add n = ⟨cb, o + n, none⟩ := by
  unfold Addr.add
  split
  · rename_i h; subst h; rfl
  · rfl

theorem sim_slc (he : ER ν ρ e a.tmps) {t t' : TypeId} {x : Operand} {x' : O} {size : Nat} {lo hi mx : Option Operand} {lo' hi' mx' : Option O}
    (ho : o.op = .slice t x lo hi mx) (ht : P.underlying t = some (.slice t')) (hs : cSize P t' = some size) (hx : cO x = some x') (h1 : cOpt lo = some lo') (h2 : cOpt hi = some hi') (h3 : cOpt mx = some mx')
    (h : pureA F e (.slc size x' lo' hi' mx') = some r) : Val ν ρ P w a o r := by
  refine Val.of (s := Instr.sliceAt t (a.eval x) (lo.map a.eval) (hi.map a.eval) (mx.map a.eval)) (by simp only [execOp, ho]) ?_
  simp only [pureA] at h
  split at h
  · rename_i l hh m e1 e2 e3
    have hv := cO_sim he hx
    have hz : ∀ w, (sizeOf t').run P w = .ok size w := fun w => cSize_spec hs
    generalize x'.ev e = xa at h hv
    generalize a.eval x = xv at hv
    have frame : ∀ (base : Option Addr) (len cap : Nat) (q : Nat × Nat × Nat), (Instr.sliceBounds true len cap (lo.map a.eval) (hi.map a.eval) (mx.map a.eval)).run P w = .ok q w →
        (Instr.sliceAt t (.slice base len cap) (lo.map a.eval) (hi.map a.eval) (mx.map a.eval)).run P w = .ok (.slice (if q.2.2 = q.1 then base else base.map (·.add (q.1 * size))) (q.2.1 - q.1) (q.2.2 - q.1)) w := by
      intro base len cap q hq
      simp [Instr.sliceAt, Instr.slice, run_underlying ht, hq, hz]
    unfold sliceA at h
    split at h
    · -- nil
      cases hv
      split at h
      · rename_i q hq
        simp only [Option.some.injEq] at h
        subst h
        obtain ⟨mm, b1, b2, b3, b4, b5, b6, b7⟩ := sim_bounds (P := P) (w := w) (isSlice := true) (cap := 0) he h1 h2 h3 e1 e2 e3 (Nat.le_refl 0) (fun x hx => by simpa using hx.symm) hq
        have g1 : mm = 0 := by omega
        have g2 : q.1 = 0 := by omega
        have g3 : q.2.1 = 0 := by omega
        refine ⟨_, frame _ _ _ _ b1, ?_⟩
        simp only [g1, g2, g3]
        exact .nsl
      · cases h
    · -- empty
      rename_i z
      cases hv
      rename_i ad c hzc
      split at h
      · rename_i q1 q2 q3 hq
        simp only [Option.some.injEq] at h
        subst h
        obtain ⟨mm, b1, b2, b3, b4, b5, b6, b7⟩ := sim_bounds (P := P) (w := w) (isSlice := true) (cap := c) he h1 h2 h3 e1 e2 e3 (Nat.zero_le c) (fun x hx => by
          cases z with
          | true => simp at hx; rw [hzc rfl, hx]
          | false => simp at hx) hq
        refine ⟨_, frame _ _ _ _ b1, ?_⟩
        have g2 : q1 = 0 := by simp at b3 b4; omega
        have g3 : q2 = 0 := by simp at b3 b4; omega
        subst g2; subst g3
        have g1 : q3 = mm := b2 _ rfl
        have g4 : mm = 0 := by
          unfold bounds at hq
          split at hq
          · split at hq
            · split at hq
              · rename_i hc
                simp only [Bool.and_eq_true, Nat.ble_eq] at hc
                simp only [Option.some.injEq, Prod.mk.injEq] at hq
                omega
              · cases hq
            · cases hq
          · split at hq
            · simp only [Option.some.injEq, Prod.mk.injEq] at hq
              cases z with
              | true => simp at hq; omega
              | false => simp at hq
            · cases hq
        simp only [g4, Nat.zero_mul, if_true, Nat.sub_zero]
        exact .sle true _ _ (fun _ => rfl)
      · rename_i q1 q2 hq
        simp only [Option.some.injEq] at h
        subst h
        obtain ⟨mm, b1, b2, b3, b4, b5, b6, b7⟩ := sim_bounds (P := P) (w := w) (isSlice := true) (cap := c) he h1 h2 h3 e1 e2 e3 (Nat.zero_le c) (fun x hx => by
          cases z with
          | true => simp at hx; rw [hzc rfl, hx]
          | false => simp at hx) hq
        refine ⟨_, frame _ _ _ _ b1, ?_⟩
        have g2 : q1 = 0 := by simp at b3 b4; omega
        have g3 : q2 = 0 := by simp at b3 b4; omega
        subst g2; subst g3
        simp only [Nat.sub_zero]
        split
        · exact .sle false _ _ (fun x => by cases x)
        · exact .sle false _ _ (fun x => by cases x)
      · cases h
    · -- known
      rename_i blk off len c
      cases hv
      rename_i pl n cc hle hpl hnn hcap
      have hcc : c = cc := hcap
      have hln : len = n := by simp only [AI.val] at hnn; exact Int.ofNat.inj hnn
      subst hcc; subst hln
      split at h
      · rename_i q1 q2 q3 hq
        simp only [Option.some.injEq] at h
        subst h
        obtain ⟨mm, b1, b2, b3, b4, b5, b6, b7⟩ := sim_bounds (P := P) (w := w) (isSlice := true) (cap := c) he h1 h2 h3 e1 e2 e3 (Nat.le_refl c) (fun x hx => by simpa using hx.symm) hq
        have g1 : q3 = mm := b2 _ rfl
        subst g1
        refine ⟨_, frame _ _ _ _ b1, ?_⟩
        simp only [Option.map_some, Addr.add_off, Nat.add_assoc]
        simp only at b3 b4 b5 b6
        by_cases e9 : q3 = q1
        · subst e9
          simp only [Nat.beq_refl, if_true]
          exact .sl blk off _ _ pl _ _ hpl rfl rfl (by omega)
        · have : Nat.beq q3 q1 = false := by rw [Bool.eq_false_iff]; simpa using e9
          simp only [this, if_neg e9, Bool.false_eq_true, if_false]
          exact .sl blk (off + q1 * size) _ _ pl _ _ hpl rfl rfl (by omega)
      · cases h
    · -- not known
      rename_i blk off len cap hnex
      cases hv
      rename_i pl n cc hle hpl hnn hcap
      have hln : len = n := by simp only [AI.val] at hnn; exact Int.ofNat.inj hnn
      subst hln
      split at h
      · rename_i q1 q2 q3 hq
        simp only [Option.some.injEq] at h
        subst h
        obtain ⟨mm, b1, b2, b3, b4, b5, b6, b7⟩ := sim_bounds (P := P) (w := w) (isSlice := true) (cap := cc) he h1 h2 h3 e1 e2 e3 hle (fun x hx => by cases hx) hq
        have g1 : q3 = mm := b2 _ rfl
        subst g1
        refine ⟨_, frame _ _ _ _ b1, ?_⟩
        simp only [Option.map_some, Addr.add_off, Nat.add_assoc]
        simp only at b3 b4 b5 b6
        by_cases e9 : q3 = q1
        · subst e9
          simp only [Nat.beq_refl, if_true]
          exact .sl blk off _ _ pl _ _ hpl rfl rfl (by omega)
        · have : Nat.beq q3 q1 = false := by rw [Bool.eq_false_iff]; simpa using e9
          simp only [this, if_neg e9, Bool.false_eq_true, if_false]
          exact .sl blk (off + q1 * size) _ _ pl _ _ hpl rfl rfl (by omega)
      · rename_i q1 q2 hq
        obtain ⟨mm, b1, b2, b3, b4, b5, b6, b7⟩ := sim_bounds (P := P) (w := w) (isSlice := true) (cap := cc) he h1 h2 h3 e1 e2 e3 hle (fun x hx => by cases hx) hq
        have g1 : mm = cc := b7 rfl
        subst g1
        simp only at b3 b4 b5 b6
        refine ⟨_, frame _ _ _ _ b1, ?_⟩
        simp only [Option.map_some, Addr.add_off, Nat.add_assoc]
        split at h
        · rename_i hlt
          simp only [Nat.blt_eq] at hlt
          have e9 : ¬ mm = q1 := by omega
          simp only [if_neg e9]
          split at h
          · rename_i z
            split at h
            · rename_i hz
              have hz := Nat.eq_of_beq_eq_true hz
              subst hz
              simp only [Option.some.injEq] at h
              subst h
              refine .sl blk (off + q1 * z) _ _ pl _ _ hpl rfl ?_ (by omega)
              simp only [CapOk] at hcap ⊢
              have : mm * z = q1 * z + (mm - q1) * z := by rw [← Nat.add_mul]; congr 1; omega
              omega
            · cases h
          · simp only [Option.some.injEq] at h
            subst h
            exact .sl blk (off + q1 * size) _ _ pl _ _ hpl rfl trivial (by omega)
        · rename_i hlt
          simp only [Option.some.injEq] at h
          subst h
          have hlt' : ¬ q1 < len := by simpa [Nat.blt_eq] using hlt
          have g5 : q2 - q1 = 0 := by omega
          simp only [g5]
          split <;> exact .sle false _ _ (fun x => by cases x)
      · cases h
    · cases h
  · cases h

end
end Go.Sh
