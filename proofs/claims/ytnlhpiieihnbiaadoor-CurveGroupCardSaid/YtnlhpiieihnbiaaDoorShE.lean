/-
  THE SHADOW MACHINE: each operation without a heap says what the real one does, the rest of them. Own work.
-/
import Derived.Test.YtnlhpiieihnbiaaDoorShD
namespace Go.Sh

section
variable {ν : Nat → Int} {ρ : Emb} {F : Facts} {P : Program} {w : World}

theorem oneCell {x : AV} {v : Value} (h : x.one = true) (hv : VR ν ρ x v) : v.oneCell' = true ∧ v.cells = #[v] := by
  cases hv <;> first
    | (simp [AV.one] at h; done)
    | exact ⟨rfl, rfl⟩

theorem cells_sim {x : AV} {cs : List AV} {v : Value} (h : x.cells = some cs) (hv : VR ν ρ x v) : LR ν ρ cs v.cells ∧ ∀ c ∈ cs, c.one = true := by
  cases hx : x.one with
  | true =>
    have h1 := (oneCell hx hv).2
    have h2 : cs = [x] := by
      unfold AV.cells at h
      cases x <;> first | (simp [AV.one] at hx; done) | exact (Option.some.inj h).symm
    subst h2
    rw [h1]
    refine ⟨⟨rfl, fun j y z hy hz => ?_⟩, fun c hc => by simp at hc; subst hc; exact hx⟩
    cases j with
    | zero => simp at hy hz; subst hy; subst hz; exact hv
    | succ j => simp at hy
  | false =>
    cases hv <;> first
      | (simp [AV.one] at hx; done)
      | (simp [AV.cells] at h; done)
      | (rename_i cs' vs hs hp
         simp only [AV.cells] at h
         split at h
         · rename_i hall
           simp only [Option.some.injEq] at h
           subst h
           exact ⟨⟨hs, hp⟩, fun c hc => List.all_eq_true.1 hall c hc⟩
         · cases h)
      | cases h

theorem LR.one {cs : List AV} {vs : Array Value} (h : LR ν ρ cs vs) (h1 : ∀ c ∈ cs, c.one = true) : ∀ v ∈ vs.toList, v.oneCell' = true := by
  intro v hv
  obtain ⟨j, hj, rfl⟩ := List.getElem_of_mem hv
  have hj' : j < cs.length := by rw [h.1]; simpa using hj
  exact (oneCell (h1 _ (List.getElem_mem hj')) (h.2 j cs[j] _ (List.getElem?_eq_getElem hj') (by simp at hj ⊢))).1

theorem fold_set (l : List Value) : ∀ (k off : Nat) (vs : Array Value) (i : Nat), off + k + l.length ≤ vs.size →
    ((l.zipIdx k).foldl (fun cs (p : Value × Nat) => cs.setIfInBounds (off + p.2) p.1) vs)[i]? = if off + k ≤ i ∧ i < off + k + l.length then l[i - (off + k)]? else vs[i]? := by
  induction l with
  | nil => intro k off vs i _; simp; intro h1 h2; omega
  | cons a r ih =>
    intro k off vs i h
    simp only [List.zipIdx_cons, List.foldl_cons]
    rw [ih (k + 1) off _ i (by simp at h ⊢; omega)]
    simp only [List.length_cons] at h ⊢
    by_cases h1 : off + (k + 1) ≤ i ∧ i < off + (k + 1) + r.length
    · rw [if_pos h1, if_pos (by omega)]
      have : i - (off + k) = (i - (off + (k + 1))) + 1 := by omega
      rw [this, List.getElem?_cons_succ]
    · rw [if_neg h1]
      by_cases h2 : i = off + k
      · subst h2
        rw [if_pos (by omega)]
        have hlt : off + k < vs.size := by omega
        simp [hlt]
      · rw [if_neg (by omega)]
        rw [Array.getElem?_setIfInBounds_ne (by omega)]

theorem splice_get (l : List AV) (off : Nat) (ns : List AV) (i : Nat) (h : off + ns.length ≤ l.length) : (splice l off ns)[i]? = if off ≤ i ∧ i < off + ns.length then ns[i - off]? else l[i]? := by
  unfold splice
  by_cases h1 : i < off
  · rw [if_neg (by omega), List.append_assoc, List.getElem?_append_left (by simp; omega), List.getElem?_take, if_pos h1]
  · rw [List.append_assoc, List.getElem?_append_right (by simp; omega)]
    simp only [List.length_take]
    have e : min off l.length = off := by omega
    rw [e]
    by_cases h2 : i < off + ns.length
    · rw [if_pos (by omega), List.getElem?_append_left (by omega)]
    · rw [if_neg (by omega), List.getElem?_append_right (by omega), List.getElem?_drop]
      congr 1
      omega

theorem splice_length (l : List AV) (off : Nat) (ns : List AV) (h : off + ns.length ≤ l.length) : (splice l off ns).length = l.length := by
  unfold splice
  simp
  omega

theorem LR.splice {cs ns : List AV} {vs nv : Array Value} {off : Nat} (h : LR ν ρ cs vs) (hn : LR ν ρ ns nv) (hf : off + ns.length ≤ cs.length) :
    LR ν ρ (splice cs off ns) (nv.zipIdx.foldl (fun cs (p : Value × Nat) => cs.setIfInBounds (off + p.2) p.1) vs) := by
  have hsz : ∀ (l : List (Value × Nat)) (vs : Array Value), (l.foldl (fun cs (p : Value × Nat) => cs.setIfInBounds (off + p.2) p.1) vs).size = vs.size := by
    intro l
    induction l with
    | nil => intro vs; rfl
    | cons a r ih => intro vs; simp only [List.foldl_cons]; rw [ih]; simp
  rw [← Array.foldl_toList, Array.toList_zipIdx]
  refine ⟨by rw [splice_length _ _ _ hf, hsz, h.1], fun j x v hx hv => ?_⟩
  rw [splice_get _ _ _ _ hf] at hx
  rw [fold_set _ 0 off vs j (by simp; have := h.1; have := hn.1; omega)] at hv
  have hl : nv.toList.length = ns.length := by simpa using hn.1.symm
  simp only [Nat.add_zero, hl] at hv
  split at hx
  · rename_i hc
    rw [if_pos hc] at hv
    exact hn.2 _ x v hx (by simpa using hv)
  · rename_i hc
    rw [if_neg hc] at hv
    exact h.2 j x v hx hv

theorem fill_sim {e : Tr AV} {a : Act} (he : ER ν ρ e a.tmps) {places : Nat → Option (Nat × Nat)} : ∀ (ps : List (Nat × Operand)) (l : List (Nat × Nat × O)) (cs : List AV) (vs : Array Value) (r : List AV),
    cParts places ps = some l → LR ν ρ cs vs → fillA e cs l = some r → ∃ rv, Instr.fill places vs (ps.map fun p => (p.1, a.eval p.2)) = some rv ∧ LR ν ρ r rv := by
  intro ps
  induction ps with
  | nil =>
    intro l cs vs r hc hl h
    simp [cParts] at hc
    subst hc
    simp [fillA] at h
    subst h
    exact ⟨vs, rfl, hl⟩
  | cons p ps ih =>
    intro l cs vs r hc hl h
    simp only [cParts] at hc
    split at hc
    · rename_i pl x l' h1 h2 h3
      simp only [Option.some.injEq] at hc
      subst hc
      simp only [fillA] at h
      split at h
      · rename_i ns hns
        split at h
        · rename_i hb
          simp only [Bool.and_eq_true, Nat.ble_eq] at hb
          have hb1 := Nat.eq_of_beq_eq_true hb.1
          obtain ⟨hn, _⟩ := cells_sim hns (cO_sim he h2)
          have hsp := LR.splice (off := pl.1) hl hn (by omega)
          obtain ⟨rv, g1, g2⟩ := ih l' _ _ r h3 hsp h
          refine ⟨rv, ?_, g2⟩
          simp only [List.map_cons, Instr.fill, h1]
          have hs : (a.eval p.2).cells.size = pl.2 := by rw [← hn.1]; exact hb1
          have hb2 : ¬ pl.1 + pl.2 > vs.size := by have := hl.1; omega
          simp only [hs]
          rw [if_neg (by simpa using hb2)]
          simpa using g1
        · cases h
      · cases h
    · cases hc

end

section
variable {ν : Nat → Int} {ρ : Emb} {F : Facts} {P : Program} {w : World} {o : Oper} {k : K} {e : Tr AV} {a : Act} {r : AV}

theorem sim_bld (he : ER ν ρ e a.tmps) {t : TypeId} {ps : Array (Nat × Operand)} {zv : AV} {z : List AV} {l : List (Nat × Nat × O)} {places : Nat → Option (Nat × Nat)}
    (ho : o.op = .build t ps) (hz : cZero P t = some zv) (hzc : zv.cells = some z) (hp : cParts places ps.toList = some l)
    (hb : (∃ fields pl, P.underlying t = some (.struct fields) ∧ fields.toList.mapM (fun f => (P.info? f.type).map fun i => (f.offset, i.size)) = some pl ∧ places = (fun (i : Nat) => pl[i]?)) ∨
      (∃ n t' s, P.underlying t = some (.array n t') ∧ cSize P t' = some s ∧ places = fun i => some (i * s, s)))
    (h : pureA F e (.bld z l) = some r) : Val ν ρ P w a o r := by
  refine Val.of (s := Instr.build t (ps.map fun (i, x) => (i, a.eval x))) (by simp only [execOp, ho]) ?_
  simp only [pureA, Option.map_eq_some_iff] at h
  obtain ⟨rc, hr, rfl⟩ := h
  obtain ⟨vz, h1, h2, i, hi, hiz⟩ := cZero_spec (w := w) (ν := ν) (ρ := ρ) hz
  obtain ⟨hzl, _⟩ := cells_sim hzc h2
  obtain ⟨rv, g1, g2⟩ := fill_sim he ps.toList l z vz.cells rc hp hzl hr
  refine ⟨.agg rv, ?_, .ag _ _ g2.1 g2.2⟩
  have el : (ps.map fun (i, x) => (i, a.eval x)).toList = ps.toList.map fun p => (p.1, a.eval p.2) := by simp
  rcases hb with ⟨fields, pl, hu, hm, rfl⟩ | ⟨n, t', s, hu, hs, rfl⟩
  · simp only [Instr.build, Sem.run_bind, h1, Result.andThen_ok, run_underlying hu, el]
    have hpl := run_places (P := P) w fields.toList pl hm
    simp only [Array.mapM_eq_mapM_toList, Sem.run_map, bind_pure_comp, hpl, Result.andThen_ok]
    have e1 : (fun (x : Nat) => pl.toArray[x]?) = fun (i : Nat) => pl[i]? := by funext i; simp
    rw [e1, g1]
    rfl
  · simp only [Instr.build, Sem.run_bind, h1, Result.andThen_ok, run_underlying hu, el, cSize_spec hs, g1]
    rfl

theorem sim_mv (he : ER ν ρ e a.tmps) {x : Operand} {x' : O} (ho : o.op = .move x ∨ o.op = .assign x) (hx : cO x = some x') (h : pureA F e (.mv x') = some r) : Val ν ρ P w a o r := by
  simp only [pureA, Option.some.injEq] at h
  subst h
  refine ⟨a.eval x, ?_, cO_sim he hx⟩
  rcases ho with ho | ho <;> simp [execOp, ho]

theorem sim_pick (he : ER ν ρ e a.tmps) {c x y : Operand} {c' x' y' : O} (ho : o.op = .pick c x y) (hc : cO c = some c') (hx : cO x = some x') (hy : cO y = some y') (h : pureA F e (.pick c' x' y') = some r) : Val ν ρ P w a o r := by
  simp only [pureA] at h
  split at h
  · rename_i t ht
    have hv := cO_sim he hc
    rw [ht] at hv
    generalize hcv : a.eval c = cv at hv
    cases hv
    simp only [Option.some.injEq] at h
    subst h
    refine ⟨if t then a.eval x else a.eval y, by simp [execOp, ho, hcv, asBool], ?_⟩
    cases t
    · exact cO_sim he hy
    · exact cO_sim he hx
  · cases h

theorem sim_nck (he : ER ν ρ e a.tmps) {x : Operand} {x' : O} (ho : o.op = .nilCheck x) (hx : cO x = some x') (h : pureA F e (.nck x') = some r) : Val ν ρ P w a o r := by
  have hv := cO_sim he hx
  simp only [pureA] at h
  generalize hxa : x'.ev e = xa at h hv
  generalize hxv : a.eval x = xv at hv
  split at h <;> first
    | (simp only [Option.some.injEq] at h; subst h
       refine ⟨xv, ?_, hv⟩
       cases hv
       simp [execOp, ho, hxv]; done)
    | cases h

theorem sim_eqb (he : ER ν ρ e a.tmps) {x y : Operand} {x' y' : O} {t t2 : TypeId} {neg : Bool} (ho : o.op = .binOp (if neg then .neq else .eql) t x y t2) (ht : P.underlying t = some .bool)
    (hx : cO x = some x') (hy : cO y = some y') (h : pureA F e (.eqb neg x' y') = some r) : Val ν ρ P w a o r := by
  have hv := cO_sim he hx
  have hu := cO_sim he hy
  simp only [pureA] at h
  split at h
  · rename_i p q e1 e2
    rw [e1] at hv
    rw [e2] at hu
    generalize hxv : a.eval x = xv at hv
    generalize hyv : a.eval y = yv at hu
    cases hv
    cases hu
    simp only [Option.some.injEq] at h
    subst h
    refine ⟨.bool ((p == q) != neg), ?_, .b _⟩
    have hg : ∀ op, (eqGuard op t x y (.bool p) (.bool q)).run P w = .ok () w := by
      intro op
      unfold eqGuard
      cases op <;> rfl
    cases neg
    · simp only [execOp, ho, hxv, hyv, Sem.run_bind, Bool.false_eq_true, if_false, hg, Result.andThen_ok, run_eql_bool w t p q ht]
      simp
    · simp only [execOp, ho, hxv, hyv, Sem.run_bind, if_true, hg, Result.andThen_ok, run_neq_bool w t p q ht]
      simp
  · cases h

theorem sim_una (hF : F.Hold ν) (he : ER ν ρ e a.tmps) {op : UnOp} {x : Operand} {x' : O} {t : TypeId} (ho : o.op = .unOp op t x) (hx : cO x = some x') (h : pureA F e (.una op x') = some r) : Val ν ρ P w a o r := by
  have hv := cO_sim he hx
  simp only [pureA] at h
  split at h
  · rename_i t e1
    rw [e1] at hv
    generalize hxv : a.eval x = xv at hv
    cases hv
    simp only [Option.some.injEq] at h
    subst h
    exact ⟨.bool !t, by simp [execOp, ho, hxv, Op.unary], .b _⟩
  · rename_i k n e1
    rw [e1] at hv
    generalize hxv : a.eval x = xv at hv
    cases hv
    simp only [Option.some.injEq] at h
    subst h
    refine ⟨_, ?_, .i _ _⟩
    rw [mkE_val hF]
    simp [execOp, ho, hxv, Op.unary, Op.intArith, arith, AI.val]
  · rename_i k n e1
    rw [e1] at hv
    generalize hxv : a.eval x = xv at hv
    cases hv
    simp only [Option.some.injEq] at h
    subst h
    refine ⟨_, ?_, .i _ _⟩
    rw [mkE_val hF]
    simp [execOp, ho, hxv, Op.unary, Op.intBits, arith, AI.val]
  · cases h

theorem sim_cv (hF : F.Hold ν) (he : ER ν ρ e a.tmps) {x : Operand} {x' : O} {s t : TypeId} {k k0 : IntKind} (ho : o.op = .convert s t x) (hs : P.underlying s = some (.int k0)) (ht : P.underlying t = some (.int k)) (hx : cO x = some x')
    (h : pureA F e (.cv k x') = some r) : Val ν ρ P w a o r := by
  have hv := cO_sim he hx
  simp only [pureA] at h
  split at h
  · rename_i k' n e1
    rw [e1] at hv
    generalize hxv : a.eval x = xv at hv
    cases hv
    simp only [Option.some.injEq] at h
    subst h
    refine ⟨_, ?_, .i _ _⟩
    rw [mkW_val hF]
    simp [execOp, ho, hxv, convert, run_underlying hs, run_underlying ht, Conv.intToInt]
  · cases h

theorem sim_ifc (he : ER ν ρ e a.tmps) {x : Operand} {x' : O} {t : TypeId} {d : TypeDesc} (ho : o.op = .makeInterface t x) (ht : P.underlying t = some d) (hd : ∀ m, d ≠ .interface m) (hx : cO x = some x')
    (h : pureA F e (.ifc t x') = some r) : Val ν ρ P w a o r := by
  simp only [pureA, Option.some.injEq] at h
  subst h
  refine ⟨.iface t (a.eval x), ?_, .ifc _ _ _ (cO_sim he hx)⟩
  simp only [execOp, ho, Instr.makeInterface, Sem.run_bind, run_underlying ht, Result.andThen_ok]
  cases d <;> first
    | rfl
    | exact (hd _ rfl).elim

theorem sim_mkf (he : ER ν ρ e a.tmps) {f : Nat} {caps : Array Operand} {l : List O} (ho : o.op = .makeFunc (.func f) #[] caps) (hc : cOs caps = some l) (h : pureA F e (.mkf f l) = some r) : Val ν ρ P w a o r := by
  simp only [pureA, Option.some.injEq] at h
  subst h
  have := cOs_sim he hc
  exact ⟨.func (.func f) #[] (caps.map a.eval), by simp [execOp, ho, Instr.makeFunc], .fn _ _ _ this.1 this.2⟩

theorem sim_fa (he : ER ν ρ e a.tmps) {x : Operand} {x' : O} {t : TypeId} {i : Nat} {fs : Array Field} {f : Field} {s : Nat} (ho : o.op = .fieldAddr t x i) (ht : P.underlying t = some (.struct fs)) (hf : fs[i]? = some f)
    (hs : cSize P f.type = some s) (hs0 : s ≠ 0) (hx : cO x = some x') (h : pureA F e (.fa f.offset x') = some r) : Val ν ρ P w a o r := by
  have hv := cO_sim he hx
  simp only [pureA] at h
  split at h
  · rename_i b off e1
    rw [e1] at hv
    generalize hxv : a.eval x = xv at hv
    cases hv
    rename_i pl hpl
    simp only [Option.some.injEq] at h
    subst h
    refine ⟨.pointer (some ⟨pl.cb, pl.co + (off + f.offset), none⟩), ?_, .p _ _ _ hpl⟩
    simp [execOp, ho, hxv, Instr.fieldAt, run_underlying ht, hf, Instr.sureAddr, fieldPlace, cSize_spec hs, hs0, Addr.add_off, Nat.add_assoc]
  · cases h

theorem sim_fl (he : ER ν ρ e a.tmps) {x : Operand} {x' : O} {t : TypeId} {i : Nat} {fs : Array Field} {f : Field} {n : Option Nat} (ho : o.op = .field t x i) (ht : P.underlying t = some (.struct fs)) (hf : fs[i]? = some f)
    (hs : cAgg P f.type = some n) (hx : cO x = some x') (h : pureA F e (.fl f.offset n x') = some r) : Val ν ρ P w a o r := by
  have hv := cO_sim he hx
  simp only [pureA] at h
  split at h
  · rename_i cs e1
    rw [e1] at hv
    generalize hxv : a.eval x = xv at hv
    cases hv
    rename_i vs hs1 hs2
    obtain ⟨v, h1, h2⟩ := part_sim (P := P) (w := w) hs ⟨hs1, hs2⟩ h
    refine ⟨v, ?_, h2⟩
    simp [execOp, ho, hxv, Instr.field, run_underlying ht, hf, asAgg, h1]
  · cases h

theorem sim_ia (he : ER ν ρ e a.tmps) {x i : Operand} {x' i' : O} {t t' : TypeId} {s : Nat} {arr : Option Nat} (ho : o.op = .indexAddr t x i)
    (ht : (arr = none ∧ P.underlying t = some (.slice t')) ∨ (∃ n, arr = some n ∧ P.underlying t = some (.array n t'))) (hs : cSize P t' = some s) (hx : cO x = some x') (hi : cO i = some i')
    (h : pureA F e (.ia s arr x' i') = some r) : Val ν ρ P w a o r := by
  have hv := cO_sim he hx
  have hiv := cO_sim he hi
  simp only [pureA] at h
  split at h
  · rename_i j n b off e0 e2
    obtain ⟨kk, hk⟩ := asNat_sim e0 hiv
    rw [e2] at hv
    generalize hxv : a.eval x = xv at hv
    cases hv
    rename_i pl hpl
    split at h
    · rename_i hlt
      simp only [Nat.blt_eq] at hlt
      simp only [Option.some.injEq] at h
      subst h
      rcases ht with ⟨hh, _⟩ | ⟨n', hn', ht⟩
      · cases hh
      · cases hn'
        refine ⟨.pointer (some ⟨pl.cb, pl.co + (off + j * s), none⟩), ?_, .p _ _ _ hpl⟩
        have h1 : (0 : Int) ≤ (j : Int) ∧ (j : Int) < (n : Int) := by omega
        simp [execOp, ho, hxv, hk, Instr.indexAt, asIntOf, run_underlying ht, Instr.sureAddr, hlt, cSize_spec hs, Addr.add_off, Nat.add_assoc]
    · cases h
  · rename_i j b off n cap e0 e2
    obtain ⟨kk, hk⟩ := asNat_sim e0 hiv
    rw [e2] at hv
    generalize hxv : a.eval x = xv at hv
    cases hv
    rename_i pl nn cc hle hpl hnn hcap
    have hln : n = nn := by simp only [AI.val] at hnn; exact Int.ofNat.inj hnn
    subst hln
    split at h
    · rename_i hlt
      simp only [Nat.blt_eq] at hlt
      simp only [Option.some.injEq] at h
      subst h
      rcases ht with ⟨_, ht⟩ | ⟨n', hn', ht⟩
      · refine ⟨.pointer (some ⟨pl.cb, pl.co + (off + j * s), none⟩), ?_, .p _ _ _ hpl⟩
        simp [execOp, ho, hxv, hk, Instr.indexAt, asIntOf, run_underlying ht, hlt, cSize_spec hs, Addr.add_off, Nat.add_assoc]
      · cases hn'
    · cases h
  · cases h

theorem sim_ix (he : ER ν ρ e a.tmps) {x i : Operand} {x' i' : O} {t t' : TypeId} {s n : Nat} {m : Option Nat} (ho : o.op = .index t x i) (ht : P.underlying t = some (.array n t')) (hs : cSize P t' = some s) (hm : cAgg P t' = some m)
    (hx : cO x = some x') (hi : cO i = some i') (h : pureA F e (.ix m s n x' i') = some r) : Val ν ρ P w a o r := by
  have hv := cO_sim he hx
  have hiv := cO_sim he hi
  simp only [pureA] at h
  split at h
  · rename_i j cs e0 e1
    obtain ⟨kk, hk⟩ := asNat_sim e0 hiv
    rw [e1] at hv
    generalize hxv : a.eval x = xv at hv
    cases hv
    rename_i vs hs1 hs2
    split at h
    · rename_i hlt
      simp only [Nat.blt_eq] at hlt
      obtain ⟨v, h1, h2⟩ := part_sim (P := P) (w := w) hm ⟨hs1, hs2⟩ h
      refine ⟨v, ?_, h2⟩
      simp [execOp, ho, hxv, hk, Instr.index, asIntOf, run_underlying ht, hlt, cSize_spec hs, h1]
    · cases h
  · cases h

theorem sim_ext (he : ER ν ρ e a.tmps) {x : Operand} {x' : O} {i : Nat} (ho : o.op = .extract x i) (hx : cO x = some x') (h : pureA F e (.ext x' i) = some r) : Val ν ρ P w a o r := by
  have hv := cO_sim he hx
  simp only [pureA] at h
  split at h
  · rename_i vs e1
    rw [e1] at hv
    generalize hxv : a.eval x = xv at hv
    cases hv
    rename_i vv hs1 hs2
    have hlt : i < vv.size := by rw [← hs1]; exact (List.getElem?_eq_some_iff.1 h).1
    refine ⟨vv[i], ?_, hs2 i r _ h (by simp)⟩
    simp [execOp, ho, hxv, Instr.extract, hlt]
  · cases h

theorem sim_tas (he : ER ν ρ e a.tmps) {x : Operand} {x' : O} {t t0 : TypeId} {d : TypeDesc} {z : AV} {ok : Bool} (ho : o.op = .typeAssert x t0 t ok) (ht : P.underlying t = some d) (hd : ∀ m, d ≠ .interface m) (hz : cZero P t = some z)
    (hx : cO x = some x') (h : pureA F e (.tas t z ok x') = some r) : Val ν ρ P w a o r := by
  have hv := cO_sim he hx
  obtain ⟨vz, h1, h2, _⟩ := cZero_spec (w := w) (ν := ν) (ρ := ρ) hz
  have tup : ∀ {p q : AV} {vp vq : Value}, VR ν ρ p vp → VR ν ρ q vq → VR ν ρ (.tp [p, q]) (.tuple #[vp, vq]) := by
    intro p q vp vq hp hq
    refine .tp _ _ rfl fun j y z hy hz => ?_
    match j with
    | 0 => simp at hy hz; subst hy; subst hz; exact hp
    | 1 => simp at hy hz; subst hy; subst hz; exact hq
    | j + 2 => simp at hy
  have hu : ∀ {y : Value}, (∀ m, d ≠ .interface m) → (Instr.typeAssert y t0 t ok).run P w = match y with
      | .nilIface => if ok then .ok (.tuple #[vz, .bool false]) w else (runtimePanic (.typeAssertion (some t0) none t "") : Sem Value).run P w
      | .iface t' v => if t' = t then .ok (if ok then .tuple #[v, .bool true] else v) w else if ok then .ok (.tuple #[vz, .bool false]) w else (runtimePanic (.typeAssertion (some t0) (some t') t "") : Sem Value).run P w
      | _ => .halt (.stuck "TypeAssert: interface value expected") w := by
    intro y hd
    cases d <;> first
      | exact (hd _ rfl).elim
      | (cases y <;> cases ok <;> simp [Instr.typeAssert, run_underlying ht, h1])
  simp only [pureA] at h
  split at h
  · rename_i t' v e1
    rw [e1] at hv
    generalize hxv : a.eval x = xv at hv
    cases hv
    rename_i vv hvv
    split at h
    · rename_i hb
      have hb := Nat.eq_of_beq_eq_true hb
      subst hb
      simp only [Option.some.injEq] at h
      subst h
      refine ⟨if ok then .tuple #[vv, .bool true] else vv, ?_, ?_⟩
      · simp [execOp, ho, hxv, hu hd]
      · cases ok
        · exact hvv
        · exact tup hvv (.b true)
    · rename_i hb
      split at h
      · rename_i hok
        subst hok
        simp only [Option.some.injEq] at h
        subst h
        have hne : ¬ t' = t := fun hh => hb (by subst hh; exact Nat.beq_refl _)
        exact ⟨.tuple #[vz, .bool false], by simp [execOp, ho, hxv, hu hd, hne], tup h2 (.b false)⟩
      · cases h
  · rename_i e1
    rw [e1] at hv
    generalize hxv : a.eval x = xv at hv
    cases hv
    split at h
    · rename_i hok
      subst hok
      simp only [Option.some.injEq] at h
      subst h
      exact ⟨.tuple #[vz, .bool false], by simp [execOp, ho, hxv, hu hd], tup h2 (.b false)⟩
    · cases h
  · cases h

end
end Go.Sh
