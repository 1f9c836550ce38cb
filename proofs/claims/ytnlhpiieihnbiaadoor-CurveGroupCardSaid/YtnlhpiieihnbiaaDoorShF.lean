/-
  THE SHADOW MACHINE: the last operations without a heap; how the heap is read, written and grown. Own work.
-/
import Derived.Test.YtnlhpiieihnbiaaDoorShE
import Derived.ChangeKeysEq
namespace Go.Sh

section
variable {ν : Nat → Int} {ρ : Emb} {F : Facts} {P : Program} {w : World} {o : Oper} {k : K} {e : Tr AV} {a : Act} {r : AV}

theorem sim_bin (hF : F.Hold ν) (he : ER ν ρ e a.tmps) {op : BinOp} {x y : Operand} {x' y' : O} {t t2 : TypeId} (ho : o.op = .binOp op t x y t2) (hx : cO x = some x') (hy : cO y = some y')
    (h : pureA F e (.bin op x' y') = some r) : Val ν ρ P w a o r := by
  refine Val.of (s := do eqGuard op t x y (a.eval x) (a.eval y); binOp op t (a.eval x) (a.eval y)) (by simp only [execOp, ho]) ?_
  exact binA_sim hF t x y (cO_sim he hx) (cO_sim he hy) h

theorem sim_sla (he : ER ν ρ e a.tmps) {t t' : TypeId} {n : Nat} {x : Operand} {x' : O} {size : Nat} {lo hi mx : Option Operand} {lo' hi' mx' : Option O}
    (ho : o.op = .slice t x lo hi mx) (ht : P.underlying t = some (.array n t')) (hs : cSize P t' = some size) (hx : cO x = some x') (h1 : cOpt lo = some lo') (h2 : cOpt hi = some hi') (h3 : cOpt mx = some mx')
    (h : pureA F e (.sla n size x' lo' hi' mx') = some r) : Val ν ρ P w a o r := by
  refine Val.of (s := Instr.sliceAt t (a.eval x) (lo.map a.eval) (hi.map a.eval) (mx.map a.eval)) (by simp only [execOp, ho]) ?_
  simp only [pureA] at h
  split at h
  · rename_i l hh m e1 e2 e3
    have hv := cO_sim he hx
    generalize x'.ev e = xa at h hv
    generalize a.eval x = xv at hv
    unfold slaA at h
    split at h
    · rename_i blk off
      cases hv
      rename_i pl hpl
      split at h
      · rename_i q1 q2 q3 hq
        simp only [Option.some.injEq] at h
        subst h
        obtain ⟨mm, b1, b2, b3, b4, b5, b6, b7⟩ := sim_bounds (P := P) (w := w) (isSlice := false) (cap := n) he h1 h2 h3 e1 e2 e3 (Nat.le_refl n) (fun x hx => by simpa using hx.symm) hq
        have g1 : q3 = mm := b2 _ rfl
        subst g1
        refine ⟨.slice (some (if q3 = q1 then ⟨pl.cb, pl.co + off, none⟩ else (⟨pl.cb, pl.co + off, none⟩ : Addr).add (q1 * size))) (q2 - q1) (q3 - q1), ?_, ?_⟩
        · simp [Instr.sliceAt, run_underlying ht, Instr.sureAddr, b1, cSize_spec hs]
        · simp only [Addr.add_off, Nat.add_assoc]
          simp only at b3 b4 b5 b6
          by_cases e9 : q3 = q1
          · subst e9
            simp only [Nat.beq_refl, if_true]
            exact .sl blk off _ _ pl _ _ hpl rfl rfl (by omega)
          · have : Nat.beq q3 q1 = false := by rw [Bool.eq_false_iff]; simpa using e9
            simp only [this, if_neg e9, Bool.false_eq_true, if_false]
            exact .sl blk (off + q1 * size) _ _ pl _ _ hpl rfl rfl (by omega)
      · cases h
    · cases h
  · cases h

theorem equal_nil {t : TypeId} {d : TypeDesc} {kind : Nat} {x y : AV} {vx vy : Value} {b : Bool} (hd : P.underlying t = some d) (hk : nilKind d = some kind) (hx : VR ν ρ x vx) (hy : VR ν ρ y vy) (h : nilEq kind x y = some b) :
    (Op.equal t vx vy).run P w = .ok b w := by
  suffices hall : ∀ n, (Op.equalIn (n + 1) t vx vy).run P w = .ok b w from hall 9999
  intro n
  unfold nilEq at h
  unfold nilKind at hk
  split at h
  · rename_i b' e1 e2
    simp only [Option.some.injEq] at h
    subst h
    split at hk <;> cases hk <;> cases hx <;> simp [isNil] at e1 <;> cases hy <;> simp [isNil] at e2 <;> subst e2 <;> simp [Op.equalIn, run_underlying hd]
  · rename_i e1 e2
    simp only [Option.some.injEq] at h
    subst h
    split at hk <;> cases hk <;> cases hx <;> simp [isNil] at e1 <;> cases hy <;> simp [isNil] at e2 <;> simp [Op.equalIn, run_underlying hd]
  · cases h

theorem guard_nil {x y : Operand} {t : TypeId} {op : BinOp} (hop : op = .eql ∨ op = .neq) (hc : (constO x || constO y) = true) : (eqGuard op t x y .nilIface .nilIface).run P w = .ok () w := by
  unfold eqGuard
  rcases hop with rfl | rfl <;> cases x <;> cases y <;> first
    | rfl
    | (simp [constO] at hc; done)

theorem sim_eqn (he : ER ν ρ e a.tmps) {x y : Operand} {x' y' : O} {t t2 : TypeId} {d : TypeDesc} {neg : Bool} {kind : Nat} (ho : o.op = .binOp (if neg then .neq else .eql) t x y t2) (ht : P.underlying t = some d) (hk : nilKind d = some kind)
    (hc : (constO x || constO y) = true) (hx : cO x = some x') (hy : cO y = some y') (h : pureA F e (.eqn neg kind x' y') = some r) : Val ν ρ P w a o r := by
  have hv := cO_sim he hx
  have hu := cO_sim he hy
  simp only [pureA, Option.map_eq_some_iff] at h
  obtain ⟨b, hb, rfl⟩ := h
  have heq := equal_nil (P := P) (w := w) ht hk hv hu hb
  generalize hxa : x'.ev e = xa at hv hb
  generalize hya : y'.ev e = ya at hu hb
  have key : ∀ op, op = .eql ∨ op = .neq → (eqGuard op t x y (a.eval x) (a.eval y)).run P w = .ok () w ∧
      (binOp op t (a.eval x) (a.eval y)).run P w = ((Op.equal t (a.eval x) (a.eval y)).run P w).andThen fun z w => .ok (.bool (if op = .eql then z else !z)) w := by
    intro op hop
    generalize hxv : a.eval x = xv at hv
    generalize hyv : a.eval y = yv at hu
    unfold nilEq at hb
    split at hb
    · rename_i b' e1 e2
      cases hv <;> simp [isNil] at e1 <;> cases hu <;> simp [isNil] at e2 <;> (rcases hop with rfl | rfl) <;> (constructor <;> first
        | (simp [binOp]; done)
        | (simp [eqGuard]; done)
        | exact guard_nil (.inl rfl) hc
        | exact guard_nil (.inr rfl) hc
        | omega)
    · rename_i e1 e2
      cases hv <;> simp [isNil] at e1 <;> cases hu <;> simp [isNil] at e2 <;> (rcases hop with rfl | rfl) <;> (constructor <;> first
        | (simp [binOp]; done)
        | (simp [eqGuard]; done)
        | omega)
    · cases hb
  refine ⟨.bool (b != neg), ?_, .b _⟩
  cases neg
  · obtain ⟨k1, k2⟩ := key .eql (.inl rfl)
    simp only [execOp, ho, Bool.false_eq_true, if_false, Sem.run_bind, k1, Result.andThen_ok, k2, heq]
    simp
  · obtain ⟨k1, k2⟩ := key .neq (.inr rfl)
    simp only [execOp, ho, if_true, Sem.run_bind, k1, Result.andThen_ok, k2, heq]
    simp

theorem sim_mm (hF : F.Hold ν) (he : ER ν ρ e a.tmps) {x y : Operand} {x' y' : O} {mst : Bool} {ts : Array TypeId} (ho : o.op = .call { callee := .builtin (if mst then .max else .min), args := #[x, y], argTypes := ts })
    (hx : cO x = some x') (hy : cO y = some y') (h : pureA F e (.mm mst x' y') = some r) : Val ν ρ P w a o r := by
  have hv := cO_sim he hx
  have hu := cO_sim he hy
  simp only [pureA] at h
  split at h
  · rename_i k n k' m e1 e2
    rw [e1] at hv
    rw [e2] at hu
    generalize hxv : a.eval x = xv at hv
    generalize hyv : a.eval y = yv at hu
    cases hv
    cases hu
    split at h
    · rename_i t ht
      have hc := cmpI_val hF _ _ _ _ ht
      simp only [Option.some.injEq] at h
      subst h
      refine ⟨.int k (if t then m.val ν else n.val ν), ?_, ?_⟩
      · rw [← hc]
        cases mst
        · simp [execOp, ho, resolve, invoke, builtin, hxv, hyv, run_min_int2, compare]
        · simp [execOp, ho, resolve, invoke, builtin, hxv, hyv, run_max_int2, compare]
      · cases t <;> exact .i _ _
    · cases h
  · cases h

theorem run_len {x : Operand} {ts : Array TypeId} (ho : o.op = .call { callee := .builtin .len, args := #[x], argTypes := ts }) :
    (execOp a.eval o).run P w = ((Builtin.len_ ts o.type #[a.eval x]).run P w).andThen fun v w => .ok (.value v) w := by
  simp [execOp, ho, resolve, invoke, builtin]

theorem sim_len (he : ER ν ρ e a.tmps) {x : Operand} {x' : O} {ts : Array TypeId} {t t' : TypeId} (ho : o.op = .call { callee := .builtin .len, args := #[x], argTypes := ts }) (h0 : ts[0]? = some t)
    (ht : P.underlying t = some (.slice t')) (hx : cO x = some x') (h : pureA F e (.len x') = some r) : Val ν ρ P w a o r := by
  have hv := cO_sim he hx
  simp only [pureA] at h
  unfold Val
  rw [run_len ho]
  split at h
  · rename_i b off n cap e1
    rw [e1] at hv
    generalize hxv : a.eval x = xv at hv
    cases hv
    rename_i pl nn cc hle hpl hnn hcap
    simp only [Option.some.injEq] at h
    subst h
    refine ⟨.int .i64 nn, by simp [Builtin.len_, h0, run_underlying ht, goInt], ?_⟩
    rw [← hnn]
    exact .i _ _
  · rename_i e1
    rw [e1] at hv
    generalize hxv : a.eval x = xv at hv
    cases hv
    simp only [Option.some.injEq] at h
    subst h
    exact ⟨.int .i64 0, by simp [Builtin.len_, h0, run_underlying ht, goInt], .i _ (.c 0)⟩
  · rename_i z e1
    rw [e1] at hv
    generalize hxv : a.eval x = xv at hv
    cases hv
    simp only [Option.some.injEq] at h
    subst h
    exact ⟨.int .i64 0, by simp [Builtin.len_, h0, run_underlying ht, goInt], .i _ (.c 0)⟩
  · cases h

theorem sim_lens (he : ER ν ρ e a.tmps) {x : Operand} {x' : O} {ts : Array TypeId} {t : TypeId} (ho : o.op = .call { callee := .builtin .len, args := #[x], argTypes := ts }) (h0 : ts[0]? = some t)
    (ht : P.underlying t = some .string) (hx : cO x = some x') (h : pureA F e (.lens x') = some r) : Val ν ρ P w a o r := by
  have hv := cO_sim he hx
  simp only [pureA] at h
  unfold Val
  rw [run_len ho]
  split at h
  · rename_i s e1
    rw [e1] at hv
    generalize hxv : a.eval x = xv at hv
    cases hv
    simp only [Option.some.injEq] at h
    subst h
    exact ⟨.int .i64 s.size, by simp [Builtin.len_, h0, run_underlying ht, goInt], .i _ (.c s.size)⟩
  · rename_i l e1
    rw [e1] at hv
    generalize hxv : a.eval x = xv at hv
    cases hv
    simp only [Option.some.injEq] at h
    subst h
    have hl : (bytesOf l).size = l.length := by simp [bytesOf, ByteArray.size]
    exact ⟨.int .i64 l.length, by simp [Builtin.len_, h0, run_underlying ht, goInt, hl], .i _ (.c l.length)⟩
  · cases h

theorem sim_lenk {x : Operand} {ts : Array TypeId} {t t' : TypeId} {n : Nat} (ho : o.op = .call { callee := .builtin .len, args := #[x], argTypes := ts }) (h0 : ts[0]? = some t)
    (ht : P.underlying t = some (.array n t')) (h : pureA F e (.lenk n) = some r) : Val ν ρ P w a o r := by
  simp only [pureA, Option.some.injEq] at h
  subst h
  unfold Val
  rw [run_len ho]
  exact ⟨.int .i64 n, by simp [Builtin.len_, h0, run_underlying ht, goInt], .i _ (.c n)⟩

/-- One place, compared. -/
theorem eqI_known (hF : F.Hold ν) {x y : AI} {t : Bool} (ht : eqI F x y = some t) : (x.val ν == y.val ν) = t := by
  unfold eqI at ht
  split at ht
  · rename_i hb
    have := AI.beq_eq _ _ hb
    subst this
    simp only [Option.some.injEq] at ht
    subst ht
    simp
  · exact cmpI_val hF _ _ _ _ ht

theorem LR.at {cs : List AV} {xs : Array Value} (hx : LR ν ρ cs xs) {o : Nat} {k : IntKind} {n : AI} (h1 : cs[o]? = some (.i k n)) : xs[o]? = some (.int k (n.val ν)) := by
  have hlt : o < xs.size := by rw [← hx.1]; exact (List.getElem?_eq_some_iff.1 h1).1
  have := hx.2 o _ xs[o] h1 (by simp [hlt])
  rw [Array.getElem?_eq_getElem hlt]
  generalize xs[o] = v at this
  cases this
  rfl

theorem eqStep {p q p' q' : Bool} {m : Option Bool} {k0 : Bool}
    (h : (match m with | some true => some (p', q') | some false => some (false, true) | none => some (false, q')) = some (p, q)) (hk : ∀ t, m = some t → k0 = t) {r' : Bool} (g2 : p' = true → r' = true) (g3 : q' = true → r' = false) :
    (p = true → (k0 && r') = true) ∧ (q = true → (k0 && r') = false) := by
  cases m with
  | none =>
    simp only [Option.some.injEq, Prod.mk.injEq] at h
    obtain ⟨rfl, rfl⟩ := h
    refine ⟨(fun h => by cases h), fun h => ?_⟩
    rw [g3 h]
    simp
  | some t =>
    have := hk t rfl
    subst this
    cases k0 with
    | true =>
      simp only [Option.some.injEq, Prod.mk.injEq] at h
      obtain ⟨rfl, rfl⟩ := h
      simpa using ⟨g2, g3⟩
    | false =>
      simp only [Option.some.injEq, Prod.mk.injEq] at h
      obtain ⟨rfl, rfl⟩ := h
      simp

theorem xor_self (k : IntKind) (x : Int) : arith .xor k x x = 0 := by
  simp only [arith, BitVec.xor_self, BitVec.toNat_zero]
  cases k <;> rfl
theorem or_zero (k : IntKind) : arith .or k 0 0 = 0 := by
  cases k <;> rfl

/-- Places, one by one. -/
theorem eqPairs_items {cs ds : List AV} {xs ys : Array Value} (hF : F.Hold ν) (hx : LR ν ρ cs xs) (hy : LR ν ρ ds ys) {e : TypeId} {k0 : IntKind} (he : P.underlying e = some (.int k0)) (dd : Nat) :
    ∀ (l : List Nat) (p q : Bool), eqPairs F cs ds l = some (p, q) → ∃ r, (Op.eqItems (dd + 1) e 1 xs ys l).run P w = .ok r w ∧ (p = true → r = true) ∧ (q = true → r = false) ∧ (r = true → (joint cs ds l).val ν = 0) := by
  intro l
  induction l with
  | nil =>
    intro p q h
    simp only [eqPairs, Option.some.injEq, Prod.mk.injEq] at h
    obtain ⟨rfl, rfl⟩ := h
    exact ⟨true, rfl, fun _ => rfl, (fun h => by cases h), fun _ => rfl⟩
  | cons o r ih =>
    intro p q h
    simp only [eqPairs] at h
    split at h
    case h_2 => cases h
    rename_i k n k' m p' q' h1 h2 h3
    split at h
    case isFalse => cases h
    rename_i hk
    subst hk
    obtain ⟨r', g1, g2, g3, g4⟩ := ih p' q' h3
    have pk : P.plainKey e = true := by simp [Program.plainKey, he]
    have eq1 := run_equalIn_int (P := P) w dd e k k0 (n.val ν) (m.val ν) he
    refine ⟨(n.val ν == m.val ν) && r', ?_, (eqStep h (fun t ht => eqI_known hF ht) g2 g3).1, (eqStep h (fun t ht => eqI_known hF ht) g2 g3).2, fun hz => ?_⟩
    rotate_left
    · simp only [Bool.and_eq_true, beq_iff_eq] at hz
      simp only [joint, h1, h2, AI.val]
      rw [g4 hz.2, hz.1, xor_self, or_zero]
    simp only [Op.eqItems, Nat.mul_one, Sem.run_bind, run_part_plain w pk (hx.at h1), run_part_plain w pk (hy.at h2), Result.andThen_ok, eq1]
    cases ht : (n.val ν == m.val ν)
    · simp
    · simpa using g1

theorem eqPairs_fields {cs ds : List AV} {xs ys : Array Value} (hF : F.Hold ν) (hx : LR ν ρ cs xs) (hy : LR ν ρ ds ys) (dd : Nat) :
    ∀ (l : List Field) (p q : Bool), (∀ f ∈ l, f.name ≠ "_" ∧ ∃ k, P.underlying f.type = some (.int k)) → eqPairs F cs ds (l.map (·.offset)) = some (p, q) → ∃ r, (Op.eqFields (dd + 1) xs ys l).run P w = .ok r w ∧ (p = true → r = true) ∧ (q = true → r = false) ∧ (r = true → (joint cs ds (l.map (·.offset))).val ν = 0) := by
  intro l
  induction l with
  | nil =>
    intro p q _ h
    simp only [List.map_nil, eqPairs, Option.some.injEq, Prod.mk.injEq] at h
    obtain ⟨rfl, rfl⟩ := h
    exact ⟨true, rfl, fun _ => rfl, (fun h => by cases h), fun _ => rfl⟩
  | cons f r ih =>
    intro p q hall h
    obtain ⟨hnm, k0, he⟩ := hall f (by simp)
    simp only [List.map_cons, eqPairs] at h
    split at h
    case h_2 => cases h
    rename_i k n k' m p' q' h1 h2 h3
    split at h
    case isFalse => cases h
    rename_i hk
    subst hk
    obtain ⟨r', g1, g2, g3, g4⟩ := ih p' q' (fun g hg => hall g (by simp [hg])) h3
    have pk : P.plainKey f.type = true := by simp [Program.plainKey, he]
    have eq1 := run_equalIn_int (P := P) w dd f.type k k0 (n.val ν) (m.val ν) he
    refine ⟨(n.val ν == m.val ν) && r', ?_, (eqStep h (fun t ht => eqI_known hF ht) g2 g3).1, (eqStep h (fun t ht => eqI_known hF ht) g2 g3).2, fun hz => ?_⟩
    rotate_left
    · simp only [Bool.and_eq_true, beq_iff_eq] at hz
      simp only [List.map_cons, joint, h1, h2, AI.val]
      rw [g4 hz.2, hz.1, xor_self, or_zero]
    simp only [Op.eqFields, hnm, ne_eq, not_false_eq_true, if_true, Sem.run_bind, run_part_plain w pk (hx.at h1), run_part_plain w pk (hy.at h2), Result.andThen_ok, eq1]
    cases ht : (n.val ν == m.val ν)
    · simp
    · simpa using g1

theorem sim_eqa (hF : F.Hold ν) (he : ER ν ρ e a.tmps) {x y : Operand} {x' y' : O} {t t2 : TypeId} {d : TypeDesc} {neg : Bool} {l : List Nat} (ho : o.op = .binOp (if neg then .neq else .eql) t x y t2) (ht : P.underlying t = some d)
    (hl : eqOffs P t d = some l) (hx : cO x = some x') (hy : cO y = some y') (h : pureA F e (.eqa neg l x' y') = some r) : Val ν ρ P w a o r := by
  have hv := cO_sim he hx
  have hu := cO_sim he hy
  simp only [pureA, Option.map_eq_some_iff] at h
  obtain ⟨b, hb, rfl⟩ := h
  unfold eqA at hb
  split at hb
  case h_2 => cases hb
  rename_i cs ds e1 e2
  rw [e1] at hv
  rw [e2] at hu
  generalize hxv : a.eval x = xv at hv
  generalize hyv : a.eval y = yv at hu
  cases hv with | ag _ xs hs1 hs2 =>
  cases hu with | ag _ ys hs3 hs4 =>
  have key : P.eqGuardType P.depth t = false ∧ ∃ r : Bool, (Op.equalIn 10000 t (.agg xs) (.agg ys)).run P w = .ok r w ∧ r = b := by
    have fin : ∀ (p q r : Bool), (match (some (p, q) : Option (Bool × Bool)) with | some (true, _) => some true | some (false, true) => some false | some (false, false) => (match findCmp F.cmp .neq (joint cs ds l) (.c 0) with | some true => some false | _ => none) | _ => none) = some b → (p = true → r = true) → (q = true → r = false) → (r = true → (joint cs ds l).val ν = 0) → r = b := by
      intro p q r h1 h2 h3 h4
      cases p <;> cases q
      · simp only at h1
        split at h1
        · rename_i hf
          have h5 := findCmp_val (ν := ν) _ _ _ _ _ hF.cmp hf
          cases r
          · simpa using h1
          · have h6 := h4 rfl
            simp only [compare, AI.val, h6] at h5
            simp at h5
        · cases h1
      all_goals simp_all
    cases hpq : eqPairs F cs ds l with
    | none => rw [hpq] at hb; simp at hb
    | some pq =>
      obtain ⟨p, q⟩ := pq
      rw [hpq] at hb
      unfold eqOffs at hl
      split at hl
      · rename_i n e'
        split at hl
        · rename_i hc
          simp only [Option.some.injEq] at hl
          subst hl
          simp only [Bool.and_eq_true, Bool.not_eq_true'] at hc
          obtain ⟨⟨c1, c2⟩, c3⟩ := hc
          have c1' : ∃ k0, P.underlying e' = some (.int k0) := by
            unfold intType at c1
            split at c1
            · rename_i k0 hk; exact ⟨k0, hk⟩
            · cases c1
          obtain ⟨k0, hk0⟩ := c1'
          have c2' : ∃ i, P.info? e' = some i ∧ i.size = 1 := by
            unfold oneType at c2
            split at c2
            · rename_i i hi; exact ⟨i, hi, Nat.eq_of_beq_eq_true c2⟩
            · cases c2
          obtain ⟨i, hi, hi1⟩ := c2'
          have hce : P.cellsOf e' = 1 := by simp [Program.cellsOf, hi, hi1]
          obtain ⟨r, g1, g2, g3, g4⟩ := eqPairs_items (P := P) (w := w) hF ⟨hs1, hs2⟩ ⟨hs3, hs4⟩ hk0 9998 _ p q hpq
          exact ⟨c3, r, by rw [run_equalIn_array w 9999 xs ys ht hi, hce]; exact g1, fin p q r hb g2 g3 g4⟩
        · cases hl
      · rename_i fs
        split at hl
        · rename_i hc
          simp only [Option.some.injEq] at hl
          subst hl
          simp only [Bool.and_eq_true, Bool.not_eq_true'] at hc
          obtain ⟨⟨c1, c2⟩, c3⟩ := hc
          have hall : ∀ f ∈ fs.toList, f.name ≠ "_" ∧ ∃ k, P.underlying f.type = some (.int k) := by
            intro f hf
            have := List.all_eq_true.1 c1 f hf
            simp only [Bool.and_eq_true, bne_iff_ne, ne_eq] at this
            refine ⟨this.1, ?_⟩
            have h2 := this.2
            unfold intType at h2
            split at h2
            · rename_i k hk; exact ⟨k, hk⟩
            · cases h2
          have hfs : P.fieldsOf t = fs := by simp [Program.fieldsOf, ht]
          obtain ⟨r, g1, g2, g3, g4⟩ := eqPairs_fields (P := P) (w := w) hF ⟨hs1, hs2⟩ ⟨hs3, hs4⟩ 9998 _ p q hall hpq
          exact ⟨c3, r, by rw [run_equalIn_struct w 9999 t xs ys (by rw [hfs]; exact ht) c2, hfs]; exact g1, fin p q r hb g2 g3 g4⟩
        · cases hl
      · cases hl
  obtain ⟨hg, r, hr, rfl⟩ := key
  refine ⟨.bool (r != neg), ?_, .b _⟩
  cases neg
  · simp only [execOp, ho, hxv, hyv, Sem.run_bind, Bool.false_eq_true, if_false, run_eqGuard_agg w _ t x y xs ys hg, Result.andThen_ok, run_eql_struct, hr]
    simp
  · simp only [execOp, ho, hxv, hyv, Sem.run_bind, if_true, run_eqGuard_agg w _ t x y xs ys hg, Result.andThen_ok, run_neq_struct, hr]
    simp

/-- ALL OPERATIONS THAT NEED NO HEAP. -/
theorem pure_sim (hF : F.Hold ν) (he : ER ν ρ e a.tmps) (hc : cOp P o = some k) (hp : k.isPure = true) (h : pureA F e k = some r) : Val ν ρ P w a o r := by
  unfold cOp at hc
  split at hc
  · rename_i x ho
    simp only [Option.map_eq_some_iff] at hc
    obtain ⟨x', hx, rfl⟩ := hc
    exact sim_mv he (.inl ho) hx h
  · rename_i x ho
    simp only [Option.map_eq_some_iff] at hc
    obtain ⟨x', hx, rfl⟩ := hc
    exact sim_mv he (.inr ho) hx h
  · rename_i c x y ho
    simp only [Option.map_eq_some_iff, Option.bind_eq_some_iff] at hc
    obtain ⟨c', h1, x', h2, y', h3, rfl⟩ := hc
    exact sim_pick he ho h1 h2 h3 h
  · simp only [Option.map_eq_some_iff, Option.bind_eq_some_iff] at hc
    obtain ⟨_, _, _, _, rfl⟩ := hc
    cases hp
  · simp only [Option.map_eq_some_iff] at hc
    obtain ⟨_, _, rfl⟩ := hc
    cases hp
  · rename_i t ps ho
    split at hc
    · rename_i fields hu
      simp only [Option.map_eq_some_iff, Option.bind_eq_some_iff] at hc
      obtain ⟨zv, h1, z, h2, pl, h3, l, h4, rfl⟩ := hc
      exact sim_bld he ho h1 h2 h4 (.inl ⟨fields, pl, hu, h3, rfl⟩) h
    · rename_i n t' hu
      simp only [Option.map_eq_some_iff, Option.bind_eq_some_iff] at hc
      obtain ⟨zv, h1, z, h2, s, h3, l, h4, rfl⟩ := hc
      exact sim_bld he ho h1 h2 h4 (.inr ⟨n, t', s, hu, h3, rfl⟩) h
    · cases hc
  · split at hc
    · simp only [Option.map_eq_some_iff, Option.bind_eq_some_iff] at hc
      obtain ⟨_, _, _, _, _, _, _, _, rfl⟩ := hc
      cases hp
    · cases hc
  · simp only [Option.map_eq_some_iff, Option.bind_eq_some_iff] at hc
    obtain ⟨_, _, _, _, rfl⟩ := hc
    cases hp
  · simp only [Option.map_eq_some_iff, Option.bind_eq_some_iff] at hc
    obtain ⟨_, _, _, _, _, _, rfl⟩ := hc
    cases hp
  · rename_i x ho
    simp only [Option.map_eq_some_iff] at hc
    obtain ⟨x', hx, rfl⟩ := hc
    exact sim_nck he ho hx h
  · rename_i op t x y t2 ho
    simp only [Option.bind_eq_some_iff] at hc
    obtain ⟨x', hx, y', hy, hc⟩ := hc
    split at hc
    · simp only [Option.some.injEq] at hc
      subst hc
      exact sim_bin hF he ho hx hy h
    · rename_i hu
      split at hc
      · simp only [Option.some.injEq] at hc
        subst hc
        exact sim_eqb (neg := false) he ho hu hx hy h
      · simp only [Option.some.injEq] at hc
        subst hc
        exact sim_eqb (neg := true) he ho hu hx hy h
      · cases hc
    · rename_i d _ _ hu
      split at hc
      · rename_i hcc
        split at hc
        · simp only [Option.map_eq_some_iff] at hc
          obtain ⟨kind, hk, rfl⟩ := hc
          exact sim_eqn (neg := false) he ho hu hk hcc hx hy h
        · simp only [Option.map_eq_some_iff] at hc
          obtain ⟨kind, hk, rfl⟩ := hc
          exact sim_eqn (neg := true) he ho hu hk hcc hx hy h
        · cases hc
      · split at hc
        · simp only [Option.map_eq_some_iff] at hc
          obtain ⟨l, hk, rfl⟩ := hc
          exact sim_eqa (neg := false) hF he ho hu hk hx hy h
        · simp only [Option.map_eq_some_iff] at hc
          obtain ⟨l, hk, rfl⟩ := hc
          exact sim_eqa (neg := true) hF he ho hu hk hx hy h
        · cases hc
    · cases hc
  · rename_i op t x ho
    simp only [Option.map_eq_some_iff] at hc
    obtain ⟨x', hx, rfl⟩ := hc
    exact sim_una hF he ho hx h
  · rename_i s t x ho
    simp only [Option.bind_eq_some_iff] at hc
    obtain ⟨x', hx, hc⟩ := hc
    split at hc
    · rename_i k0 k1 hu1 hu2
      simp only [Option.some.injEq] at hc
      subst hc
      exact sim_cv hF he ho hu1 hu2 hx h
    · split at hc
      · simp only [Option.bind_eq_some_iff] at hc
        obtain ⟨_, _, hc⟩ := hc
        split at hc
        · simp only [Option.some.injEq] at hc
          subst hc
          cases hp
        · cases hc
      · cases hc
    · cases hc
  · simp only [Option.some.injEq] at hc
    subst hc
    cases hp
  · simp only [Option.bind_eq_some_iff] at hc
    obtain ⟨_, _, _, _, hc⟩ := hc
    split at hc
    · split at hc
      · simp only [Option.map_eq_some_iff] at hc
        obtain ⟨_, _, rfl⟩ := hc
        cases hp
      · simp only [Option.map_eq_some_iff] at hc
        obtain ⟨_, _, rfl⟩ := hc
        cases hp
      · cases hc
    · cases hc
  · simp only [Option.bind_eq_some_iff] at hc
    obtain ⟨_, _, _, _, _, _, hc⟩ := hc
    split at hc
    · split at hc
      · simp only [Option.some.injEq] at hc
        subst hc
        cases hp
      · simp only [Option.some.injEq] at hc
        subst hc
        cases hp
      · cases hc
    · cases hc
  · rename_i t x ho
    simp only [Option.bind_eq_some_iff] at hc
    obtain ⟨x', hx, hc⟩ := hc
    split at hc
    · cases hc
    · rename_i d hd hu
      simp only [Option.some.injEq] at hc
      subst hc
      exact sim_ifc he ho hu hd hx h
    · cases hc
  · rename_i f first caps ho
    split at hc
    · rename_i hf
      simp only [Option.map_eq_some_iff] at hc
      obtain ⟨l, hl, rfl⟩ := hc
      have hf' : first = #[] := by simpa using hf
      subst hf'
      exact sim_mkf he ho hl h
    · cases hc
  · split at hc
    · simp only [Option.map_eq_some_iff, Option.bind_eq_some_iff] at hc
      obtain ⟨_, _, _, _, _, _, _, _, _, _, rfl⟩ := hc
      cases hp
    · cases hc
  · rename_i t x lo hi mx ho
    simp only [Option.bind_eq_some_iff] at hc
    obtain ⟨x', hx, lo', h1, hi', h2, mx', h3, hc⟩ := hc
    split at hc
    · rename_i t' hu
      simp only [Option.map_eq_some_iff] at hc
      obtain ⟨s, hs, rfl⟩ := hc
      exact sim_slc he ho hu hs hx h1 h2 h3 h
    · rename_i n t' hu
      simp only [Option.map_eq_some_iff] at hc
      obtain ⟨s, hs, rfl⟩ := hc
      exact sim_sla he ho hu hs hx h1 h2 h3 h
    · cases hc
  · rename_i t x i ho
    simp only [Option.bind_eq_some_iff] at hc
    obtain ⟨x', hx, hc⟩ := hc
    split at hc
    · rename_i fs hu
      simp only [Option.bind_eq_some_iff] at hc
      obtain ⟨f, hf, s, hs, hc⟩ := hc
      split at hc
      · cases hc
      · rename_i hs0
        simp only [Option.some.injEq] at hc
        subst hc
        exact sim_fa he ho hu hf hs hs0 hx h
    · cases hc
  · rename_i t x i ho
    simp only [Option.bind_eq_some_iff] at hc
    obtain ⟨x', hx, hc⟩ := hc
    split at hc
    · rename_i fs hu
      simp only [Option.bind_eq_some_iff, Option.map_eq_some_iff] at hc
      obtain ⟨f, hf, s, hs, rfl⟩ := hc
      exact sim_fl he ho hu hf hs hx h
    · cases hc
  · rename_i t x i ho
    simp only [Option.bind_eq_some_iff] at hc
    obtain ⟨x', hx, i', hi, hc⟩ := hc
    split at hc
    · rename_i t' hu
      simp only [Option.map_eq_some_iff] at hc
      obtain ⟨s, hs, rfl⟩ := hc
      exact sim_ia he ho (.inl ⟨rfl, hu⟩) hs hx hi h
    · rename_i n t' hu
      simp only [Option.map_eq_some_iff] at hc
      obtain ⟨s, hs, rfl⟩ := hc
      exact sim_ia he ho (.inr ⟨n, rfl, hu⟩) hs hx hi h
    · cases hc
  · rename_i t x i ho
    simp only [Option.bind_eq_some_iff] at hc
    obtain ⟨x', hx, i', hi, hc⟩ := hc
    split at hc
    · rename_i n t' hu
      simp only [Option.bind_eq_some_iff, Option.map_eq_some_iff] at hc
      obtain ⟨s, hs, m, hm, rfl⟩ := hc
      exact sim_ix he ho hu hs hm hx hi h
    · cases hc
  · rename_i x t0 t ok ho
    simp only [Option.bind_eq_some_iff] at hc
    obtain ⟨x', hx, hc⟩ := hc
    split at hc
    · cases hc
    · rename_i d hd hu
      simp only [Option.map_eq_some_iff] at hc
      obtain ⟨z, hz, rfl⟩ := hc
      exact sim_tas he ho hu hd hz hx h
    · cases hc
  · rename_i x i ho
    simp only [Option.map_eq_some_iff] at hc
    obtain ⟨x', hx, rfl⟩ := hc
    exact sim_ext he ho hx h
  · rename_i c ho
    split at hc
    · simp only [Option.map_eq_some_iff] at hc
      obtain ⟨_, _, rfl⟩ := hc
      cases hp
    · simp only [Option.bind_eq_some_iff, Option.map_eq_some_iff] at hc
      obtain ⟨_, _, _, _, rfl⟩ := hc
      cases hp
    · rename_i b hcal
      simp only [Option.bind_eq_some_iff] at hc
      obtain ⟨l, hl, hc⟩ := hc
      obtain ⟨g1, g2⟩ := mapO_spec _ _ _ hl
      obtain ⟨callee, args, ats⟩ := c
      simp only at hcal hl g1 g2 hc
      subst hcal
      have two : ∀ x y, l = [x, y] → ∃ p q, args = #[p, q] ∧ cO p = some x ∧ cO q = some y := by
        intro x y hxy
        subst hxy
        have hs : args.size = 2 := by simpa using g1
        refine ⟨args[0], args[1], ?_, g2 0 _ _ (by simp [hs]) rfl, g2 1 _ _ (by simp [hs]) rfl⟩
        apply Array.ext
        · simp [hs]
        · intro i h1 h2
          match i, h1 with
          | 0, _ => rfl
          | 1, _ => rfl
          | i + 2, h1 => omega
      have one : ∀ x, l = [x] → ∃ p, args = #[p] ∧ cO p = some x := by
        intro x hxy
        subst hxy
        have hs : args.size = 1 := by simpa using g1
        refine ⟨args[0], ?_, g2 0 _ _ (by simp [hs]) rfl⟩
        apply Array.ext
        · simp [hs]
        · intro i h1 h2
          match i, h1 with
          | 0, _ => rfl
          | i + 1, h1 => omega
      split at hc
      · rename_i x
        obtain ⟨p, rfl, hp1⟩ := one x rfl
        simp only [Option.bind_eq_some_iff] at hc
        obtain ⟨t, h0, hc⟩ := hc
        split at hc
        · rename_i t' hu
          simp only [Option.some.injEq] at hc
          subst hc
          exact sim_len he ho h0 hu hp1 h
        · rename_i hu
          simp only [Option.some.injEq] at hc
          subst hc
          exact sim_lens he ho h0 hu hp1 h
        · rename_i n t' hu
          simp only [Option.some.injEq] at hc
          subst hc
          exact sim_lenk ho h0 hu h
        · cases hc
      · rename_i x y
        obtain ⟨p, q, rfl, hp1, hp2⟩ := two x y rfl
        simp only [Option.some.injEq] at hc
        subst hc
        exact sim_mm (mst := false) hF he ho hp1 hp2 h
      · rename_i x y
        obtain ⟨p, q, rfl, hp1, hp2⟩ := two x y rfl
        simp only [Option.some.injEq] at hc
        subst hc
        exact sim_mm (mst := true) hF he ho hp1 hp2 h
      · simp only [Option.bind_eq_some_iff] at hc
        obtain ⟨_, _, _, _, hc⟩ := hc
        split at hc
        · simp only [Option.bind_eq_some_iff] at hc
          obtain ⟨_, _, _, _, _, _, hc⟩ := hc
          split at hc
          · simp only [Option.some.injEq] at hc
            subst hc
            cases hp
          · cases hc
        · cases hc
      · simp only [Option.bind_eq_some_iff] at hc
        obtain ⟨_, _, hc⟩ := hc
        split at hc
        · simp only [Option.map_eq_some_iff] at hc
          obtain ⟨_, _, rfl⟩ := hc
          cases hp
        · cases hc
      · cases hc
    · cases hc
  · cases hc

end
end Go.Sh
