/-
  THE SHADOW MACHINE: maps, and strings out of bytes. Own work.
-/
import Derived.Test.YtnlhpiieihnbiaaDoorShH
import Derived.MapFrom
import Derived.Laws.BytesString
namespace Go.Sh
open Go.MapKept

/-! Strings. -/

theorem bytes_list (l : List Nat) : (bytesOf l).data.toList = l.map UInt8.ofNat := by simp [bytesOf]
theorem eqL_eq : ∀ (a b : List Nat), eqL a b = decide (a = b) := by
  intro a
  induction a with
  | nil => intro b; cases b <;> simp [eqL]
  | cons x r ih =>
    intro b
    cases b with
    | nil => simp [eqL]
    | cons y s =>
      simp only [eqL, ih]
      by_cases h : x = y
      · subst h; simp
      · have : Nat.beq x y = false := by rw [Bool.eq_false_iff]; intro hh; exact h (Nat.eq_of_beq_eq_true hh)
        simp [this, h]
theorem ofNat_inj {a b : List Nat} (ha : ∀ x ∈ a, x < 256) (hb : ∀ x ∈ b, x < 256) (h : a.map UInt8.ofNat = b.map UInt8.ofNat) : a = b := by
  induction a generalizing b with
  | nil => cases b with | nil => rfl | cons _ _ => simp at h
  | cons x r ih =>
    cases b with
    | nil => simp at h
    | cons y s =>
      simp only [List.map_cons, List.cons.injEq] at h
      have h1 := congrArg UInt8.toNat h.1
      have hx := ha x (by simp)
      have hy := hb y (by simp)
      simp only [UInt8.toNat_ofNat'] at h1
      rw [ih (fun z hz => ha z (by simp [hz])) (fun z hz => hb z (by simp [hz])) h.2]
      have : x = y := by omega
      rw [this]
theorem bytes_inj {a b : List Nat} (ha : ∀ x ∈ a, x < 256) (hb : ∀ x ∈ b, x < 256) (h : bytesOf a = bytesOf b) : a = b :=
  ofNat_inj ha hb (by rw [← bytes_list, ← bytes_list, h])

section
variable {ν : Nat → Int} {ρ : Emb} {F : Facts} {P : Program} {w : World} {H : AH} {a : Act} {o : Oper} {e : Tr AV} {r : AV} {H' : AH} {call : CallFn}

/-! Keys. -/

def KeyDesc (s : Bool) (d : TypeDesc) : Prop := if s then d = .string else ∃ k, d = .int k

theorem keyEq_sim {s : Bool} {x y : AV} {t : Bool} {vx vy : Value} {d : TypeDesc} (hd : KeyDesc s d) (h : keyEq s x y = some t) (hx : VR ν ρ x vx) (hy : VR ν ρ y vy) :
    Instr.sameNow d vx vy = some t ∧ (t = true → vy = vx ∧ Instr.sameBits 10000 vx vx = true) := by
  unfold keyEq at h
  split at h
  · simp only [Option.some.injEq] at h
    subst h
    cases hx
    cases hy
    rename_i h1 h2
    have hd : d = .string := hd
    subst hd
    simp only [Instr.sameNow, Option.some.injEq, eqL_eq]
    refine ⟨?_, fun h => ?_⟩
    · rw [Bool.eq_iff_iff, MapKept.bytes_beq, decide_eq_true_iff]
      exact ⟨bytes_inj h1 h2, fun h => by rw [h]⟩
    · rw [decide_eq_true_iff] at h
      rw [h]
      exact ⟨rfl, by simp only [Instr.sameBits]; rw [MapKept.bytes_beq]⟩
  · split at h
    · rename_i hk
      simp only [Option.some.injEq] at h
      subst h
      subst hk
      cases hx
      cases hy
      obtain ⟨k0, rfl⟩ : ∃ k, d = .int k := hd
      refine ⟨by simp [Instr.sameNow, AI.val], fun h => ?_⟩
      simp only [beq_iff_eq] at h
      simp [AI.val, h, Instr.sameBits]
    · cases h
  · cases h

theorem findA_sim {s : Bool} {x : AV} {vx : Value} {d : TypeDesc} (hd : KeyDesc s d) (hx : VR ν ρ x vx) : ∀ (cs : List AV) (es : List MapEntry) (i : Nat) (q : Option (Nat × AV)), MapR ν ρ cs es → findA s x cs i = some q →
    match q with
    | none => Instr.findNow d vx es i = some none
    | some (j, v) => ∃ v', Instr.findNow d vx es i = some (some (j, v')) ∧ VR ν ρ v v' ∧ ∃ n en, j = i + n ∧ es[n]? = some en ∧ en.key = vx ∧ Instr.sameBits 10000 vx vx = true
  | [], [], i, q, _, h => by
    simp only [findA, Option.some.injEq] at h
    subst h
    rfl
  | a :: v :: r, en :: t, i, q, hm, h => by
    obtain ⟨h1, h2, h3⟩ := hm
    simp only [findA] at h
    split at h
    · rename_i hk
      obtain ⟨g1, g2⟩ := keyEq_sim hd hk hx h1
      simp only [Option.some.injEq] at h
      subst h
      exact ⟨en.val, by simp [Instr.findNow, g1], h2, 0, en, rfl, rfl, (g2 rfl).1, (g2 rfl).2⟩
    · rename_i hk
      obtain ⟨g1, _⟩ := keyEq_sim hd hk hx h1
      have ih := findA_sim hd hx r t (i + 1) q h3 h
      cases q with
      | none => simpa [Instr.findNow, g1] using ih
      | some p =>
        obtain ⟨j, v0⟩ := p
        obtain ⟨v', k1, k2, n, e', k3, k4, k5⟩ := ih
        exact ⟨v', by simpa [Instr.findNow, g1] using k1, k2, n + 1, e', by omega, by simpa using k4, k5⟩
    · cases h
  | [], _ :: _, _, _, h, _ => h.elim
  | [_], [], _, _, h, _ => h.elim
  | [_], _ :: _, _, _, h, _ => h.elim
  | _ :: _ :: _, [], _, _, h, _ => h.elim

theorem run_ck {s : Bool} {d : TypeDesc} (hd : KeyDesc s d) {kt : TypeId} (hu : P.underlying kt = some d) (em : Bool) (n : Nat) (v : Value) : (Instr.checkKey em (n + 1) kt v).run P w = .ok () w := by
  unfold Instr.checkKey
  simp only [Sem.run_bind, run_underlying hu, Result.andThen]
  cases s
  · obtain ⟨k0, rfl⟩ : ∃ k, d = .int k := hd
    rfl
  · have hd : d = .string := hd
    subst hd
    rfl

theorem run_stays {v : Value} (h : Instr.sameBits 10000 v v = true) : (Instr.keyThatStays v v).run P w = .ok v w := by
  unfold Instr.keyThatStays
  rw [if_pos h]
  rfl

theorem MapR.push {cs : List AV} {es : List MapEntry} {k v : AV} {en : MapEntry} (h : MapR ν ρ cs es) (hk : VR ν ρ k en.key) (hv : VR ν ρ v en.val) : MapR ν ρ (cs ++ [k, v]) (es ++ [en]) := by
  match cs, es, h with
  | [], [], _ => exact ⟨hk, hv, trivial⟩
  | a :: b :: r, e :: t, h => exact ⟨h.1, h.2.1, MapR.push h.2.2 hk hv⟩
  | [], _ :: _, h => exact h.elim
  | [_], [], h => exact h.elim
  | [_], _ :: _, h => exact h.elim
  | _ :: _ :: _, [], h => exact h.elim

theorem MapR.set {cs : List AV} {es : List MapEntry} {v : AV} {vv kv : Value} {n : Nat} {en : MapEntry} (h : MapR ν ρ cs es) (hn : es[n]? = some en) (hk : en.key = kv) (hv : VR ν ρ v vv) :
    MapR ν ρ (cs.set (2 * n + 1) v) (es.modify n fun e => { e with key := kv, val := vv }) := by
  match cs, es, h, n with
  | a :: b :: r, e :: t, h, 0 =>
    simp only [List.getElem?_cons_zero, Option.some.injEq] at hn
    subst hn
    subst hk
    exact ⟨h.1, hv, h.2.2⟩
  | a :: b :: r, e :: t, h, n + 1 =>
    have := MapR.set h.2.2 (by simpa using hn) hk hv
    rw [show 2 * (n + 1) + 1 = (2 * n + 1) + 1 + 1 by omega]
    exact ⟨h.1, h.2.1, this⟩
  | [], [], _, _ => simp at hn
  | [], _ :: _, h, _ => exact h.elim
  | [_], [], h, _ => exact h.elim
  | [_], _ :: _, h, _ => exact h.elim
  | _ :: _ :: _, [], h, _ => exact h.elim

/-! The operations. -/

theorem sim_mkm (hh : HR ν ρ H w) {t : TypeId} (ho : o.op = .makeMap t none) (hfr : Fresh ρ H H') (h : opA F call e H .mkm = some (r, H')) : Eff ν ρ P H w a o r H' := by
  simp only [opA, Option.map_eq_some_iff, Prod.mk.injEq] at h
  obtain ⟨⟨b, H1⟩, hal, rfl, rfl⟩ := h
  obtain ⟨a1, a2, _⟩ := AH.alloc_spec hal
  have a3 : H1.next = H.next + 1 := a2
  have hb : ρ b = none := hfr b (by omega) (by show b < H1.next; omega)
  obtain ⟨h1, h2⟩ := HR.freshO (tot := 0) (ob := .map #[] 0) hh hal hb ⟨fun hq => (hq rfl).elim, fun _ => ⟨#[], 0, by show (w.heap.push _)[w.heap.size]? = _; simp, trivial⟩⟩
  refine ⟨.value (.map (some w.heap.size)), _, _, _, ?_, .inl rfl, .mp b _ (Emb.at_same hb), h1, h2⟩
  simp [execOp, ho, Instr.makeMap]

theorem tup2 {p q : AV} {vp vq : Value} (hp : VR ν ρ p vp) (hq : VR ν ρ q vq) : VR ν ρ (.tp [p, q]) (.tuple #[vp, vq]) := by
  refine .tp _ _ rfl fun j y z hy hz => ?_
  match j with
  | 0 => simp at hy hz; subst hy; subst hz; exact hp
  | 1 => simp at hy hz; subst hy; subst hz; exact hq
  | j + 2 => simp at hy

theorem sim_lku (hh : HR ν ρ H w) (he : ER ν ρ e a.tmps) {x y : Operand} {x' y' : O} {t kt et : TypeId} {s ok : Bool} {z : AV} {d : TypeDesc} (ho : o.op = .lookup t x y ok) (hu : P.underlying t = some (.map kt et)) (hk : P.underlying kt = some d) (hd : KeyDesc s d)
    (hz : cZero P et = some z) (hx : cO x = some x') (hy : cO y = some y') (h : opA F call e H (.lku s z ok x' y') = some (r, H')) : Eff ν ρ P H w a o r H' := by
  have hxv := cO_sim he hx
  have hyv := cO_sim he hy
  obtain ⟨vz, z1, z2, _⟩ := cZero_spec (w := w) (ν := ν) (ρ := ρ) hz
  have pack : ∀ v vv, VR ν ρ v vv → (if ok then AV.tp [v, .b true] else v) = r → VR ν ρ r (if ok then .tuple #[vv, .bool true] else vv) := by
    intro v vv hv hr
    subst hr
    cases ok
    · exact hv
    · exact tup2 hv (.b _)
  have packz : (if ok then AV.tp [z, .b false] else z) = r → VR ν ρ r (if ok then .tuple #[vz, .bool false] else vz) := by
    intro hr
    subst hr
    cases ok
    · exact z2
    · exact tup2 z2 (.b _)
  simp only [opA] at h
  split at h
  · rename_i e1
    rw [e1] at hxv
    generalize hq : a.eval x = xv at hxv
    cases hxv
    simp only [Option.some.injEq, Prod.mk.injEq] at h
    obtain ⟨h, rfl⟩ := h
    have hf : Instr.findNow d (a.eval y) ([] : List MapEntry) 0 = some none := rfl
    refine ⟨.value (if ok then .tuple #[vz, .bool false] else vz), _, w, ρ, ?_, .inl rfl, packz h, hh, Stp.refl _ _ _⟩
    simp [execOp, ho, hq, Instr.lookup, run_underlying hu, run_ck hd hk, run_findKey hk hf, z1]
  · rename_i b e1
    rw [e1] at hxv
    generalize hq : a.eval x = xv at hxv
    cases hxv
    rename_i pl hpl
    split at h
    · rename_i bb hbb
      split at h
      · rename_i hmb
        obtain ⟨es, clock, m1, m2⟩ := (hh.find hbb hpl).map (Nat.eq_of_beq_eq_true hmb)
        split at h
        · rename_i j v hf
          obtain ⟨v', f1, f2, _⟩ := findA_sim hd hyv _ _ _ _ m2 hf
          simp only [Option.some.injEq, Prod.mk.injEq] at h
          obtain ⟨h, rfl⟩ := h
          refine ⟨.value (if ok then .tuple #[v', .bool true] else v'), _, w, ρ, ?_, .inl rfl, pack v v' f2 h, hh, Stp.refl _ _ _⟩
          simp [execOp, ho, hq, Instr.lookup, run_underlying hu, run_getObj_map m1, run_ck hd hk, run_findKey hk f1]
        · rename_i hf
          have f1 := findA_sim hd hyv _ _ _ _ m2 hf
          simp only [Option.some.injEq, Prod.mk.injEq] at h
          obtain ⟨h, rfl⟩ := h
          refine ⟨.value (if ok then .tuple #[vz, .bool false] else vz), _, w, ρ, ?_, .inl rfl, packz h, hh, Stp.refl _ _ _⟩
          simp [execOp, ho, hq, Instr.lookup, run_underlying hu, run_getObj_map m1, run_ck hd hk, run_findKey hk f1, z1]
        · cases h
      · cases h
    · cases h
  · cases h

/-- A map is laid anew. -/
theorem map_lay (hh : HR ν ρ H w) {b : Nat} {x : ABlk} {pl : Pl} {cs : List AV} {es es' : Array MapEntry} {c c' : Nat} (hx : H.get b = some x) (hp : ρ b = some pl) (hm : x.elem = mapTag) (hw : w.heap[pl.cb]? = some (.map es c))
    (h : H.lay b (some { x with cells := cs }) = some H') (hr : MapR ν ρ cs es'.toList) :
    HR ν ρ H' { w with heap := w.heap.setIfInBounds pl.cb (.map es' c') } ∧ Stp ρ H w ρ H' { w with heap := w.heap.setIfInBounds pl.cb (.map es' c') } := by
  obtain ⟨y, hy, ho, n1, n2, n3, n4⟩ := AH.lay_spec h
  rw [hx] at hy
  cases hy
  have hget := AH.lay_get h
  obtain ⟨s1, s2⟩ := heap_set (o' := .map es' c') hw
  have tr : ∀ j z, H'.get j = some z → ∃ z0, H.get j = some z0 ∧ (z.own = true → z0.own = true) := by
    intro j z hz
    rw [hget j] at hz
    split at hz
    · rename_i ej; subst ej; exact ⟨x, hx, fun _ => ho⟩
    · exact ⟨z, hz, id⟩
  refine ⟨⟨fun j z hz => ?_, fun j j' z z' q q' hne hz hz' hzo hq hq' => ?_⟩, ⟨Emb.le_refl _, fun _ p q => (q p).elim, by simp, rfl, rfl, rfl, fun cb _ hno => s2 cb (fun ecb => hno ⟨b, x, pl, hx, ho, hp, ecb.symm⟩), fun cb _ hoo => ?_, fun _ _ h k => by rw [h] at k; cases k⟩⟩
  · rw [hget j] at hz
    split at hz
    · rename_i ej
      subst ej
      cases hz
      exact ⟨pl, hp, ⟨fun hq => (hq hm).elim, fun _ => ⟨es', c', s1, hr⟩⟩⟩
    · rename_i ej
      obtain ⟨q, h1, h2⟩ := hh.blk j z hz
      exact ⟨q, h1, h2.keep (Emb.le_refl _) (s2 q.cb (fun ecb => hh.apart b j x z pl q (fun hq => ej hq.symm) hx hz ho hp h1 ecb.symm))⟩
  · obtain ⟨y0, hy0, hyo⟩ := tr j z hz
    obtain ⟨y1, hy1, _⟩ := tr j' z' hz'
    exact hh.apart j j' y0 y1 q q' hne hy0 hy1 (hyo hzo) hq hq'
  · obtain ⟨j, z, q, h1, h2, h3, h4⟩ := hoo
    obtain ⟨z0, g1, g2⟩ := tr j z h1
    exact ⟨j, z0, q, g1, g2 h2, h3, h4⟩

theorem sim_mup (hh : HR ν ρ H w) (he : ER ν ρ e a.tmps) {x y v : Operand} {x' y' v' : O} {t kt et : TypeId} {s : Bool} {d : TypeDesc} (ho : o.op = .mapUpdate t x y v) (hu : P.underlying t = some (.map kt et)) (hk : P.underlying kt = some d) (hd : KeyDesc s d)
    (hx : cO x = some x') (hy : cO y = some y') (hv : cO v = some v') (h : opA F call e H (.mup s x' y' v') = some (r, H')) : Eff ν ρ P H w a o r H' := by
  have hxv := cO_sim he hx
  have hyv := cO_sim he hy
  have hvv := cO_sim he hv
  simp only [opA] at h
  split at h
  · rename_i b e1
    rw [e1] at hxv
    generalize hq : a.eval x = xv at hxv
    cases hxv
    rename_i pl hpl
    split at h
    · rename_i bb hbb
      split at h
      · rename_i hmb
        have hmb := Nat.eq_of_beq_eq_true hmb
        obtain ⟨es, clock, m1, m2⟩ := (hh.find hbb hpl).map hmb
        split at h
        · rename_i j u0 hf
          obtain ⟨u', f1, f2, n, en, rfl, f3, f4, f5⟩ := findA_sim hd hyv _ _ _ _ m2 hf
          simp only [Option.map_eq_some_iff, Prod.mk.injEq] at h
          obtain ⟨H1, hl, rfl, rfl⟩ := h
          simp only [Nat.zero_add] at hl f1
          have hes : es[n]? = some en := by simpa using f3
          have hr : MapR ν ρ (bb.cells.set (2 * n + 1) (v'.ev e)) (es.modify n fun e => { e with key := a.eval y, val := a.eval v }).toList := by
            rw [Array.toList_modify]
            exact MapR.set m2 f3 f4 hvv
          obtain ⟨g1, g2⟩ := map_lay (c' := clock) hh hbb hpl hmb m1 hl hr
          refine ⟨.skip, undef, _, ρ, ?_, .inr ⟨rfl, rfl⟩, .u _, g1, g2⟩
          simp [execOp, ho, hq, Instr.mapUpdate, run_underlying hu, run_getObj_map m1, run_ck hd hk, run_findKey hk f1, hes, f4, run_stays f5, run_setObj_map _ m1]
        · rename_i hf
          have f1 := findA_sim hd hyv _ _ _ _ m2 hf
          simp only [Option.map_eq_some_iff, Prod.mk.injEq] at h
          obtain ⟨H1, hl, rfl, rfl⟩ := h
          have hr : MapR ν ρ (bb.cells ++ [y'.ev e, v'.ev e]) (es.push { key := a.eval y, val := a.eval v, born := clock }).toList := by
            rw [Array.toList_push]
            exact MapR.push m2 hyv hvv
          obtain ⟨g1, g2⟩ := map_lay (c' := clock + 1) hh hbb hpl hmb m1 hl hr
          refine ⟨.skip, undef, _, ρ, ?_, .inr ⟨rfl, rfl⟩, .u _, g1, g2⟩
          simp [execOp, ho, hq, Instr.mapUpdate, run_underlying hu, run_getObj_map m1, run_ck hd hk, run_findKey hk f1, run_setObj_map _ m1]
        · cases h
      · cases h
    · cases h
  · cases h

theorem bytesA_sim : ∀ {cs : List AV} {l : List Nat} {vs : List Value}, bytesA cs = some l → LR ν ρ cs vs.toArray → vs = l.map (fun n : Nat => Value.int .u8 (n : Int)) ∧ ∀ x ∈ l, x < 256 := by
  intro cs
  induction cs with
  | nil =>
    intro l vs h hl
    simp only [bytesA, Option.some.injEq] at h
    subst h
    have : vs = [] := List.eq_nil_of_length_eq_zero (by simpa using hl.1.symm)
    subst this
    exact ⟨rfl, by simp⟩
  | cons c r ih =>
    intro l vs h hl
    unfold bytesA at h
    split at h
    · cases ‹_ :: _ = []›
    · rename_i n r' heq
      cases heq
      split at h
      · rename_i hn
        simp only [Option.map_eq_some_iff] at h
        obtain ⟨l', h1, rfl⟩ := h
        cases vs with
        | nil => have := hl.1; simp at this
        | cons u0 us =>
          have hu := hl.2 0 _ u0 rfl rfl
          cases hu
          obtain ⟨g1, g2⟩ := ih h1 ⟨by simpa using hl.1, fun j x v hx hv => hl.2 (j + 1) x v (by simpa using hx) (by simpa using hv)⟩
          refine ⟨by rw [g1]; rfl, fun x hx => ?_⟩
          rcases List.mem_cons.1 hx with rfl | hx
          · simpa using hn
          · exact g2 x hx
      · cases h
    · cases h

theorem foldl_bytes : ∀ (l : List Nat) (b : ByteArray), ((l.map fun n : Nat => (n : Int)).foldl (fun r n => r.push (UInt8.ofNat n.toNat)) b).data.toList = b.data.toList ++ l.map UInt8.ofNat := by
  intro l
  induction l with
  | nil => intro b; simp
  | cons n r ih =>
    intro b
    simp only [List.map_cons, List.foldl_cons]
    rw [ih]
    simp [ByteArray.push]

theorem sim_bts (hh : HR ν ρ H w) (he : ER ν ρ e a.tmps) {x : Operand} {x' : O} {s t e' : TypeId} (ho : o.op = .convert s t x) (hs : P.underlying s = some (.slice e')) (ht : P.underlying t = some .string) (hu : P.underlying e' = some (.int .u8))
    (hx : cO x = some x') (h : opA F call e H (.bts x') = some (r, H')) : Eff ν ρ P H w a o r H' := by
  have hxv := cO_sim he hx
  simp only [opA] at h
  split at h
  · rename_i n e1
    obtain ⟨base, c, hv⟩ := lenA_sim e1 hxv
    split at h
    · rename_i cs hcs
      obtain ⟨vs, g1, g2, g3⟩ := firstA_sim hh hcs hxv
      simp only [Option.map_eq_some_iff, Prod.mk.injEq] at h
      obtain ⟨l, hl, rfl, rfl⟩ := h
      obtain ⟨k1, k2⟩ := bytesA_sim hl g2
      have hex : ∀ v, (convert s t (a.eval x)).run P w = .ok v w → (execOp a.eval o).run P w = .ok (.value v) w := by
        intro v hr
        simp [execOp, ho, hr]
      have hcv : (convert s t (a.eval x)).run P w = (Conv.bytesToString (a.eval x)).run P w := by
        rw [hv]
        cases base <;> simp [convert, run_underlying hs, run_underlying ht, run_underlying hu]
      refine ⟨.value (.string (bytesOf l)), _, w, ρ, hex _ ?_, .inl rfl, .bs l k2, hh, Stp.refl _ _ _⟩
      rw [hcv]
      rcases g3 with ⟨ad, m, c2, q1, q2⟩ | ⟨hn0, base2, m, c2, q1⟩
      · have hm : m = n := by rw [q1] at hv; cases hv; rfl
        subst hm
        have hld := run_loadCells_list (P := P) (w := w) ad vs q2
        have hlen : vs.length = m := by simpa using g1
        rw [hlen, k1] at hld
        have := run_bytesToString (P := P) w ad m c2 (l.map fun n : Nat => (n : Int)) (by rw [hld]; simp [Function.comp_def])
        rw [q1, this]
        congr 2
        apply ByteArray.ext
        apply Array.ext'
        rw [foldl_bytes, bytes_list]
        simp
      · subst hn0
        have hl0 : l = [] := by
          have : vs = [] := List.eq_nil_of_length_eq_zero (by simpa using g1)
          rw [this] at k1
          cases l with
          | nil => rfl
          | cons _ _ => simp at k1
        subst hl0
        rw [hv]
        cases base with
        | none => rfl
        | some ad =>
          have hld := run_loadCells_list (P := P) (w := w) ad [] (by simp)
          have := run_bytesToString (P := P) w ad 0 c [] (by simpa using hld)
          rw [this]
          rfl
    · cases h
  · cases h

end
end Go.Sh
