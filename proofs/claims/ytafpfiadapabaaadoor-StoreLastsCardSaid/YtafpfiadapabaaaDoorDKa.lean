/-
  ROWS IN MEMORY: what is general, for the disk's seat. Own work, merged by program.
-/
import Derived.Test.YtafpfiadapabaaaDoorProg
import Derived.WalkKit
import Derived.LaidEql
import Derived.RowKitTokens
import Derived.Laws.BytesString
import Derived.Laws.Cells
import Derived.Lib.LazyBuf
import Derived.Deep.AppendLies
import Derived.Deep.DrawnRows
import Derived.Deep.RegionHeld3
import Derived.RangeFuncBox
import Derived.Maps.AppendAt
import Derived.Test.YtafpfiadapabaaaDoorRows
import Derived.Below
import Derived.ChangeSame
import Derived.OpenShut
import Derived.ProofKit
import Derived.Deep.QuietTactic
import Derived.BigQuiet
import Derived.Deep.MidRow
import Derived.Deep.WholeRow
import Derived.Laws.CopyRow
import Derived.Laws.CopyOwn
import Derived.Deep.CutRange
import Derived.Deep.DeepCutAuto
namespace Go.Proofs.YtafpfiadapabaaaDoor
open Go.ChangeShapes Go.WideShapes Go.ChangeAt Go.RowKit Go.Maps
set_option maxRecDepth 100000
attribute [local go_sem ↓] Go.wp_at_zero Go.wp_at_succ
theorem news1 (w : World) (v : Value) (t : Nat) : ∀ j u, [v][j]? = some u → (w.alloc (.cells #[v] t)).cell? ((⟨w.heap.size, 0, none⟩ : Addr).add j) = some u := by
  intro j u hj
  match j, hj with
  | 0, hj =>
    simp at hj
    subst hj
    simp [Addr.add]
  | j + 1, hj => simp at hj
theorem grown_of {w w' : World} (h : Below w.heap.size w w') : w.grownBy w' none := ⟨h.os, h.tape, h.output, h.size, fun k hk _ => h.block k hk⟩
theorem row_slice {w : World} {base e size n : Nat} {v : Value} {xs : List Value} (h : w.ownsRow base e size v n xs) : ∃ p c, v = .slice p n c := by
  rcases h.2 with ⟨h1, h2⟩ | ⟨g, cap, cur, h1, _⟩
  · subst h2
    exact ⟨none, 0, h1⟩
  · exact ⟨_, _, h1⟩
theorem row_base {w : World} {base e size n : Nat} {v : Value} {xs : List Value} (h : w.ownsRow base e size v n xs) {k : Nat} (hk : v.ownBlock = some k) : base ≤ k ∧ k < w.heap.size := by
  rcases h.2 with ⟨rfl, _⟩ | ⟨g, cap, cur, rfl, hb, hg, _⟩
  · simp [Value.ownBlock] at hk
  · obtain rfl : g = k := by simpa [Value.ownBlock] using hk
    exact ⟨hb, (Array.getElem?_eq_some_iff.1 hg).1⟩
theorem row_lower {w : World} {base base' e size n : Nat} {v : Value} {xs : List Value} (h : w.ownsRow base e size v n xs) (hle : base' ≤ base) : w.ownsRow base' e size v n xs := by
  refine ⟨h.1, ?_⟩
  rcases h.2 with h1 | ⟨g, cap, cur, h1, hb, r⟩
  · exact .inl h1
  · exact .inr ⟨g, cap, cur, h1, Nat.le_trans hle hb, r⟩
theorem put_grown (w : World) (a : Addr) (v : Value) : w.grownBy (w.setCell a v) (some a.block) :=
  ⟨rfl, rfl, rfl, (KeepsWalks.setCell w _ v).size, fun k _ hk => Below.heap_setCell _ _ _ k (fun e => hk (by rw [e]))⟩
structure Keeps (F : Nat → Prop) (w w' : World) : Prop where
  os : w'.os = w.os
  tape : w'.tape = w.tape
  output : w'.output = w.output
  size : w.heap.size ≤ w'.heap.size
  block : ∀ k, k < w.heap.size → ¬ F k → w'.heap[k]? = w.heap[k]?
theorem Keeps.refl (F : Nat → Prop) (w : World) : Keeps F w w := ⟨rfl, rfl, rfl, Nat.le_refl _, fun _ _ _ => rfl⟩
theorem Keeps.of_below {F : Nat → Prop} {w w' : World} (h : Below w.heap.size w w') : Keeps F w w' := ⟨h.os, h.tape, h.output, h.size, fun k hk _ => h.block k hk⟩
theorem Keeps.of_grown {F : Nat → Prop} {w w' : World} {row : Option Nat} (h : w.grownBy w' row) (hF : ∀ k, row = some k → F k) : Keeps F w w' := ⟨h.os, h.tape, h.output, h.size, fun k hk hn => h.block k hk (fun e => hn (hF k e.symm))⟩
theorem Keeps.trans {F G : Nat → Prop} {a b c : World} (h : Keeps F a b) (h' : Keeps G b c) (hG : ∀ k, k < a.heap.size → G k → F k) : Keeps F a c :=
  ⟨h'.os.trans h.os, h'.tape.trans h.tape, h'.output.trans h.output, Nat.le_trans h.size h'.size, fun k hk hn => (h'.block k (Nat.lt_of_lt_of_le hk h.size) (fun g => hn (hG k hk g))).trans (h.block k hk hn)⟩
theorem Keeps.mono {F G : Nat → Prop} {a b : World} (h : Keeps F a b) (hG : ∀ k, k < a.heap.size → F k → G k) : Keeps G a b := ⟨h.os, h.tape, h.output, h.size, fun k hk hn => h.block k hk (fun f => hn (hG k hk f))⟩
theorem Keeps.below {F : Nat → Prop} {a b : World} (h : Keeps F a b) {B : Nat} (hB : B ≤ a.heap.size) (hF : ∀ k, F k → B ≤ k) : Below B a b := ⟨h.os, h.tape, h.output, h.size, fun k hk => h.block k (by omega) (fun f => by have := hF k f; omega)⟩
theorem Keeps.cell {F : Nat → Prop} {a b : World} (h : Keeps F a b) {p : Addr} (hp : p.block < a.heap.size) (hn : ¬ F p.block) : b.cell? p = a.cell? p := World.cell?_of_block (h.block _ hp hn)
theorem Keeps.frozen {F : Nat → Prop} {a b : World} (h : Keeps F a b) {p : Addr} (hp : p.block < a.heap.size) (hn : ¬ F p.block) : b.frozen? p = a.frozen? p := World.frozen?_of_block (h.block _ hp hn)
theorem row_keeps {F : Nat → Prop} {w w' : World} {base e size n : Nat} {v : Value} {xs : List Value} (h : w.ownsRow base e size v n xs) (hK : Keeps F w w') (hn : ∀ k, v.ownBlock = some k → ¬ F k) : w'.ownsRow base e size v n xs := by
  refine ⟨h.1, ?_⟩
  rcases h.2 with h1 | ⟨g, cap, cur, h1, hb, hg, r⟩
  · exact .inl h1
  · refine .inr ⟨g, cap, cur, h1, hb, ?_, r⟩
    rw [hK.block g (Array.getElem?_eq_some_iff.1 hg).1 (hn g (by rw [h1]; rfl))]
    exact hg
theorem row_open {w : World} {base e size n c : Nat} {p : Option Addr} {xs : List Value} (h : w.ownsRow base e size (.slice p n c) n xs) (hn : 0 < n) : ∃ g, p = some ⟨g, 0, none⟩ ∧ base ≤ g ∧ g < w.heap.size ∧ n ≤ c ∧ ∀ j, j < n * size → w.cell? ⟨g, j, none⟩ = xs[j]? := by
  rcases h.2 with ⟨_, h0⟩ | ⟨g, cap, cur, h1, hb, hg, hc, _⟩
  · omega
  · cases h1
    exact ⟨g, rfl, hb, (Array.getElem?_eq_some_iff.1 hg).1, hc, fun j hj => World.ownsRow.cellAt h j hj⟩
/-- The row's last step, where of the world behind the call this alone is known: what was there is as it was. -/
theorem post_below {H : Type} {enc : TypeId × Value → H} {P : Program} {f : Func} {s : ChangeSpec} {apart fresh handsOn again : Bool} {W W' : World} {args : Array Value} {v : Value} {ds gs : List (DataW H)} {before pa pv : List MemPlace}
    (hW : DataW.Whole enc P f.params.toList s.vars apart W args.toList ds gs before)
    (hr : ∀ (b : Nat) (sp : Nat → Bool) (hd : Bool), DataW.TrodAll enc P W' b sp hd f.resultTypes.toList (v.resultList f.resultTypes.size) (s.fn H (ds ++ gs)).results [])
    (ha : ∀ sp : Nat → Bool, (∀ p ∈ before, sp p.block = true) → DataW.TrodAll enc P W' 0 sp true f.params.toList args.toList (s.fn H (ds ++ gs)).args pa)
    (hv : ∀ sp : Nat → Bool, (∀ p ∈ before, sp p.block = true) → DataW.TrodVars enc P W' sp s.vars (s.fn H (ds ++ gs)).vars pv)
    (hps : before = pa ++ pv) (hb : Below W.heap.size W W')
    (hok : ∀ (j : Nat) (t : TypeId) (r : Value), f.resultTypes[j]? = some t → (v.resultList f.resultTypes.size)[j]? = some r → Value.okWide P W' .any 0 t r) :
    s.post enc P f apart fresh handsOn again W args v W' := by
  have lt : ∀ p ∈ before, p.block < W.heap.size := fun p hp => hW.lt p hp
  have sp0 : ∀ p ∈ before, (fun b => decide (b < W.heap.size)) p.block = true := fun p hp => by simpa using lt p hp
  refine ⟨ds, gs, before, [], pa, pv, hW, hr _ _ _, ha _ sp0, hv _ sp0, World.keptBut_mono (fun p hp => ⟨hp, ?_⟩) (hb.frame (· ∈ before)), fun _ => ?_⟩
  · rw [hps, List.mem_append] at hp
    exact .inr hp
  · obtain ⟨_, _, _, _, _, hz, hn⟩ := hW
    refine ⟨hok, _, _, ([] ++ pa) ++ pv, ⟨[] ++ pa, pv, trodAll_append (ha _ (fun _ _ => rfl)) (hr _ _ _), hv _ (fun _ _ => rfl), rfl, ?_, ?_⟩, ?_⟩
    · intro b off hp
      have hin : MemPlace.cell b off ∈ before := by rw [hps]; simpa using hp
      rw [hb.frozen (lt _ hin)]
      exact hz b off hin
    · intro hx
      have := hn hx
      rw [hps] at this
      simpa using this
    · intro p hp _
      rw [hps]
      simpa using hp
theorem own : ownKnob Tryd.prog.godebug = none := by kernel_rfl
theorem i64_bounds {n : Int} (h : (Lit.int .i64 n).wf = true) : -9223372036854775808 ≤ n ∧ n < 9223372036854775808 := by
  simp only [Lit.wf, IntKind.min, IntKind.max, IntKind.signed, IntKind.bits, Bool.and_eq_true, decide_eq_true_eq, if_true] at h
  omega
def Plain {H : Type} (P : Program) (t : TypeId) (v : Value) (d : DataW H) : Prop := ∀ (enc : TypeId × Value → H) (W : World) (base : Nat) (sp : Nat → Bool) (held : Bool), DataW.Trod enc P W base sp held t v d []
theorem plain_int {H : Type} {P : Program} {t : TypeId} {k : IntKind} (ht : P.underlying t = some (.int k)) {z : Int} (hw : (Lit.int k z).wf = true) : Plain (H := H) P t (.int k z) (.lit (.int k z)) := fun _ _ _ _ _ => shut_int ht hw
theorem plain_bool {H : Type} {P : Program} {t : TypeId} (ht : P.underlying t = some .bool) (b : Bool) : Plain (H := H) P t (.bool b) (.lit (.bool b)) := fun _ _ _ _ _ => shut_bool ht b
def In64 (n : Int) : Prop := -9223372036854775808 ≤ n ∧ n < 9223372036854775808
/-- A slice that is nil has no room. -/
def NilCap (v : Value) : Prop := ∀ c, v = .slice none 0 c → c = 0
section
variable {H : Type} {enc : TypeId × Value → H} {w : World} {base : Nat} {sp : Nat → Bool} {held : Bool}
theorem choose_list {α : Type} {P : Nat → α → Prop} : ∀ n : Nat, (∀ i, i < n → ∃ a, P i a) → ∃ S : List α, S.length = n ∧ ∀ i (h : i < S.length), P i S[i]
  | 0, _ => ⟨[], rfl, fun i h => by cases h⟩
  | n + 1, h => by
    obtain ⟨S, hS, hP⟩ := choose_list n (fun i hi => h i (by omega))
    obtain ⟨a, ha⟩ := h n (by omega)
    refine ⟨S ++ [a], by simp [hS], fun i hi => ?_⟩
    rcases Nat.lt_or_ge i S.length with hlt | hge
    · rw [List.getElem_append_left hlt]
      exact hP i hlt
    · simp only [List.length_append, List.length_cons, List.length_nil] at hi
      obtain rfl : i = S.length := by omega
      rw [List.getElem_append_right (Nat.le_refl _)]
      simp only [Nat.sub_self, List.getElem_cons_zero]
      rw [hS]
      exact ha
end
section
variable {H : Type} {enc : TypeId × Value → H} {w : World} {base : Nat} {sp : Nat → Bool} {held : Bool}
theorem kept_arg {P : Program} {t : TypeId} (hl : laidOutB P = true) (hr : P.readableRec t = true) (hrow : t < P.types.size) {W W' : World} {v : Value} {d : DataW H} {ps : List MemPlace} (h : DataW.Trod enc P W 0 (fun _ => true) true t v d ps) (hb : Below W.heap.size W W') (hlt : ∀ x ∈ ps, x.block < W.heap.size) {sp : Nat → Bool} (hs : ∀ p ∈ ps, sp p.block = true) :
    DataW.Trod enc P W' 0 sp true t v d ps := WideElems.Trod_stays hl hr hrow h (fun x hx => hb.same (hlt x hx)) hs
end
section
variable {H : Type} {enc : TypeId × Value → H} {w : World} {base : Nat} {sp : Nat → Bool} {held : Bool}
theorem laidOut : laidOutB Tryd.prog = true := by kernel_rfl
end
theorem below_drewN {B : Nat} {w w' : World} (h : Below B w w') (n : Nat) : Below B w (w'.drewN n) := ⟨h.os, h.tape, h.output, h.size, h.block⟩
theorem own_below {w w' : World} {base e size n : Nat} {v : Value} {ys : List Value} {B : Nat} (h : w.ownsRow base e size v n ys) (hB : Below B w w') (hk : ∀ k, v.ownBlock = some k → k < B) : w'.ownsRow base e size v n ys := row_keeps (F := fun k => B ≤ k) h ⟨hB.os, hB.tape, hB.output, hB.size, fun k h1 h2 => hB.block k (by omega)⟩ (fun k h1 h2 => by have := hk k h1; omega)
theorem make_row {t e : TypeId} {z : Value} {size bytes : Nat} (n : Nat) {i : TypeInfo} (ht : Tryd.prog.underlying t = some (.slice e)) (hi : Tryd.prog.info? e = some i) (hz : i.zero = some z) (hs : i.size = size) (hb : i.bytes = bytes) (hby : bytes * n ≤ 281474976710656) (h63 : n ≤ 9223372036854775807) : ∀ w, (Instr.makeSlice t (.int .i64 (n : Int)) (.int .i64 (n : Int))).run Tryd.prog w = .ok (.slice (some ⟨w.heap.size, 0, none⟩) n n) (w.alloc (.cells (madeCells z.cells (n * size)) e)) := by
  intro w
  have hb' : (i.bytes : Int) * (n : Int) ≤ 281474976710656 := by
    rw [hb]
    have h1 : ((bytes * n : Nat) : Int) ≤ 281474976710656 := by omega
    rwa [Int.natCast_mul] at h1
  have h := run_make (P := Tryd.prog) w t e i z ht hi hz .i64 .i64 n n (by omega) (Int.le_refl _) hb' (by omega)
  simpa [hs] using h
/-! ## A family of rows of one's own -/
structure RowD where
  e : TypeId
  size : Nat
  v : Value
  n : Nat
  xs : List Value
  ob : Option Obj
/-- A row lies there whole; or, of a block that is but kept as it is, that block. -/
def RowD.Holds (r : RowD) (base : Nat) (w : World) : Prop :=
  match r.ob with
  | none => w.ownsRow base r.e r.size r.v r.n r.xs
  | some o => ∃ g, r.v.ownBlock = some g ∧ base ≤ g ∧ w.heap[g]? = some o
theorem RowD.Holds.keeps {r : RowD} {base : Nat} {F : Nat → Prop} {w w' : World} (h : r.Holds base w) (hK : Keeps F w w') (hn : ∀ k, r.v.ownBlock = some k → ¬ F k) : r.Holds base w' := by
  obtain ⟨e, size, v, n, xs, ob⟩ := r
  cases ob with
  | none => exact row_keeps (show w.ownsRow base e size v n xs from h) hK hn
  | some o =>
    obtain ⟨g, h1, h2, h3⟩ := h
    exact ⟨g, h1, h2, (hK.block g (Array.getElem?_eq_some_iff.1 h3).1 (hn g h1)).trans h3⟩
theorem RowD.Holds.base {r : RowD} {base : Nat} {w : World} (h : r.Holds base w) {k : Nat} (hk : r.v.ownBlock = some k) : base ≤ k ∧ k < w.heap.size := by
  obtain ⟨e, size, v, n, xs, ob⟩ := r
  cases ob with
  | none => exact row_base (show w.ownsRow base e size v n xs from h) hk
  | some o =>
    obtain ⟨g, h1, h2, h3⟩ := h
    obtain rfl : g = k := Option.some.inj (h1.symm.trans hk)
    exact ⟨h2, (Array.getElem?_eq_some_iff.1 h3).1⟩
theorem RowD.Holds.lower {r : RowD} {base base' : Nat} {w : World} (h : r.Holds base w) (hle : base' ≤ base) : r.Holds base' w := by
  obtain ⟨e, size, v, n, xs, ob⟩ := r
  cases ob with
  | none => exact row_lower (show w.ownsRow base e size v n xs from h) hle
  | some o =>
    obtain ⟨g, h1, h2, h3⟩ := h
    exact ⟨g, h1, Nat.le_trans hle h2, h3⟩
def Sep (a b : Value) : Prop := ∀ k, a.ownBlock = some k → b.ownBlock ≠ some k
structure Fam (w0 w : World) (rs : List RowD) : Prop where
  below : Below w0.heap.size w0 w
  row : ∀ (i : Nat) (r : RowD), rs[i]? = some r → r.Holds w0.heap.size w
  apart : ∀ (i j : Nat) (r s : RowD), rs[i]? = some r → rs[j]? = some s → i ≠ j → Sep r.v s.v
theorem Fam.start (w : World) : Fam w w [] := ⟨Below.refl _ _, fun i r h => by simp at h, fun i j r s h => by simp at h⟩
theorem Fam.step {w0 w w' : World} {rs : List RowD} (T : Fam w0 w rs) (hB : Below w.heap.size w w') : Fam w0 w' rs :=
  ⟨T.below.trans (hB.mono T.below.size), fun i r h => (T.row i r h).keeps (F := fun _ => False) (Keeps.of_below hB) (fun _ _ h => h), T.apart⟩
theorem Fam.keeps {w0 w w' : World} {rs : List RowD} {F : Nat → Prop} (T : Fam w0 w rs) (hK : Keeps F w w') (hb : ∀ k, F k → w0.heap.size ≤ k) (hF : ∀ (i : Nat) (r : RowD), rs[i]? = some r → ∀ k, r.v.ownBlock = some k → ¬ F k) : Fam w0 w' rs :=
  ⟨T.below.trans (hK.below T.below.size hb), fun i r h => (T.row i r h).keeps hK (hF i r h), T.apart⟩
theorem Fam.put {w0 w w' : World} {rs : List RowD} {r r' : RowD} (T : Fam w0 w rs) (i : Nat) (h : rs[i]? = some r) (hg : w.grownBy w' r.v.ownBlock) (hr : r'.Holds w0.heap.size w') (hat : ∀ k, r'.v.ownBlock = some k → r.v.ownBlock = some k ∨ w.heap.size ≤ k) : Fam w0 w' (rs.set i r') := by
  have hK : Keeps (fun k => r.v.ownBlock = some k) w w' := Keeps.of_grown hg (fun k h => h)
  have hi : i < rs.length := (List.getElem?_eq_some_iff.1 h).1
  have old : ∀ (j : Nat) (s : RowD), j ≠ i → (rs.set i r')[j]? = some s → rs[j]? = some s := fun j s hj hs => by rwa [List.getElem?_set_ne (Ne.symm hj)] at hs
  have new : ∀ s, (rs.set i r')[i]? = some s → s = r' := fun s hs => by
    rw [List.getElem?_set_self hi] at hs
    exact (Option.some.inj hs).symm
  have far : ∀ (j : Nat) (s : RowD), j ≠ i → rs[j]? = some s → Sep r'.v s.v := fun j s hj hs k hk hk2 => by
    rcases hat k hk with h1 | h1
    · exact T.apart i j r s h hs (Ne.symm hj) k h1 hk2
    · have := ((T.row j s hs).base hk2).2
      omega
  refine ⟨T.below.trans (hK.below T.below.size (fun k hk => ((T.row i r h).base hk).1)), fun j s hs => ?_, fun a b s t hs ht hab => ?_⟩
  · by_cases hj : j = i
    · subst hj
      rw [new s hs]
      exact hr
    · exact (T.row j s (old j s hj hs)).keeps hK (fun k hk he => T.apart j i s r (old j s hj hs) h hj k hk he)
  · by_cases ha : a = i
    · subst ha
      rw [new s hs]
      exact far b t (Ne.symm hab) (old b t (Ne.symm hab) ht)
    · by_cases hb : b = i
      · subst hb
        rw [new t ht]
        exact fun k hk hk2 => far a s ha (old a s ha hs) k hk2 hk
      · exact T.apart a b s t (old a s ha hs) (old b t hb ht) hab
theorem Fam.add {w0 w w' : World} {rs : List RowD} {r : RowD} (T : Fam w0 w rs) (hB : Below w.heap.size w w') (hr : r.Holds w.heap.size w') : Fam w0 w' (rs ++ [r]) := by
  have T1 := T.step hB
  have far : ∀ (j : Nat) (s : RowD), rs[j]? = some s → Sep r.v s.v := fun j s hs k hk hk2 => by
    have h1 := (hr.base hk).1
    have h2 := ((T.row j s hs).base hk2).2
    omega
  have cs : ∀ (j : Nat) (s : RowD), (rs ++ [r])[j]? = some s → rs[j]? = some s ∧ j < rs.length ∨ s = r ∧ j = rs.length := fun j s hs => by
    by_cases hj : j < rs.length
    · rw [List.getElem?_append_left hj] at hs
      exact .inl ⟨hs, hj⟩
    · rw [List.getElem?_append_right (by omega)] at hs
      by_cases h0 : j - rs.length = 0
      · rw [h0] at hs
        exact .inr ⟨(Option.some.inj hs).symm, by omega⟩
      · obtain ⟨k, hk⟩ : ∃ k, j - rs.length = k + 1 := ⟨j - rs.length - 1, by omega⟩
        rw [hk] at hs
        simp at hs
  refine ⟨T1.below, fun j s hs => ?_, fun a b s t hs ht hab => ?_⟩
  · rcases cs j s hs with ⟨h, _⟩ | ⟨rfl, _⟩
    · exact T1.row j s h
    · exact hr.lower T.below.size
  · rcases cs a s hs with ⟨h1, l1⟩ | ⟨rfl, l1⟩ <;> rcases cs b t ht with ⟨h2, l2⟩ | ⟨rfl, l2⟩
    · exact T.apart a b s t h1 h2 hab
    · exact fun k hk hk2 => far a s h1 k hk2 hk
    · exact far b t h2
    · omega
theorem Fam.init {w0 w : World} {rs l : List RowD} (T : Fam w0 w (rs ++ l)) : Fam w0 w rs := by
  have cs : ∀ (j : Nat) (s : RowD), rs[j]? = some s → (rs ++ l)[j]? = some s := fun j s h => by
    rw [List.getElem?_append_left (List.getElem?_eq_some_iff.1 h).1]
    exact h
  exact ⟨T.below, fun i r h => T.row i r (cs i r h), fun i j r s h h' => T.apart i j r s (cs i r h) (cs j s h')⟩
/-! ## Lists of equally wide things, laid flat -/
theorem flat_len {α : Type} {f : α → List Value} {m : Nat} {l : List α} (h : ∀ x ∈ l, (f x).length = m) : (l.flatMap f).length = l.length * m := by
  induction l with
  | nil => simp
  | cons x l ih =>
    rw [List.flatMap_cons, List.length_append, h x (by simp), ih (fun y hy => h y (by simp [hy])), List.length_cons, Nat.succ_mul]
    omega
theorem flat_get {α : Type} {f : α → List Value} {m : Nat} : ∀ {l : List α} (_ : ∀ x ∈ l, (f x).length = m) (i j : Nat) (x : α), l[i]? = some x → j < m → (l.flatMap f)[i * m + j]? = (f x)[j]?
  | [], _, i, j, x, hx, _ => by simp at hx
  | y :: l, h, i, j, x, hx, hj => by
    have hy := h y (by simp)
    rw [List.flatMap_cons]
    cases i with
    | zero =>
      simp at hx
      subst hx
      rw [List.getElem?_append_left (by omega)]
      simp
    | succ i =>
      rw [List.getElem?_append_right (by rw [hy, Nat.succ_mul]; omega), hy, show (i + 1) * m + j - m = i * m + j by rw [Nat.succ_mul]; omega]
      exact flat_get (fun z hz => h z (by simp [hz])) i j x (by simpa using hx) hj
/-- Cells laid over a list from o on. -/
def setL : List Value → Nat → List Value → List Value
  | xs, _, [] => xs
  | xs, o, v :: r => setL (xs.set o v) (o + 1) r
theorem setL_get : ∀ (cs xs : List Value) (o k : Nat), (setL xs o cs)[k]? = if o ≤ k ∧ k < o + cs.length ∧ k < xs.length then cs[k - o]? else xs[k]?
  | [], xs, o, k => by simp [setL]; omega
  | v :: r, xs, o, k => by
    rw [setL, setL_get r (xs.set o v) (o + 1) k, List.length_set]
    by_cases hk : k = o
    · subst hk
      rw [if_neg (by omega)]
      by_cases hl : k < xs.length
      · rw [if_pos (by simp; omega), List.getElem?_set_self hl]
        simp
      · rw [if_neg (by omega), List.getElem?_eq_none (by simp; omega), List.getElem?_eq_none (by omega)]
    · rw [List.getElem?_set_ne (Ne.symm hk)]
      by_cases h1 : o + 1 ≤ k ∧ k < o + 1 + r.length ∧ k < xs.length
      · rw [if_pos h1, if_pos (by simp; omega)]
        obtain ⟨q, hq⟩ : ∃ q, k - o = q + 1 := ⟨k - o - 1, by omega⟩
        rw [hq, List.getElem?_cons_succ]
        congr 1
        omega
      · rw [if_neg h1, if_neg (by simp; omega)]
theorem flat_set {α : Type} {f : α → List Value} {m : Nat} {l : List α} (h : ∀ x ∈ l, (f x).length = m) (i : Nat) (hi : i < l.length) (x : α) (hx : (f x).length = m) : setL (l.flatMap f) (i * m) (f x) = (l.set i x).flatMap f := by
  have h2 : ∀ y ∈ l.set i x, (f y).length = m := fun y hy => by
    rcases List.mem_or_eq_of_mem_set hy with hy | rfl
    · exact h y hy
    · exact hx
  apply List.ext_getElem?
  intro k
  rw [setL_get, flat_len h, hx]
  by_cases hk : k < l.length * m
  · have hm : 0 < m := by
      rcases Nat.eq_zero_or_pos m with h0 | h0
      · rw [h0, Nat.mul_zero] at hk; omega
      · exact h0
    have hdm := Nat.div_add_mod k m
    have hml := Nat.mod_lt k hm
    have hdl : k / m < l.length := Nat.div_lt_of_lt_mul (by rwa [Nat.mul_comm])
    have e : k = k / m * m + k % m := by rw [Nat.mul_comm]; exact hdm.symm
    obtain ⟨y, hy⟩ : ∃ y, l[k / m]? = some y := ⟨_, List.getElem?_eq_getElem hdl⟩
    by_cases hc : k / m = i
    · rw [if_pos ⟨by rw [← hc]; omega, by rw [← hc]; omega, hk⟩]
      conv => rhs; rw [e]
      rw [flat_get h2 (k / m) (k % m) x (by rw [hc, List.getElem?_set_self hi]) hml]
      congr 1
      rw [← hc]
      omega
    · rw [if_neg (fun hh => by
        have a1 : i * m ≤ k := hh.1
        have a2 : k < i * m + m := hh.2.1
        apply hc
        exact Nat.div_eq_of_lt_le a1 (by rw [Nat.succ_mul]; exact a2))]
      conv => lhs; rw [e]
      conv => rhs; rw [e]
      rw [flat_get h (k / m) (k % m) y hy hml, flat_get h2 (k / m) (k % m) y (by rw [List.getElem?_set_ne (Ne.symm hc)]; exact hy) hml]
  · rw [if_neg (by omega), List.getElem?_eq_none (by rw [flat_len h]; omega), List.getElem?_eq_none (by rw [flat_len h2, List.length_set]; omega)]
theorem flat_app {α : Type} {f : α → List Value} (l : List α) (x : α) : (l ++ [x]).flatMap f = l.flatMap f ++ f x := by simp
/-- Many cells of a row written. -/
theorem stored_many {base e size g n cap : Nat} : ∀ (cs : List Value) (w : World) (xs : List Value) (o : Nat), w.ownsRow base e size (.slice (some ⟨g, 0, none⟩) n cap) n xs → (w.setCells g o cs).ownsRow base e size (.slice (some ⟨g, 0, none⟩) n cap) n (setL xs o cs) ∧ w.grownBy (w.setCells g o cs) (some g)
  | [], w, xs, o, h => ⟨by simpa [World.setCells, setL] using h, ⟨rfl, rfl, rfl, Nat.le_refl _, fun _ _ _ => rfl⟩⟩
  | v :: r, w, xs, o, h => by
    obtain ⟨h1, g1⟩ := World.ownsRow.stored h o v
    obtain ⟨h2, g2⟩ := stored_many r _ _ (o + 1) h1
    refine ⟨h2, ⟨g2.os.trans g1.os, g2.tape.trans g1.tape, g2.output.trans g1.output, Nat.le_trans g1.size g2.size, fun k hk hn => (g2.block k (Nat.lt_of_lt_of_le hk g1.size) hn).trans (g1.block k hk hn)⟩⟩
/-- A cell of a wide row. -/
theorem wide_cell {α : Type} {f : α → List Value} {m : Nat} {l : List α} (hf : ∀ x ∈ l, (f x).length = m) {w : World} {base e g c : Nat} (h : w.ownsRow base e m (.slice (some ⟨g, 0, none⟩) l.length c) l.length (l.flatMap f)) (i j : Nat) (x : α) (hx : l[i]? = some x) (hj : j < m) : w.cell? ⟨g, i * m + j, none⟩ = (f x)[j]? := by
  have hi : i < l.length := (List.getElem?_eq_some_iff.1 hx).1
  have hlt : i * m + j < l.length * m := by
    have : (i + 1) * m ≤ l.length * m := Nat.mul_le_mul_right _ hi
    rw [Nat.succ_mul] at this
    omega
  rw [World.ownsRow.cellAt h _ hlt]
  exact flat_get hf i j x hx hj
theorem run_copy_wide {P : Program} (w : World) (dT sT ty elem : TypeId) (g dLen dCap : Nat) (a : Addr) (sLen sCap size : Nat) (cur : Array Value) (t : TypeId) (cs : List Value)
    (hu : P.underlying dT = some (.slice elem)) (hs : (P.info? elem).map (·.size) = some size)
    (hg : w.heap[g]? = some (.cells cur t (0, 0))) (hn : cs.length = Nat.min sLen dLen * size)
    (hsrc : ∀ j v, cs[j]? = some v → w.cell? (a.add j) = some v) (hfit : 0 + cs.length ≤ cur.size) (h1 : ∀ v ∈ cs, v.oneCell' = true) :
    (Builtin.copy_ #[dT, sT] ty #[.slice (some ⟨g, 0, none⟩) dLen dCap, .slice (some a) sLen sCap]).run P w =
      .ok (goInt (Nat.min sLen dLen)) (w.setRow g (cur.toList.take 0 ++ cs ++ cur.toList.drop (0 + cs.length)).toArray) := by
  have hl := run_loadCells_list (P := P) w a cs hsrc
  have hst := run_storeCells_at P g 0 t cs 0 cur w hg (by simpa using hfit) h1
  cases hq : P.info? elem with
  | none => simp [hq] at hs
  | some i =>
    have hi : i.size = size := by simpa [hq] using hs
    simp [Builtin.copy_, run_underlying hu, Builtin.lenOf, Builtin.firstCells, sizeOf, typeInfo, hq, hi, ← hn, hl, hst]
end Go.Proofs.YtafpfiadapabaaaDoor
