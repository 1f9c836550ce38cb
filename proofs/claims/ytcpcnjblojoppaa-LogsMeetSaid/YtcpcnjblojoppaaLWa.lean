/-
  NUMBERS IN MEMORY: what is general, for a seat without terms. Own work, merged by program.
-/
import Derived.Test.YtcpcnjblojoppaaProg
import Derived.WalkKit
import Derived.LaidEql
import Derived.RowKitTokens
import Derived.Laws.BytesString
import Derived.Laws.Cells
import Derived.Lib.LazyBuf
import Derived.Deep.AppendLies
import Derived.Deep.DrawnRows
import Derived.Deep.RegionHeld3
import Derived.RangeFuncBox
import Derived.Maps.AppendAt
import Derived.Test.YtcpcnjblojoppaaRows
import Derived.Below
import Derived.ChangeSame
import Derived.OpenShut
import Derived.ProofKit
import Derived.Deep.QuietTactic
import Derived.BigQuiet
namespace Go.Proofs.Ytcpcnjblojoppaa
open Go.ChangeShapes Go.WideShapes Go.ChangeAt Go.RowKit Go.Maps
set_option maxRecDepth 100000
attribute [local go_sem ↓] Go.wp_at_zero Go.wp_at_succ
theorem news1 (w : World) (v : Value) (t : Nat) : ∀ j u, [v][j]? = some u → (w.alloc (.cells #[v] t)).cell? ((⟨w.heap.size, 0, none⟩ : Addr).add j) = some u := by
  intro j u hj
  match j, hj with
  | 0, hj =>
    simp at hj
    subst hj
    simp [Addr.add]
  | j + 1, hj => simp at hj
/-- A row of numbers, as cells. -/
theorem ints_news {w : World} {b o l : Nat} {xs : List Int} (hl : xs.length = l) (hc : ∀ t, t < l → w.cell? ⟨b, o + t, none⟩ = some (.int .i64 (xs.getD t 0))) : ∀ j u, (xs.map (Value.int .i64))[j]? = some u → w.cell? ((⟨b, o, none⟩ : Addr).add j) = some u := by
  intro j u hj
  rw [List.getElem?_map, Option.map_eq_some_iff] at hj
  obtain ⟨z, hz, rfl⟩ := hj
  have hlt : j < l := by
    have := (List.getElem?_eq_some_iff.1 hz).1
    omega
  have h := hc j hlt
  rw [List.getD_eq_getElem?_getD, hz] at h
  have hadd : (⟨b, o, none⟩ : Addr).add j = ⟨b, o + j, none⟩ := by unfold Addr.add; split <;> simp_all
  rw [hadd]
  simpa using h
set_option maxHeartbeats 1000000 in
theorem clone_ok (b o l c : Nat) (xs : List Int) (w : World) (hl : xs.length = l) (h4 : l ≤ 1000) (hb : b < w.heap.size) (hc : ∀ t, t < l → w.cell? ⟨b, o + t, none⟩ = some (.int .i64 (xs.getD t 0))) : Calls Try.prog 38 #[.slice (some ⟨b, o, none⟩) l c] w fun e w' => ∃ v, e = .returned v ∧ w'.ownsRow w.heap.size 3 1 v l (xs.map (Value.int .i64)) ∧ Below w.heap.size w w' := by
  obtain ⟨i0, hi, hz0, hz1, hz2⟩ := info_parts (P := Try.prog) (e := 3) (z := .int .i64 0) (size := 1) (bytes := 8) (by kernel_rfl)
  have heq := fun w => run_eql_slice_nil (P := Try.prog) w 25 3 (some ⟨b, o, none⟩) l c Try.underlying25
  have hc2 : ∀ t, t < l → (w.alloc (.cells #[] 3)).cell? ⟨b, o + t, none⟩ = some (.int .i64 (xs.getD t 0)) := fun t ht => by rw [World.cell?_alloc_lt _ _ ⟨b, o + t, none⟩ hb]; exact hc t ht
  go_enter Try.func38, Try.ntmps38
  go_wp2_with (at_builtin; refine wpList_append_own _ rfl (.tmp 5) (.tmp 6) 25 rfl w.heap.size 3 i0 (.int .i64 0) 1 8 Try.underlying25 hi hz0 hz1 hz2 rfl (by decide) (.slice (some ⟨w.heap.size, 0, none⟩) 0 0) 0 [] rfl (World.ownsRow_made w #[] 0 (Nat.le_refl _) (by decide) rfl) ⟨b, o, none⟩ l c (xs.map (Value.int .i64)) rfl (by simp [hl]) (ints_news hl hc2) (ints_oneCell _ _) (by unfold maxLen; omega) (by omega) (by simp) ?_; intro v' w1 hown1 hgrow1 _)
  go_ret
  exact ⟨v', rfl, by simpa using hown1, ((Below.refl _ _).alloc (Nat.le_refl _) _).grown hgrow1 (by simp) (fun _ hk => by simp [Value.ownBlock] at hk; omega)⟩
theorem grown_of {w w' : World} (h : Below w.heap.size w w') : w.grownBy w' none := ⟨h.os, h.tape, h.output, h.size, fun k hk _ => h.block k hk⟩
theorem row_slice {w : World} {base e size n : Nat} {v : Value} {xs : List Value} (h : w.ownsRow base e size v n xs) : ∃ p c, v = .slice p n c := by
  rcases h.2 with ⟨h1, h2⟩ | ⟨g, cap, cur, h1, _⟩
  · subst h2
    exact ⟨none, 0, h1⟩
  · exact ⟨_, _, h1⟩
theorem row_base {w : World} {base e size n : Nat} {v : Value} {xs : List Value} (h : w.ownsRow base e size v n xs) {k : Nat} (hk : v.ownBlock = some k) : base ≤ k ∧ k < w.heap.size := by
  rcases h.2 with ⟨rfl, _⟩ | ⟨g, cap, cur, rfl, hb, hg, _⟩
  · simp [Value.ownBlock] at hk
  · obtain rfl : g = k := by simpa [Value.ownBlock] using hk
    exact ⟨hb, (Array.getElem?_eq_some_iff.1 hg).1⟩
theorem row_lower {w : World} {base base' e size n : Nat} {v : Value} {xs : List Value} (h : w.ownsRow base e size v n xs) (hle : base' ≤ base) : w.ownsRow base' e size v n xs := by
  refine ⟨h.1, ?_⟩
  rcases h.2 with h1 | ⟨g, cap, cur, h1, hb, r⟩
  · exact .inl h1
  · exact .inr ⟨g, cap, cur, h1, Nat.le_trans hle hb, r⟩
theorem put_grown (w : World) (a : Addr) (v : Value) : w.grownBy (w.setCell a v) (some a.block) :=
  ⟨rfl, rfl, rfl, (KeepsWalks.setCell w _ v).size, fun k _ hk => Below.heap_setCell _ _ _ k (fun e => hk (by rw [e]))⟩
set_option maxHeartbeats 1000000 in
theorem clone_nil (w : World) : Calls Try.prog 38 #[.slice none 0 0] w fun e w' => e = .returned (.slice none 0 0) ∧ w' = w := by
  have heq := fun w => run_eql_slice_nil (P := Try.prog) w 25 3 none 0 0 Try.underlying25
  go_enter Try.func38, Try.ntmps38
  go_wp2_with fail
  go_ret
  exact ⟨rfl, rfl⟩
structure Keeps (F : Nat → Prop) (w w' : World) : Prop where
  os : w'.os = w.os
  tape : w'.tape = w.tape
  output : w'.output = w.output
  size : w.heap.size ≤ w'.heap.size
  block : ∀ k, k < w.heap.size → ¬ F k → w'.heap[k]? = w.heap[k]?
theorem Keeps.refl (F : Nat → Prop) (w : World) : Keeps F w w := ⟨rfl, rfl, rfl, Nat.le_refl _, fun _ _ _ => rfl⟩
theorem Keeps.of_below {F : Nat → Prop} {w w' : World} (h : Below w.heap.size w w') : Keeps F w w' := ⟨h.os, h.tape, h.output, h.size, fun k hk _ => h.block k hk⟩
theorem Keeps.of_grown {F : Nat → Prop} {w w' : World} {row : Option Nat} (h : w.grownBy w' row) (hF : ∀ k, row = some k → F k) : Keeps F w w' := ⟨h.os, h.tape, h.output, h.size, fun k hk hn => h.block k hk (fun e => hn (hF k e.symm))⟩
theorem Keeps.trans {F G : Nat → Prop} {a b c : World} (h : Keeps F a b) (h' : Keeps G b c) (hG : ∀ k, k < a.heap.size → G k → F k) : Keeps F a c :=
  ⟨h'.os.trans h.os, h'.tape.trans h.tape, h'.output.trans h.output, Nat.le_trans h.size h'.size, fun k hk hn => (h'.block k (Nat.lt_of_lt_of_le hk h.size) (fun g => hn (hG k hk g))).trans (h.block k hk hn)⟩
theorem Keeps.mono {F G : Nat → Prop} {a b : World} (h : Keeps F a b) (hG : ∀ k, k < a.heap.size → F k → G k) : Keeps G a b := ⟨h.os, h.tape, h.output, h.size, fun k hk hn => h.block k hk (fun f => hn (hG k hk f))⟩
theorem Keeps.below {F : Nat → Prop} {a b : World} (h : Keeps F a b) {B : Nat} (hB : B ≤ a.heap.size) (hF : ∀ k, F k → B ≤ k) : Below B a b := ⟨h.os, h.tape, h.output, h.size, fun k hk => h.block k (by omega) (fun f => by have := hF k f; omega)⟩
theorem Keeps.cell {F : Nat → Prop} {a b : World} (h : Keeps F a b) {p : Addr} (hp : p.block < a.heap.size) (hn : ¬ F p.block) : b.cell? p = a.cell? p := World.cell?_of_block (h.block _ hp hn)
theorem Keeps.frozen {F : Nat → Prop} {a b : World} (h : Keeps F a b) {p : Addr} (hp : p.block < a.heap.size) (hn : ¬ F p.block) : b.frozen? p = a.frozen? p := World.frozen?_of_block (h.block _ hp hn)
theorem row_keeps {F : Nat → Prop} {w w' : World} {base e size n : Nat} {v : Value} {xs : List Value} (h : w.ownsRow base e size v n xs) (hK : Keeps F w w') (hn : ∀ k, v.ownBlock = some k → ¬ F k) : w'.ownsRow base e size v n xs := by
  refine ⟨h.1, ?_⟩
  rcases h.2 with h1 | ⟨g, cap, cur, h1, hb, hg, r⟩
  · exact .inl h1
  · refine .inr ⟨g, cap, cur, h1, hb, ?_, r⟩
    rw [hK.block g (Array.getElem?_eq_some_iff.1 hg).1 (hn g (by rw [h1]; rfl))]
    exact hg
def Reads (w : World) (v : Value) (xs : List Int) : Prop :=
  (v = .slice none 0 0 ∧ xs = []) ∨ ∃ b o c, v = .slice (some ⟨b, o, none⟩) xs.length c ∧ b < w.heap.size ∧ ∀ t, t < xs.length → w.cell? ⟨b, o + t, none⟩ = some (.int .i64 (xs.getD t 0))
def IRow (w : World) (v : Value) (xs : List Int) : Prop := w.ownsRow 0 3 1 v xs.length (xs.map (Value.int .i64))
theorem IRow.cellAt {w : World} {g c : Nat} {xs : List Int} (h : IRow w (.slice (some ⟨g, 0, none⟩) xs.length c) xs) (t : Nat) (ht : t < xs.length) : w.cell? ⟨g, t, none⟩ = some (.int .i64 (xs.getD t 0)) := by
  have h2 := World.ownsRow.cellAt h t (by omega)
  rw [h2, List.getElem?_map, List.getElem?_eq_getElem ht, List.getD_eq_getElem?_getD, List.getElem?_eq_getElem ht]
  rfl
theorem IRow.reads {w : World} {v : Value} {xs : List Int} (h : IRow w v xs) : Reads w v xs := by
  rcases h.2 with ⟨h1, h2⟩ | ⟨g, cap, cur, h1, hb, hg, r⟩
  · exact .inl ⟨h1, List.eq_nil_of_length_eq_zero h2⟩
  · refine .inr ⟨g, 0, cap, h1, (Array.getElem?_eq_some_iff.1 hg).1, fun t ht => ?_⟩
    subst h1
    rw [Nat.zero_add]
    exact IRow.cellAt h t ht
theorem irow_of {w : World} {v : Value} {xs : List Int} {base n : Nat} (h : w.ownsRow base 3 1 v n (xs.map (Value.int .i64))) : IRow w v xs := by
  have := h.1
  simp only [List.length_map, Nat.mul_one] at this
  subst this
  exact row_lower h (Nat.zero_le _)
theorem Reads.slice {w : World} {v : Value} {xs : List Int} (h : Reads w v xs) : ∃ p c, v = .slice p xs.length c := by
  rcases h with ⟨rfl, rfl⟩ | ⟨b, o, c, rfl, _⟩
  · exact ⟨none, 0, rfl⟩
  · exact ⟨_, _, rfl⟩
theorem Reads.keeps {F : Nat → Prop} {w w' : World} {v : Value} {xs : List Int} (h : Reads w v xs) (hK : Keeps F w w') (hn : ∀ k, v.ownBlock = some k → ¬ F k) : Reads w' v xs := by
  rcases h with h | ⟨b, o, c, rfl, hb, hc⟩
  · exact .inl h
  · exact .inr ⟨b, o, c, rfl, Nat.lt_of_lt_of_le hb hK.size, fun t ht => (hK.cell (p := ⟨b, o + t, none⟩) hb (hn b rfl)).trans (hc t ht)⟩
theorem Reads.below {w w' : World} {v : Value} {xs : List Int} (h : Reads w v xs) (hB : Below w.heap.size w w') : Reads w' v xs := h.keeps (Keeps.of_below (F := fun _ => False) hB) (fun _ _ h => h)
theorem Reads.alloc {w : World} {v : Value} {xs : List Int} (h : Reads w v xs) (o : Obj) : Reads (w.alloc o) v xs := h.below ((Below.refl _ w).alloc (Nat.le_refl _) o)
theorem clone_rd {w : World} {v : Value} {xs : List Int} (h : Reads w v xs) (h4 : xs.length ≤ 1000) : Calls Try.prog 38 #[v] w fun e w' => ∃ p c, e = .returned (.slice p xs.length c) ∧ w'.ownsRow w.heap.size 3 1 (.slice p xs.length c) xs.length (xs.map (Value.int .i64)) ∧ Below w.heap.size w w' := by
  rcases h with ⟨rfl, rfl⟩ | ⟨b, o, c, rfl, hb, hc⟩
  · refine (clone_nil w).mono ?_
    rintro e w' ⟨rfl, rfl⟩
    exact ⟨none, 0, rfl, World.ownsRow_nil _ _ _ _, Below.refl _ _⟩
  · refine (clone_ok b o xs.length c xs w rfl h4 hb hc).mono ?_
    rintro e w' ⟨v, rfl, hown, hB⟩
    obtain ⟨p, c, rfl⟩ := row_slice hown
    exact ⟨p, c, rfl, hown, hB⟩
theorem reads_lit {w : World} {n : Nat} {cs : List Value} (xs : List Int) (hcs : cs = xs.map (Value.int .i64)) (hn : xs.length = n) (e : TypeId) : Reads (w.alloc (.cells cs.toArray e)) (.slice (some ⟨w.heap.size, 0, none⟩) n n) xs := by
  subst hcs hn
  refine .inr ⟨w.heap.size, 0, _, rfl, by simp, fun t ht => ?_⟩
  rw [Nat.zero_add, cell_of_row _ w.heap.size t _ e (0, 0) (heap_alloc_new w _)]
  simp [ht]
theorem row_open {w : World} {base e size n c : Nat} {p : Option Addr} {xs : List Value} (h : w.ownsRow base e size (.slice p n c) n xs) (hn : 0 < n) : ∃ g, p = some ⟨g, 0, none⟩ ∧ base ≤ g ∧ g < w.heap.size ∧ n ≤ c ∧ ∀ j, j < n * size → w.cell? ⟨g, j, none⟩ = xs[j]? := by
  rcases h.2 with ⟨_, h0⟩ | ⟨g, cap, cur, h1, hb, hg, hc, _⟩
  · omega
  · cases h1
    exact ⟨g, rfl, hb, (Array.getElem?_eq_some_iff.1 hg).1, hc, fun j hj => World.ownsRow.cellAt h j hj⟩
/-- The row's last step, where of the world behind the call this alone is known: what was there is as it was. -/
theorem post_below {H : Type} {enc : TypeId × Value → H} {P : Program} {f : Func} {s : ChangeSpec} {apart fresh handsOn again : Bool} {W W' : World} {args : Array Value} {v : Value} {ds gs : List (DataW H)} {before pa pv : List MemPlace}
    (hW : DataW.Whole enc P f.params.toList s.vars apart W args.toList ds gs before)
    (hr : ∀ (b : Nat) (sp : Nat → Bool) (hd : Bool), DataW.TrodAll enc P W' b sp hd f.resultTypes.toList (v.resultList f.resultTypes.size) (s.fn H (ds ++ gs)).results [])
    (ha : ∀ sp : Nat → Bool, (∀ p ∈ before, sp p.block = true) → DataW.TrodAll enc P W' 0 sp true f.params.toList args.toList (s.fn H (ds ++ gs)).args pa)
    (hv : ∀ sp : Nat → Bool, (∀ p ∈ before, sp p.block = true) → DataW.TrodVars enc P W' sp s.vars (s.fn H (ds ++ gs)).vars pv)
    (hps : before = pa ++ pv) (hb : Below W.heap.size W W')
    (hok : ∀ (j : Nat) (t : TypeId) (r : Value), f.resultTypes[j]? = some t → (v.resultList f.resultTypes.size)[j]? = some r → Value.okWide P W' .any 0 t r) :
    s.post enc P f apart fresh handsOn again W args v W' := by
  have lt : ∀ p ∈ before, p.block < W.heap.size := fun p hp => hW.lt p hp
  have sp0 : ∀ p ∈ before, (fun b => decide (b < W.heap.size)) p.block = true := fun p hp => by simpa using lt p hp
  refine ⟨ds, gs, before, [], pa, pv, hW, hr _ _ _, ha _ sp0, hv _ sp0, World.keptBut_mono (fun p hp => ⟨hp, ?_⟩) (hb.frame (· ∈ before)), fun _ => ?_⟩
  · rw [hps, List.mem_append] at hp
    exact .inr hp
  · obtain ⟨_, _, _, _, _, hz, hn⟩ := hW
    refine ⟨hok, _, _, ([] ++ pa) ++ pv, ⟨[] ++ pa, pv, trodAll_append (ha _ (fun _ _ => rfl)) (hr _ _ _), hv _ (fun _ _ => rfl), rfl, ?_, ?_⟩, ?_⟩
    · intro b off hp
      have hin : MemPlace.cell b off ∈ before := by rw [hps]; simpa using hp
      rw [hb.frozen (lt _ hin)]
      exact hz b off hin
    · intro hx
      have := hn hx
      rw [hps] at this
      simpa using this
    · intro p hp _
      rw [hps]
      simpa using hp
theorem own : ownKnob Try.prog.godebug = none := by kernel_rfl
theorem i64_bounds {n : Int} (h : (Lit.int .i64 n).wf = true) : -9223372036854775808 ≤ n ∧ n < 9223372036854775808 := by
  simp only [Lit.wf, IntKind.min, IntKind.max, IntKind.signed, IntKind.bits, Bool.and_eq_true, decide_eq_true_eq, if_true] at h
  omega
def Plain {H : Type} (P : Program) (t : TypeId) (v : Value) (d : DataW H) : Prop := ∀ (enc : TypeId × Value → H) (W : World) (base : Nat) (sp : Nat → Bool) (held : Bool), DataW.Trod enc P W base sp held t v d []
theorem plain_int {H : Type} {P : Program} {t : TypeId} {k : IntKind} (ht : P.underlying t = some (.int k)) {z : Int} (hw : (Lit.int k z).wf = true) : Plain (H := H) P t (.int k z) (.lit (.int k z)) := fun _ _ _ _ _ => shut_int ht hw
theorem plain_bool {H : Type} {P : Program} {t : TypeId} (ht : P.underlying t = some .bool) (b : Bool) : Plain (H := H) P t (.bool b) (.lit (.bool b)) := fun _ _ _ _ _ => shut_bool ht b
def In64 (n : Int) : Prop := -9223372036854775808 ≤ n ∧ n < 9223372036854775808
/-- Numbers in memory, at whatever place. -/
def RdW (w : World) (v : Value) (xs : List Int) : Prop :=
  ∃ p c, v = .slice p xs.length c ∧ (xs = [] ∨ ∃ b o, p = some ⟨b, o, none⟩ ∧ b < w.heap.size ∧ ∀ t, t < xs.length → w.cell? ⟨b, o + t, none⟩ = some (.int .i64 (xs.getD t 0)))
/-- A slice that is nil has no room; any has room for what is in it. -/
def NilCap (v : Value) : Prop := (∀ c, v = .slice none 0 c → c = 0) ∧ ∀ p n c, v = .slice p n c → n ≤ c
theorem Reads.rdw {w : World} {v : Value} {xs : List Int} (h : Reads w v xs) : RdW w v xs := by
  rcases h with ⟨rfl, rfl⟩ | ⟨b, o, c, rfl, hb, hc⟩
  · exact ⟨none, 0, rfl, .inl rfl⟩
  · exact ⟨_, c, rfl, .inr ⟨b, o, rfl, hb, hc⟩⟩
theorem RdW.keeps {F : Nat → Prop} {w w' : World} {v : Value} {xs : List Int} (h : RdW w v xs) (hK : Keeps F w w') (hn : ∀ k, v.ownBlock = some k → ¬ F k) : RdW w' v xs := by
  obtain ⟨p, c, rfl, h | ⟨b, o, rfl, hb, hc⟩⟩ := h
  · exact ⟨p, c, rfl, .inl h⟩
  · exact ⟨_, c, rfl, .inr ⟨b, o, rfl, Nat.lt_of_lt_of_le hb hK.size, fun t ht => (hK.cell (p := ⟨b, o + t, none⟩) hb (hn b rfl)).trans (hc t ht)⟩⟩
theorem RdW.below {w w' : World} {v : Value} {xs : List Int} (h : RdW w v xs) (hB : Below w.heap.size w w') : RdW w' v xs := h.keeps (Keeps.of_below (F := fun _ => False) hB) (fun _ _ h => h)
section
variable {H : Type} {enc : TypeId × Value → H} {w : World} {base : Nat} {sp : Nat → Bool} {held : Bool}
theorem getD_take {zs : List Int} {l t : Nat} (h : t < (zs.take l).length) : (zs.take l).getD t 0 = zs.getD t 0 := by
  rw [List.getD_eq_getElem?_getD, List.getD_eq_getElem?_getD, List.getElem?_take, if_pos (by rw [List.length_take] at h; omega)]
end
section
variable {H : Type} {enc : TypeId × Value → H} {w : World} {base : Nat} {sp : Nat → Bool} {held : Bool}
theorem open_args {fuel : Nat} {v : Value} {x : DataW H × List MemPlace} (h : DataW.trod enc Try.prog w base sp held fuel 25 [v] = some x) : ∃ xs, RdW w v xs ∧ (∀ z ∈ xs, In64 z) ∧ NilCap v := by
  rcases open_ints Try.underlying25 Try.underlying3 (by kernel_rfl) h with ⟨hcs, _⟩ | ⟨a, len, cap, zs, hcs, _, hl, hm, hz, _, hcell, hwz⟩
  · cases hcs
    exact ⟨[], ⟨none, 0, rfl, .inl rfl⟩, (fun _ h => by cases h), ⟨fun c h => by cases h; rfl, fun p n c h => by cases h; exact Nat.le_refl _⟩⟩
  · cases hcs
    have hlz : len ≤ zs.length := by rw [hz]; split <;> omega
    by_cases h0 : len = 0
    · subst h0
      exact ⟨[], ⟨_, cap, rfl, .inl rfl⟩, (fun _ h => by cases h), ⟨(fun c h => by cases h), fun p n c h => by cases h; exact hl⟩⟩
    · obtain ⟨b, off, spot⟩ := a
      have hc0 := hcell 0 (by omega)
      have hspot : spot = none := by simpa [Addr.add] using World.cell?_spot hc0
      subst hspot
      have hlen : (zs.take len).length = len := by simp; omega
      have hb : b < w.heap.size := by
        have := World.block_lt_of_cell? w _ hc0
        simpa [Addr.add] using this
      refine ⟨zs.take len, ⟨some ⟨b, off, none⟩, cap, by rw [hlen], .inr ⟨b, off, rfl, hb, fun t ht => ?_⟩⟩, fun z hz => i64_bounds (hwz z (List.mem_of_mem_take hz)), ⟨(fun c h => by cases h), fun p n c h => by cases h; exact hl⟩⟩
      have h1 := hcell t (by omega)
      rw [add_plain] at h1
      rw [h1, getD_take ht]
end
section
variable {H : Type} {enc : TypeId × Value → H} {w : World} {base : Nat} {sp : Nat → Bool} {held : Bool}
theorem choose_list {α : Type} {P : Nat → α → Prop} : ∀ n : Nat, (∀ i, i < n → ∃ a, P i a) → ∃ S : List α, S.length = n ∧ ∀ i (h : i < S.length), P i S[i]
  | 0, _ => ⟨[], rfl, fun i h => by cases h⟩
  | n + 1, h => by
    obtain ⟨S, hS, hP⟩ := choose_list n (fun i hi => h i (by omega))
    obtain ⟨a, ha⟩ := h n (by omega)
    refine ⟨S ++ [a], by simp [hS], fun i hi => ?_⟩
    rcases Nat.lt_or_ge i S.length with hlt | hge
    · rw [List.getElem_append_left hlt]
      exact hP i hlt
    · simp only [List.length_append, List.length_cons, List.length_nil] at hi
      obtain rfl : i = S.length := by omega
      rw [List.getElem_append_right (Nat.le_refl _)]
      simp only [Nat.sub_self, List.getElem_cons_zero]
      rw [hS]
      exact ha
end
section
variable {H : Type} {enc : TypeId × Value → H} {w : World} {base : Nat} {sp : Nat → Bool} {held : Bool}
theorem kept_arg {P : Program} {t : TypeId} (hl : laidOutB P = true) (hr : P.readableRec t = true) (hrow : t < P.types.size) {W W' : World} {v : Value} {d : DataW H} {ps : List MemPlace} (h : DataW.Trod enc P W 0 (fun _ => true) true t v d ps) (hb : Below W.heap.size W W') (hlt : ∀ x ∈ ps, x.block < W.heap.size) {sp : Nat → Bool} (hs : ∀ p ∈ ps, sp p.block = true) :
    DataW.Trod enc P W' 0 sp true t v d ps := WideElems.Trod_stays hl hr hrow h (fun x hx => hb.same (hlt x hx)) hs
end
section
variable {H : Type} {enc : TypeId × Value → H} {w : World} {base : Nat} {sp : Nat → Bool} {held : Bool}
theorem laidOut : laidOutB Try.prog = true := by kernel_rfl
end
section
variable {H : Type} {enc : TypeId × Value → H} {w : World} {base : Nat} {sp : Nat → Bool} {held : Bool}
/-- Numbers that came in, opened. -/
theorem open_nums {r : Reach} {b0 : Nat} {v : Value} {d : DataW H} {ps : List MemPlace} (hval : Value.okWide Try.prog w r b0 25 v) (h : DataW.Trod enc Try.prog w base sp held 25 v d ps) : ∃ xs, RdW w v xs ∧ (∀ z ∈ xs, In64 z) ∧ NilCap v := by
  obtain ⟨fuel, hf⟩ := h
  obtain ⟨a0, len0, cap0, rfl⟩ := okWide_slice Try.underlying25 hval
  exact open_args hf
end
theorem below_drewN {B : Nat} {w w' : World} (h : Below B w w') (n : Nat) : Below B w (w'.drewN n) := ⟨h.os, h.tape, h.output, h.size, h.block⟩
theorem getD_ext {xs ys : List Int} (hl : xs.length = ys.length) (h : ∀ t, t < xs.length → xs.getD t 0 = ys.getD t 0) : xs = ys := by
  apply List.ext_getElem hl
  intro i h1 h2
  have := h i h1
  rwa [List.getD_eq_getElem?_getD, List.getElem?_eq_getElem h1, List.getD_eq_getElem?_getD, List.getElem?_eq_getElem h2] at this
set_option maxHeartbeats 4000000 in
theorem ints_low (b o c b' o' c' n : Nat) (xs ys : List Int) (hx : xs.length = n) (hy : ys.length = n) (hn : n ≤ 2147483648) (w : World) (hb : b < w.heap.size) (hb' : b' < w.heap.size) (HC : Hid (∀ t, t < n → w.cell? ⟨b, o + t, none⟩ = some (.int .i64 (xs.getD t 0)))) (HC' : Hid (∀ t, t < n → w.cell? ⟨b', o' + t, none⟩ = some (.int .i64 (ys.getD t 0)))) : Calls Try.prog 13 #[.slice (some ⟨b, o, none⟩) n c, .slice (some ⟨b', o', none⟩) n c'] w fun e w' => e = .returned (.bool (decide (xs = ys))) ∧ Below w.heap.size w w' := by
  go_enter Try.func13, Try.ntmps13
  go_wp2
  go_loopw [5] (fun i wr => ∃ j : Nat, j ≤ n ∧ i = .int .i64 j ∧ (∀ t, t < j → xs.getD t 0 = ys.getD t 0) ∧ Below w.heap.size w wr) (fun i _ => n - (intOf i).toNat)
  case atStart => exact ⟨0, by omega, rfl, fun t h => by omega, Below.refl _ _⟩
  case round =>
    obtain ⟨j, hj, rfl, heq, hB⟩ := hrel
    have HE := (show Hid _ from heq)
    clear heq
    by_cases hlt : j < n
    · have c1 := (hB.cell (p := ⟨b, o + j, none⟩) hb).trans (HC.out j hlt)
      have c2 := (hB.cell (p := ⟨b', o' + j, none⟩) hb').trans (HC'.out j hlt)
      generalize hx1 : xs.getD j 0 = x at c1
      generalize hy1 : ys.getD j 0 = y at c2
      have HX := (show Hid _ from hx1)
      have HY := (show Hid _ from hy1)
      clear hx1 hy1
      by_cases hxy : x = y
      · subst hxy
        go_wp2
        go_quiet (fail)
        try simp only [Exit.then]
        go_wp2
        refine ⟨⟨j + 1, by omega, by simp, fun t ht => ?_, below_drewN hB _⟩, by simp [intOf]; omega⟩
        rcases Nat.lt_or_ge t j with h | h
        · exact HE.out t h
        · obtain rfl : t = j := by omega
          exact HX.out.trans HY.out.symm
      · have hd : (x != y) = true := by simpa using hxy
        go_wp2
        go_quiet (fail)
        try simp only [Exit.then]
        go_wp2
        go_ret
        refine ⟨?_, below_drewN hB _⟩
        rw [decide_eq_false (fun h => hxy (by rw [← HX.out, ← HY.out, h]))]
        rfl
    · go_wp2
      go_ret
      obtain rfl : j = n := by omega
      rw [decide_eq_true (getD_ext (hx.trans hy.symm) (by rw [hx]; exact HE.out))]
      exact ⟨rfl, hB⟩
set_option maxHeartbeats 1000000 in
theorem ints_len (p p' : Option Addr) (c c' n n' : Nat) (h : n ≠ n') (w : World) : Calls Try.prog 13 #[.slice p n c, .slice p' n' c'] w fun e w' => e = .returned (.bool false) ∧ w' = w := by
  have hne : ¬ (n : Int) = (n' : Int) := by omega
  go_enter Try.func13, Try.ntmps13
  go_wp2
  go_ret
  exact ⟨rfl, rfl⟩
set_option maxHeartbeats 1000000 in
theorem ints_none (p p' : Option Addr) (c c' : Nat) (w : World) : Calls Try.prog 13 #[.slice p 0 c, .slice p' 0 c'] w fun e w' => e = .returned (.bool true) ∧ w' = w := by
  go_enter Try.func13, Try.ntmps13
  go_wp2
  go_loopw [5] (fun i wr => i = .int .i64 0 ∧ wr = w) (fun _ _ => 0)
  case atStart => exact ⟨rfl, rfl⟩
  case round =>
    obtain ⟨rfl, rfl⟩ := hrel
    go_wp2
    go_ret
    exact ⟨rfl, rfl⟩
theorem ints_ok {w : World} {v u : Value} {xs ys : List Int} (hn : xs.length ≤ 2147483648) (hx : RdW w v xs) (hy : RdW w u ys) : Calls Try.prog 13 #[v, u] w fun e w' => e = .returned (.bool (decide (xs = ys))) ∧ Below w.heap.size w w' := by
  obtain ⟨p, c, rfl, hx⟩ := hx
  obtain ⟨p', c', rfl, hy⟩ := hy
  by_cases hl : xs.length = ys.length
  · rcases hx with rfl | ⟨b, o, rfl, hb, hc⟩
    · obtain rfl : ys = [] := List.eq_nil_of_length_eq_zero hl.symm
      refine (ints_none p p' c c' w).mono ?_
      rintro e w' ⟨rfl, rfl⟩
      exact ⟨rfl, Below.refl _ _⟩
    · rcases hy with rfl | ⟨b', o', rfl, hb', hc'⟩
      · obtain rfl : xs = [] := List.eq_nil_of_length_eq_zero hl
        refine (ints_none _ p' c c' w).mono ?_
        rintro e w' ⟨rfl, rfl⟩
        exact ⟨rfl, Below.refl _ _⟩
      · have := ints_low b o c b' o' c' xs.length xs ys rfl hl.symm hn w hb hb' hc (by rw [hl]; exact hc')
        rwa [← hl]
  · refine (ints_len p p' c c' _ _ hl w).mono ?_
    rintro e w' ⟨rfl, rfl⟩
    rw [decide_eq_false (fun h => hl (by rw [h]))]
    exact ⟨rfl, Below.refl _ _⟩
theorem RdW.alloc {w : World} {v : Value} {xs : List Int} (h : RdW w v xs) (o : Obj) : RdW (w.alloc o) v xs := h.below ((Below.refl _ w).alloc (Nat.le_refl _) o)
theorem rdw_news {w : World} {b o : Nat} {xs : List Int} (hc : ∀ t, t < xs.length → w.cell? ⟨b, o + t, none⟩ = some (.int .i64 (xs.getD t 0))) : ∀ j u, (xs.map (Value.int .i64))[j]? = some u → w.cell? ((⟨b, o, none⟩ : Addr).add j) = some u := ints_news rfl hc
set_option maxHeartbeats 1000000 in
theorem twin_some (b o c : Nat) (xs : List Int) (n : Nat) (hn : xs.length = n) (w : World) (h4 : n ≤ 1000) (hc : ∀ t, t < n → w.cell? ⟨b, o + t, none⟩ = some (.int .i64 (xs.getD t 0))) : Calls Try.prog 10 #[.slice (some ⟨b, o, none⟩) n c] w fun e w' => ∃ v, e = .returned v ∧ w'.ownsRow w.heap.size 3 1 v n (xs.map (Value.int .i64)) ∧ Below w.heap.size w w' := by
  obtain ⟨i0, hi, hz0, hz1, hz2⟩ := info_parts (P := Try.prog) (e := 3) (z := .int .i64 0) (size := 1) (bytes := 8) (by kernel_rfl)
  have HC := (show Hid _ from hc)
  clear hc
  go_enter Try.func10, Try.ntmps10
  go_wp2_with (at_builtin; refine wpList_append_own _ rfl (.tmp 4) (.tmp 5) 25 rfl w.heap.size 3 i0 (.int .i64 0) 1 8 Try.underlying25 hi hz0 hz1 hz2 rfl (by decide) (.slice none 0 0) 0 [] rfl (World.ownsRow_nil _ _ _ _) ⟨b, o, none⟩ n c (xs.map (Value.int .i64)) rfl (by simp [hn]) (ints_news hn HC.out) (ints_oneCell _ _) (by unfold maxLen; omega) (by omega) (by simp) ?_; intro v' w1 hown1 hgrow1 _)
  go_ret
  exact ⟨v', rfl, by simpa using hown1, (Below.refl _ _).grown hgrow1 (Nat.le_refl _) (fun _ hk => by simp [Value.ownBlock] at hk)⟩
set_option maxHeartbeats 1000000 in
theorem twin_none (a : Addr) (c : Nat) (w : World) : Calls Try.prog 10 #[.slice (some a) 0 c] w fun e w' => ∃ v, e = .returned v ∧ w'.ownsRow w.heap.size 3 1 v 0 [] ∧ Below w.heap.size w w' := by
  obtain ⟨i0, hi, hz0, hz1, hz2⟩ := info_parts (P := Try.prog) (e := 3) (z := .int .i64 0) (size := 1) (bytes := 8) (by kernel_rfl)
  go_enter Try.func10, Try.ntmps10
  go_wp2_with (at_builtin; refine wpList_append_own _ rfl (.tmp 4) (.tmp 5) 25 rfl w.heap.size 3 i0 (.int .i64 0) 1 8 Try.underlying25 hi hz0 hz1 hz2 rfl (by decide) (.slice none 0 0) 0 [] rfl (World.ownsRow_nil _ _ _ _) a 0 c [] rfl (by simp) (fun j u h => by simp at h) (fun u h => by cases h) (by unfold maxLen; omega) (by omega) (by simp) ?_; intro v' w1 hown1 hgrow1 _)
  go_ret
  exact ⟨v', rfl, by simpa using hown1, (Below.refl _ _).grown hgrow1 (Nat.le_refl _) (fun _ hk => by simp [Value.ownBlock] at hk)⟩
set_option maxHeartbeats 1000000 in
theorem twin_nil (w : World) : Calls Try.prog 10 #[.slice none 0 0] w fun e w' => e = .returned (.slice none 0 0) ∧ w' = w := by
  go_enter Try.func10, Try.ntmps10
  go_wp2
  go_ret
  exact ⟨rfl, rfl⟩
theorem twin_ok {w : World} {v : Value} {xs : List Int} (h : RdW w v xs) (h4 : xs.length ≤ 1000) (hnil : ∀ c, v = .slice none 0 c → c = 0) : Calls Try.prog 10 #[v] w fun e w' => ∃ p c, e = .returned (.slice p xs.length c) ∧ w'.ownsRow w.heap.size 3 1 (.slice p xs.length c) xs.length (xs.map (Value.int .i64)) ∧ Below w.heap.size w w' := by
  obtain ⟨p, c, rfl, rfl | ⟨b, o, rfl, hb, hc⟩⟩ := h
  · cases p with
    | none =>
      obtain rfl := hnil c rfl
      refine (twin_nil w).mono ?_
      rintro e w' ⟨rfl, rfl⟩
      exact ⟨none, 0, rfl, World.ownsRow_nil _ _ _ _, Below.refl _ _⟩
    | some a =>
      refine (twin_none a c w).mono ?_
      rintro e w' ⟨v, rfl, hown, hB⟩
      obtain ⟨p, c, rfl⟩ := row_slice hown
      exact ⟨p, c, rfl, hown, hB⟩
  · refine (twin_some b o c xs _ rfl w h4 hc).mono ?_
    rintro e w' ⟨v, rfl, hown, hB⟩
    obtain ⟨p, c, rfl⟩ := row_slice hown
    exact ⟨p, c, rfl, hown, hB⟩
theorem rdw_at {w : World} {p : Option Addr} {n c t : Nat} {xs : List Int} (h : RdW w (.slice p n c) xs) (ht : t < xs.length) : ∃ b o, p = some ⟨b, o, none⟩ ∧ b < w.heap.size ∧ w.cell? ⟨b, o + t, none⟩ = some (.int .i64 (xs.getD t 0)) := by
  obtain ⟨p', c', e, h⟩ := h
  cases e
  rcases h with rfl | ⟨b, o, rfl, hb, hc⟩
  · cases ht
  · exact ⟨b, o, rfl, hb, hc t ht⟩
theorem own_below {w w' : World} {base e size n : Nat} {v : Value} {ys : List Value} {B : Nat} (h : w.ownsRow base e size v n ys) (hB : Below B w w') (hk : ∀ k, v.ownBlock = some k → k < B) : w'.ownsRow base e size v n ys := row_keeps (F := fun k => B ≤ k) h ⟨hB.os, hB.tape, hB.output, hB.size, fun k h1 h2 => hB.block k (by omega)⟩ (fun k h1 h2 => by have := hk k h1; omega)
end Go.Proofs.Ytcpcnjblojoppaa
