/-
  THE SHADOW MACHINE: regions whose order is open: all of it. Own work.
-/
import Derived.Test.YtnlhpiieihnbiaaDoorShN
namespace Go.Sh

section
variable {ν : Nat → Int} {F : Facts} {P : Program} {call : CallFn} {xs : List IOp} {st : Nat → St} {ops : Array Oper} {N : Nat} {L : Lone}
variable {d0 : List Deferred} {ρ0 : Emb} {w0 : World} {S : Nat → Prop} {ρ : Emb} {a : Act} {w : World} {Q : Exit → Act → World → Prop}

theorem Inv.op (hF : F.Hold ν) (hc : CallSim ν P call) (hI : Inv ν L xs st N d0 ρ0 w0 S ρ a w) (hT : Trace F call L xs st) (hD : OkD xs) (hL : LoneOk L xs) (h0 : (st 0).2.2 = []) {i : Nat} {x : IOp} {o : Oper} (hx : xs[i]? = some x) (ho : ops[i]? = some o) (hok : IOk P N ops o x)
    (hS : ¬ S i) (hanc : ∀ j ∈ x.anc, S j) {K : Act → World → Prop} (hK : ∀ ρ' a' w', Inv ν L xs st N d0 ρ0 w0 (fun j => S j ∨ j = i) ρ' a' w' → K a' w') : wpOp P ops Q i K a w := by
  have hi : i < xs.length := (List.getElem?_eq_some_iff.1 hx).1
  obtain ⟨r, hput, hk⟩ := hT.step i x hx
  have hlt : ∀ d, x.dst = some d → d < N := by rw [hok.dst]; exact hok.lt
  have hg : ∀ g, x.guard = some g → ∀ y, (st i).1.get g.1 = some y → VR ν ρ y (a.tmps.getD g.1 undef) := fun g hgx y hy => hI.reads hD hx hS hanc (by simp [IOp.slots, hgx]) hy
  unfold wpOp
  simp only [ho]
  cases hk with
  | skip hw hs =>
    rw [wanted_sim (ν := ν) (ρ := ρ) hok.guard hg hw]
    simp only [Bool.false_eq_true, if_false]
    rw [← hok.dst]
    refine hK ρ _ w (hI.still hT hD hx hS hanc (VR.tp [] #[] rfl (by simp)) hput hlt hs ?_)
    rintro b (⟨y, hy, _, _, hwy⟩ | ⟨y, hy, _, _, hwy, _⟩) <;> (rw [hx] at hy; cases hy; rw [hw] at hwy; cases hwy)
  | pure r hw hp hv hs =>
    rw [wanted_sim (ν := ν) (ρ := ρ) hok.guard hg hw]
    simp only [if_true]
    left
    have hop1 : cOp P o = some x.op := hok.op.resolve_right (fun hb => by rw [hb] at hv; cases hv)
    have hv' : pureA F (maskE (st i).1 x.op.slots) x.op = some r := by
      rw [← hv]
      refine pureA_congr fun t ht => ?_
      rw [maskE_get _ _ (fun t ht => hD.room i x hx t (by simp [IOp.slots, ht])), if_pos ht]
    obtain ⟨v, h1, h2⟩ := pure_sim (P := P) (w := w) (o := o) hF (hI.mask hD hx hS hanc) hop1 hp hv'
    unfold Oper.wp
    rw [h1]
    show K (a.put o.dst v) w
    rw [← hok.dst]
    refine hK ρ _ w (hI.still hT hD hx hS hanc h2 hput hlt hs ?_)
    rintro b (⟨y, hy, _, hpy, _⟩ | ⟨y, hy, _, hpy, _⟩) <;> (rw [hx] at hy; cases hy; rw [hp] at hpy; cases hpy)
  | free r hw hp hf hv hs =>
    rw [wanted_sim (ν := ν) (ρ := ρ) hok.guard hg hw]
    simp only [if_true]
    left
    have hop1 : cOp P o = some x.op := hok.op.resolve_right (fun hb => by rw [hb] at hv; cases hv)
    have hfr : Fresh ρ (st i).2.1 (st (i + 1)).2.1 := fun b h1 h2 => hI.void i hi hS b h1 h2
    refine Oper.wp_mono ?_ (op_sim hF hc (hI.free hT hD hx hS hanc hp hf) (hI.mask hD hx hS hanc) hop1 ((hI.same hD hx).trans hv) hfr Q)
    rintro a' w' ⟨v, rfl, ha⟩
    obtain ⟨ρ', hI'⟩ := hI.freed hT hD hx hS hanc hp hf hw hput hlt ha
    rw [← hok.dst]
    exact hK ρ' _ w' hI'
  | lone r b off n p q hw hop hf hl hb hok2 hhid hv hs =>
    rw [wanted_sim (ν := ν) (ρ := ρ) hok.guard hg hw]
    simp only [if_true]
    left
    have hp : x.op.isPure = false := by rw [hop]; rfl
    have hop1 : cOp P o = some x.op := hok.op.resolve_right (fun hb => by rw [hop] at hb; cases hb)
    obtain ⟨y, z, Ho, g1, g2, g3, g4, g5, g6, g7, g8, g9⟩ := st_only hv hb
    have hnx := (st_spec hv hb).2.1
    have hfit : Fits L xs st b i S := hI.fitsL hD hL hx hS hanc hp (loneOk_shows hok2)
    have hvis : Vis st i S b := hI.vis hT hD hx hS hanc hp hhid
    have og := only_get (z := y) (H := (st i).2.1) g4 g3
    have hho : HR ν ρ ((st i).2.1.only b y) w := by
      refine ⟨fun c u hu => ?_, fun c c' u u' q q' hne hu hu' _ _ _ => ?_⟩
      · rw [og c] at hu
        split at hu
        · rename_i e
          subst e
          cases hu
          exact hI.blk i c hfit y g1 hvis
        · cases hu
      · rw [og c] at hu
        rw [og c'] at hu'
        split at hu
        · split at hu'
          · rename_i e1 e2
            exact absurd (e1.trans e2.symm) hne
          · cases hu'
        · cases hu
    have hfr : Fresh ρ ((st i).2.1.only b y) Ho := fun c h1 h2 => by
      rw [g9] at h2
      have : ((st i).2.1.only b y).next = (st i).2.1.next := rfl
      omega
    have hv2 : opA F call (maskE (st i).1 x.op.slots) ((st i).2.1.only b y) x.op = some (r, Ho) := by
      rw [hI.same hD hx, hop]
      exact g5
    refine Oper.wp_mono ?_ (op_sim hF hc hho (hI.mask hD hx hS hanc) hop1 hv2 hfr Q)
    rintro a' w' ⟨v, rfl, ha⟩
    obtain ⟨ρ', hI'⟩ := hI.loned hT hD hL hx hS hanc hp hf hw hl hok2 hhid hput hlt g1 g2 g6 g7 g8 g9 hnx ha g4 g3
    rw [← hok.dst]
    exact hK ρ' _ w' hI'
  | mono r H' hw hp hf hl hv hs hs2 =>
    rw [wanted_sim (ν := ν) (ρ := ρ) hok.guard hg hw]
    simp only [if_true]
    left
    have hop1 : cOp P o = some x.op := hok.op.resolve_right (fun hb => by rw [hb] at hv; cases hv)
    have hn : (st (i + 1)).2.1.next = H'.next := by rw [hs]
    have hfr : Fresh ρ (Seen L i x (st i)) H' := fun b h1 h2 => hI.void i hi hS b h1 (by omega)
    have hv2 : opA F call (st i).1 (Seen L i x (st i)) x.op = some (r, H') := hv
    refine Oper.wp_mono ?_ (op_sim hF hc (hI.seen hT hD hL hx hS hanc hp).1 (hI.mask hD hx hS hanc) hop1 ((hI.same hD hx).trans hv2) hfr Q)
    rintro a' w' ⟨v, rfl, ha⟩
    obtain ⟨ρ', hI'⟩ := hI.sealed hT hD hL h0 hx hl hS hanc hp hf hput hlt (opA_keeps hc.keeps hv2) hs ha
    rw [← hok.dst]
    exact hK ρ' _ w' hI'

/-- What a compiled region of open order is, beside its code. -/
structure OkE (ops : Array Oper) (xs : List IOp) : Prop where
  size : xs.length = ops.size
  anc : ∀ (i : Nat) x o, xs[i]? = some x → ops[i]? = some o → ∀ j ∈ x.anc, ∃ e ∈ o.after, Region.binds .any e = true ∧ (j = e.on ∨ ∃ y, xs[e.on]? = some y ∧ j ∈ y.anc)
  lt : ∀ (i : Nat) o, ops[i]? = some o → ∀ e ∈ o.after, Region.binds .any e = true → e.on < i

def okE (ops : Array Oper) (xs : List IOp) : Bool :=
  Nat.beq xs.length ops.size &&
  allI (fun i x => match ops[i]? with
    | some o => x.anc.all (fun j => o.after.toList.any fun e => Region.binds .any e && (Nat.beq j e.on || (match xs[e.on]? with | some y => y.anc.contains j | none => false))) && o.after.all (fun e => !Region.binds .any e || Nat.blt e.on i)
    | none => false) 0 xs

theorem okE_spec {ops : Array Oper} {xs : List IOp} (h : okE ops xs = true) : OkE ops xs := by
  simp only [okE, Bool.and_eq_true] at h
  have hs := Nat.eq_of_beq_eq_true h.1
  have h1 := allI_spec xs 0 h.2
  simp only [Nat.zero_add] at h1
  refine ⟨hs, fun i x o hx ho j hj => ?_, fun i o ho e he hb => ?_⟩
  · have h2 := h1 i x hx
    rw [ho] at h2
    simp only [Bool.and_eq_true, List.all_eq_true] at h2
    have h2a := h2.1 j hj
    rw [List.any_eq_true] at h2a
    obtain ⟨e, he, hb⟩ := h2a
    simp only [Bool.and_eq_true, Bool.or_eq_true] at hb
    refine ⟨e, by simpa using he, hb.1, ?_⟩
    rcases hb.2 with h3 | h3
    · exact .inl (Nat.eq_of_beq_eq_true h3)
    · right
      split at h3
      · rename_i y hy
        exact ⟨y, hy, by simpa using h3⟩
      · cases h3
  · have hi : i < xs.length := by rw [hs]; exact (Array.getElem?_eq_some_iff.1 ho).1
    have h2 := h1 i xs[i] (by simp [hi])
    rw [ho] at h2
    simp only [Bool.and_eq_true, Array.all_eq_true_iff_forall_mem] at h2
    have h3 := h2.2 e he
    simpa [hb] using h3

theorem draw_any (hF : F.Hold ν) (hc : CallSim ν P call) (hT : Trace F call L xs st) (hD : OkD xs) (hL : LoneOk L xs) (hE : OkE ops xs) (h0 : (st 0).2.2 = []) (hok : ∀ (i : Nat) x, xs[i]? = some x → ∃ o, ops[i]? = some o ∧ IOk P N ops o x)
    (hQ : ∀ ρ a w, Inv ν L xs st N d0 ρ0 w0 (fun _ => True) ρ a w → Q .normal a w) : ∀ (fuel : Nat) (listed : Array Bool) (ρ : Emb) (a : Act) (w : World), listed.size = xs.length →
      ((List.range xs.length).filter fun j => !listed.getD j false).length ≤ fuel → Inv ν L xs st N d0 ρ0 w0 (fun j => listed.getD j false = true ∨ xs.length ≤ j) ρ a w → wpAny P .any ops Q fuel listed a w := by
  have fin : ∀ (listed : Array Bool) (ρ : Emb) (a : Act) (w : World), listed.size = xs.length → Region.ready .any ops listed = [] → Inv ν L xs st N d0 ρ0 w0 (fun j => listed.getD j false = true ∨ xs.length ≤ j) ρ a w → Q .normal a w := by
    intro listed ρ a w hsz hr hI
    have hall : ∀ n i, i < n → i < xs.length → listed.getD i false = true := by
      intro n
      induction n with
      | zero => intro i h; omega
      | succ n ih =>
        intro i hin hi
        cases hb : listed.getD i false with
        | true => rfl
        | false =>
          exfalso
          obtain ⟨o, ho, _⟩ := hok i xs[i] (by simp [hi])
          have : i ∈ Region.ready .any ops listed := by
            refine mem_ready.2 ⟨?_, o, ho, fun e he hbind => ih e.on ?_ ?_⟩
            · rw [Array.getD_eq_getD_getElem?] at hb ⊢
              rw [Array.getElem?_eq_getElem (by omega)] at hb ⊢
              simpa using hb
            · have := hE.lt i o ho e he hbind; omega
            · have := hE.lt i o ho e he hbind; omega
          rw [hr] at this
          cases this
    refine hQ ρ a w ?_
    have : (fun j => listed.getD j false = true ∨ xs.length ≤ j) = fun _ => True := by
      funext j
      apply propext
      refine ⟨fun _ => trivial, fun _ => ?_⟩
      rcases Nat.lt_or_ge j xs.length with h | h
      · exact .inl (hall (j + 1) j (by omega) h)
      · exact .inr h
    rw [this] at hI
    exact hI
  intro fuel
  induction fuel with
  | zero =>
    intro listed ρ a w hsz hf hI
    have hr : Region.ready .any ops listed = [] := by
      rw [List.eq_nil_iff_forall_not_mem]
      intro i hi
      obtain ⟨h1, o, ho, _⟩ := mem_ready.1 hi
      have hlt : i < xs.length := by rw [hE.size]; exact (Array.getElem?_eq_some_iff.1 ho).1
      have : i ∈ (List.range xs.length).filter fun j => !listed.getD j false := by
        rw [List.mem_filter, List.mem_range]
        refine ⟨hlt, ?_⟩
        rw [Array.getD_eq_getD_getElem?, Array.getElem?_eq_getElem (by omega)] at h1 ⊢
        simpa using h1
      have := List.length_pos_of_mem this
      omega
    exact ⟨hr, fin listed ρ a w hsz hr hI⟩
  | succ fuel ih =>
    intro listed ρ a w hsz hf hI
    refine ⟨fun hr => fin listed ρ a w hsz hr hI, fun i hi => ?_⟩
    obtain ⟨h1, o, ho, h2⟩ := mem_ready.1 hi
    have hlt : i < xs.length := by rw [hE.size]; exact (Array.getElem?_eq_some_iff.1 ho).1
    have hx : xs[i]? = some xs[i] := by simp [hlt]
    obtain ⟨o', ho', hok'⟩ := hok i xs[i] hx
    rw [ho] at ho'
    cases ho'
    have hnot : listed.getD i false = false := by
      rw [Array.getD_eq_getD_getElem?, Array.getElem?_eq_getElem (by omega)] at h1 ⊢
      simpa using h1
    have hnS : ¬ (listed.getD i false = true ∨ xs.length ≤ i) := by
      rintro (h | h)
      · rw [hnot] at h; cases h
      · omega
    refine hI.op (ops := ops) (Q := Q) hF hc hT hD hL h0 hx ho hok' hnS (fun j hj => ?_) (fun ρ' a' w' hI' => ?_)
    · obtain ⟨e, he, hb, h3⟩ := hE.anc i xs[i] o hx ho j hj
      have hl := h2 e he hb
      rcases h3 with rfl | ⟨y, hy, hjy⟩
      · exact .inl hl
      · exact hI.closed e.on y hy (.inl hl) j hjy
    · refine ih (listed.setIfInBounds i true) ρ' a' w' (by simpa using hsz) ?_ ?_
      · have hsub : ((List.range xs.length).filter fun j => !(listed.setIfInBounds i true).getD j false) = ((List.range xs.length).filter fun j => !listed.getD j false).filter fun j => j != i := by
          rw [List.filter_filter]
          refine List.filter_congr fun j hj => ?_
          by_cases e : j = i
          · subst e
            simp [Array.getD_eq_getD_getElem?, hsz, hlt]
          · have : (listed.setIfInBounds i true).getD j false = listed.getD j false := by
              simp [Array.getD_eq_getD_getElem?, Ne.symm e]
            rw [this]
            simp [e]
        rw [hsub]
        have hmem : i ∈ (List.range xs.length).filter fun j => !listed.getD j false := by
          rw [List.mem_filter, List.mem_range]
          exact ⟨hlt, by simp [hnot]⟩
        have := List.length_filter_lt_length_iff_exists (p := fun j => j != i) |>.2 ⟨i, hmem, by simp⟩
        omega
      · have e : (fun j => (listed.setIfInBounds i true).getD j false = true ∨ xs.length ≤ j) = fun j => (listed.getD j false = true ∨ xs.length ≤ j) ∨ j = i := by
          funext j
          apply propext
          by_cases e : j = i
          · subst e
            simp [Array.getD_eq_getD_getElem?, hsz, hlt]
          · have : (listed.setIfInBounds i true).getD j false = listed.getD j false := by
              simp [Array.getD_eq_getD_getElem?, Ne.symm e]
            rw [this]
            simp [e]
        rw [e]
        exact hI'

theorem Inv.start (hT : Trace F call L xs st) (hD : OkD xs) (he : ER ν ρ0 (st 0).1 a.tmps) (hh : HR ν ρ0 (st 0).2.1 w) (hfr : Fresh ρ0 (st 0).2.1 (st xs.length).2.1) (hN : a.tmps.size = N) : Inv ν L xs st N a.defers ρ0 w (fun j => xs.length ≤ j) ρ0 a w := by
  have nowr : ∀ m b, Fits L xs st b m (fun j => xs.length ≤ j) → ∀ k, k < m → ¬ Wb L xs st b k := fun m b hm k h1 hk => by
    have h2 : xs.length ≤ k := (hm.2 k hk).1 h1
    have := hm.1
    omega
  have old : ∀ m b, Fits L xs st b m (fun j => xs.length ≤ j) → ∀ z, (st m).2.1.get b = some z → Vis st m (fun j => xs.length ≤ j) b → (st 0).2.1.get b = some z := by
    intro m b hm z hz hv
    have hlt : b < (st 0).2.1.next := by
      rcases Nat.lt_or_ge b (st 0).2.1.next with h | h
      · exact h
      · exfalso
        have hbm : b < (st m).2.1.next := by
          unfold AH.get at hz
          split at hz
          · cases hz
          · split at hz
            · rename_i h3
              have := hT.low
              have h5 := (hT.facts m hm.1).1
              have h4 := (hT.facts m hm.1).2.2
              simp only [Nat.blt_eq] at h3
              omega
            · split at hz
              · rename_i h3; simpa using h3
              · cases hz
        obtain ⟨k, g1, g2, g3⟩ := Trace.cover st xs m hm.1 b h hbm
        have h6 : xs.length ≤ k := hv k g1 g2 g3
        have := hm.1
        omega
    rw [← hT.stable' (i := 0) (j := m) (by omega) hm.1 (fun k _ h2 => nowr m b hm k h2) hlt]
    exact hz
  refine ⟨fun i x hx hi => by have := (List.getElem?_eq_some_iff.1 hx).1; omega, fun m b hm z h1 h2 => hh.blk b z (old m b hm z h1 h2), fun m m' b b' hm hm' z z' q q' h1 h2 h3 h4 h5 h6 h7 h8 => hh.apart b b' z z' q q' h1 (old m b hm z h2 h4) (old m' b' hm' z' h3 h5) h6 h7 h8,
    fun i hi hn b h1 h2 => hfr b (Nat.le_trans (hT.facts i (by omega)).2.2 h1) (Nat.lt_of_lt_of_le h2 (hT.mono' (by omega) (Nat.le_refl _))), fun t m hm hfit y hy => ?_, Emb.le_refl _, fun b h1 h2 => (h2 h1).elim, Nat.le_refl _, rfl, rfl, rfl, fun _ _ _ => rfl,
    fun m b hm z q h1 h2 h3 h4 h5 => ⟨b, z, q, old m b hm z h1 h4, h2, h3, rfl⟩, fun b q h1 h2 => (by rw [h1] at h2; cases h2), hN, rfl⟩
  have _ := hD
  have hst := hT.env_stable t 0 m (by omega) (fun j x _ h2 hx hd => by
    have h3 : xs.length ≤ j := (hfit j x hx hd).1 (by omega)
    omega)
  rw [Nat.zero_add] at hst
  rw [hst] at hy
  exact he t y hy

theorem Inv.finish (hT : Trace F call L xs st) (hI : Inv ν L xs st N d0 ρ0 w0 (fun _ => True) ρ a w) : ER ν ρ (st xs.length).1 a.tmps ∧ HR ν ρ (st xs.length).2.1 w ∧ Stp ρ0 (st 0).2.1 w0 ρ (st xs.length).2.1 w := by
  have hfit : ∀ b, Fits L xs st b xs.length (fun _ => True) := fun b => ⟨Nat.le_refl _, fun j hj => ⟨fun _ => trivial, fun _ => by rcases hj with ⟨x, hx, _⟩ | ⟨x, hx, _⟩ <;> exact (List.getElem?_eq_some_iff.1 hx).1⟩⟩
  have hvis : ∀ b, Vis st xs.length (fun _ => True) b := fun _ _ _ _ _ => trivial
  have _ := hT.low
  refine ⟨fun t y hy => hI.env t xs.length (Nat.le_refl _) (fun j x hx _ => ⟨fun _ => trivial, fun _ => (List.getElem?_eq_some_iff.1 hx).1⟩) y hy, ⟨fun b z hz => hI.blk _ b (hfit b) z hz (hvis b), fun b b' z z' q q' h1 h2 h3 h4 h5 h6 => hI.apart _ _ b b' (hfit b) (hfit b') z z' q q' h1 h2 h3 (hvis b) (hvis b') h4 h5 h6⟩,
    ⟨hI.ext, hI.fresh, hI.size, hI.os, hI.tape, hI.output, hI.frame, fun cb hc ⟨b, z, q, h1, h2, h3, h4⟩ => ?_, hI.place⟩⟩
  have := hI.owned _ b (hfit b) z q h1 h2 h3 (hvis b) (by omega)
  rwa [h4] at this

/-- A REGION WHOSE ORDER IS OPEN. -/
theorem draw_sim (hF : F.Hold ν) (hc : CallSim ν P call) (hm : P.follows .mixedOrders = true) (hD : OkD xs) (hE : OkE ops xs) (hok : ∀ (i : Nat) x, xs[i]? = some x → ∃ o, ops[i]? = some o ∧ IOk P N ops o x) {id : Nat} {e e' : Tr AV} {H H' : AH} {sp : Spans}
    (h : foldD F call L 0 xs (e, H, []) = some (e', H', sp)) (hL : LoneOk L xs) (hlow : H.low ≤ H.next) (he : ER ν ρ e a.tmps) (hh : HR ν ρ H w) (hfr : Fresh ρ H H') (hN : a.tmps.size = N)
    (hQ : ∀ ρ' a' w', ER ν ρ' e' a'.tmps → HR ν ρ' H' w' → Stp ρ H w ρ' H' w' → a'.tmps.size = N → a'.defers = a.defers → Q .normal a' w') : (Code.region id ops true).wp P Q a w := by
  obtain ⟨st, h0, h1, h2⟩ := fold_trace xs 0 _ _ h
  have hT : Trace F call L xs st := ⟨fun i x hx => stepD_kd (by have := h2 i x hx; rwa [Nat.zero_add] at this), hc.keeps, by rw [h0]; exact hlow⟩
  refine wp_region_any hm ?_
  have hst : Inv ν L xs st N a.defers ρ { w with drawn := w.drawn + 1 } (fun j => (Array.replicate ops.size false).getD j false = true ∨ xs.length ≤ j) ρ a { w with drawn := w.drawn + 1 } := by
    have e1 : (fun j => (Array.replicate ops.size false).getD j false = true ∨ xs.length ≤ j) = fun j => xs.length ≤ j := by
      funext j
      apply propext
      have : (Array.replicate ops.size false).getD j false = false := by
        rw [Array.getD_eq_getD_getElem?, Array.getElem?_replicate]
        split <;> rfl
      rw [this]
      simp
    rw [e1]
    refine Inv.start hT hD ?_ ?_ ?_ hN
    · rw [h0]; exact he
    · rw [h0]; exact hh.drawn _
    · rw [h0, h1]; exact hfr
  refine draw_any hF hc hT hD hL hE (by rw [h0]) hok ?_ ops.size _ ρ a _ (by simp [hE.size]) ?_ hst
  · intro ρ' a' w' hI
    obtain ⟨g1, g2, g3⟩ := Inv.finish hT hI
    rw [h1] at g1 g2 g3
    rw [h0] at g3
    exact hQ ρ' a' w' g1 g2 ⟨g3.ext, g3.fresh, g3.size, g3.os, g3.tape, g3.output, g3.frame, g3.owned, g3.place⟩ hI.tmps hI.defers
  · refine Nat.le_trans (List.length_filter_le _ _) ?_
    simp [hE.size]

end
end Go.Sh
