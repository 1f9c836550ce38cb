/-
  What holds, under other names and other numbers of blocks, with windows moved, grown, opened, shut. Own work.
-/
import Derived.Test.YtjdcaipgfolgoaaDoorXh
namespace Go.Proofs.YtjdcaipgfolgoaaDoor
open Go.Sh
open Go.ChangeShapes Go.WideShapes Go.ChangeAt Go.RowKit
set_option maxRecDepth 100000

def AgreeR (D : List Nat) (σ : Nat → Nat) (f : Nat → Pl → Pl) (ρ ρ' : Emb) : Prop := ∀ b, b ∈ D → ∀ pl, ρ (σ b) = some pl → ρ' b = some (f b pl)
def SlotR (ν ν' : Nat → Int) (D : List Nat) (σ : Nat → Nat) (f : Nat → Pl → Pl) (x y : AV) : Prop := ∀ ρ ρ' v, AgreeR D σ f ρ ρ' → VR ν ρ x v → VR ν' ρ' y v
def BlkR (ν ν' : Nat → Int) (g : Pl → Pl) (x y : ABlk) : Prop := ∀ ρ ρ' w pl, BR ν ρ w x pl → BR ν' ρ' w y (g pl)
section
variable {N : Nat} {w0 : World} {ν ν' : Nat → Int} {gl : Gl} {L fx : List (Nat × Pl)} {kp : List (Nat × Obj)}
theorem HoldsX.re {e e' : List (Nat × AV)} {H H' : List (Nat × ABlk)} {n n' : Nat} {a : Act} {w : World} (D : List Nat) (σ : Nat → Nat) (f : Nat → Pl → Pl) (hG : GlOk gl) (h : HoldsX N w0 ν gl L fx kp ⟨e, H, n⟩ a w) (hg : gmax ≤ n') (hf : ∀ b pl, (f b pl).cb = pl.cb)
    (hD : ∀ b ∈ D, gmax ≤ b ∧ b < n') (hinj : ∀ b ∈ D, ∀ b' ∈ D, σ b = σ b' → b = b')
    (he : ∀ p ∈ e', ∃ x, (p.1, x) ∈ e ∧ SlotR ν ν' D σ f x p.2)
    (hH : ∀ p ∈ H', p.1 ∈ D ∧ ∃ x, (heapL (H ++ gl) n).get (σ p.1) = some x ∧ (p.2.own = true → x.own = true) ∧ BlkR ν ν' (f p.1) x p.2) :
    HoldsX N w0 ν' gl L [] kp ⟨e', H', n'⟩ a w := by
  obtain ⟨ρ, h0, h1, h2, h3, h4, h5, h6⟩ := h.has
  have hl : ∀ p ∈ H', gmax ≤ p.1 := fun p hp => (hD _ (hH p hp).1).1
  have hgl : ∀ p ∈ gl, p.1 < gmax := fun p hp => (hG p hp).1
  let ρ' : Emb := ⟨fun b => if b < gmax then ρ b else if b ∈ D then (ρ (σ b)).map (f b) else none, fun b hb => by
    obtain ⟨i, hi⟩ := ρ.glob b hb
    exact ⟨i, by rw [if_pos hb]; exact hi⟩⟩
  have at_ : ∀ b, b ∈ D → ρ' b = (ρ (σ b)).map (f b) := fun b hb => by
    show (if b < gmax then ρ b else if b ∈ D then (ρ (σ b)).map (f b) else none) = _
    rw [if_neg (by have := (hD b hb).1; omega), if_pos hb]
  have hA : AgreeR D σ f ρ ρ' := fun b hb pl hpl => by
    have hpl : ρ (σ b) = some pl := hpl
    rw [at_ b hb, hpl]
    rfl
  have bn : ∀ b x, (heapL (H' ++ gl) n').get b = some x → (b ∈ D ∧ ∃ y, (heapL (H ++ gl) n).get (σ b) = some y ∧ (x.own = true → y.own = true) ∧ BlkR ν ν' (f b) y x) ∨ (b < gmax ∧ ∃ y, (b, y) ∈ gl ∧ x = y.shut) := by
    intro b x hx
    rcases heapG_get hl hgl hx with ⟨hb, hm, _⟩ | ⟨hb, y, hy, rfl⟩
    · exact .inl (hH _ hm)
    · exact .inr ⟨hb, y, hy, rfl⟩
  have back : ∀ b q, b ∈ D → ρ' b = some q → ∃ q0, ρ (σ b) = some q0 ∧ q0.cb = q.cb := by
    intro b q hb hq
    rw [at_ b hb] at hq
    cases hr : ρ (σ b) with
    | none => rw [hr] at hq; cases hq
    | some q0 =>
      rw [hr] at hq
      cases hq
      exact ⟨q0, rfl, (hf b q0).symm⟩
  have ow : ∀ cb, Owned ρ' (heapL (H' ++ gl) n') cb → Owned ρ (heapL (H ++ gl) n) cb := by
    rintro cb ⟨b, x, pl, k1, k2, k3, k4⟩
    rcases bn b x k1 with ⟨q1, y, q3, q4, _⟩ | ⟨_, y, _, rfl⟩
    · obtain ⟨q0, m1, m2⟩ := back b pl q1 k3
      exact ⟨σ b, y, q0, q3, q4 k2, m1, m2.trans k4⟩
    · cases k2
  refine ⟨hl, hg, ⟨ρ', (fun p (hp : p ∈ ([] : List (Nat × Pl))) => absurd hp (by simp)), fun p hp => ?_, ⟨fun b x hx => ?_, fun b b' x x' pl pl' hne hx hx' ho hp hp' => ?_⟩, fun b hb => ?_, fun cb ho => h4 cb (ow cb ho), fun p hp ho => h5 p hp (ow _ ho), fun p hp ho => h6 p hp (ow _ ho)⟩, h.kept, h.laid, h.below, h.tmps, h.defers⟩
  · obtain ⟨x, q1, q2⟩ := he p hp
    exact q2 ρ ρ' _ hA (h1 _ q1)
  · rcases bn b x hx with ⟨q1, y, q3, _, q5⟩ | ⟨q1, y, q3, rfl⟩
    · obtain ⟨pl, k1, k2⟩ := h2.blk (σ b) y q3
      exact ⟨f b pl, hA b q1 pl k1, q5 ρ ρ' w pl k2⟩
    · obtain ⟨tot, k1⟩ := ρ'.glob b q1
      obtain ⟨_, gm, us, gc⟩ := hG _ q3
      exact ⟨⟨b, 0, tot⟩, k1, br_known gm gc (h.laid _ q3 ν' ρ')⟩
  · rcases bn b x hx with ⟨q1, y, q3, q4, _⟩ | ⟨_, y, _, rfl⟩
    · obtain ⟨p0, m1, m2⟩ := back b pl q1 hp
      have op : Owned ρ (heapL (H ++ gl) n) pl.cb := ⟨σ b, y, p0, q3, q4 ho, m1, m2⟩
      rcases bn b' x' hx' with ⟨r1, y', r3, _, _⟩ | ⟨r1, y', r3, rfl⟩
      · obtain ⟨p0', m1', m2'⟩ := back b' pl' r1 hp'
        rw [← m2, ← m2']
        exact h2.apart (σ b) (σ b') y y' p0 p0' (fun e9 => hne (hinj b q1 b' r1 e9)) q3 r3 (q4 ho) m1 m1'
      · obtain ⟨tot, k1⟩ := ρ'.glob b' r1
        have k1' : ρ' b' = some ⟨b', 0, tot⟩ := k1
        rw [hp'] at k1'
        cases k1'
        intro e9
        exact h6 _ r3 (by have e9 : pl.cb = b' := e9; rw [← e9]; exact op)
    · cases ho
  · have hb : n' ≤ b := hb
    show (if b < gmax then ρ b else if b ∈ D then (ρ (σ b)).map (f b) else none) = none
    rw [if_neg (by omega), if_neg (fun hbd => by have := (hD b hbd).2; omega)]
variable {D : List Nat} {σ : Nat → Nat} {f : Nat → Pl → Pl}
theorem SlotR.conc {x y : AV} {u : Value} (h1 : conc ν x = some u) (h2 : Sh.conc ν' y = some u) : SlotR ν ν' D σ f x y := by
  intro ρ ρ' v _ hv
  rw [(conc_vr h1).2 v hv]
  exact (conc_vr h2).1
theorem SlotR.nsl : SlotR ν ν' D σ f .nsl .nsl := by
  intro ρ ρ' v _ h
  cases h
  exact .nsl
theorem SlotR.sle {z : Bool} : SlotR ν ν' D σ f (.sle z) (.sle z) := by
  intro ρ ρ' v _ h
  cases h
  rename_i a c hz
  exact .sle z a c hz
theorem SlotR.p {b b0 o : Nat} (hb : b ∈ D) (hσ : σ b = b0) (hf : ∀ pl, f b pl = pl) : SlotR ν ν' D σ f (.p b0 o) (.p b o) := by
  subst hσ
  intro ρ ρ' v hA h
  cases h
  rename_i pl hp
  have := hA b hb pl hp
  rw [hf pl] at this
  exact .p b o pl this
theorem SlotR.sl {b b0 o : Nat} {l l' : AI} {c : Cap} (hb : b ∈ D) (hσ : σ b = b0) (hf : ∀ pl, f b pl = pl) (hl : l'.val ν' = l.val ν) : SlotR ν ν' D σ f (.sl b0 o l c) (.sl b o l' c) := by
  subst hσ
  intro ρ ρ' v hA h
  cases h
  rename_i pl m cc h4 h1 h2 h3
  have := hA b hb pl h1
  rw [hf pl] at this
  exact .sl b o l' c pl m cc this (hl.trans h2) h3 h4
theorem SlotR.any {b b0 o : Nat} {l l' : AI} {c : Cap} (hb : b ∈ D) (hσ : σ b = b0) (hf : ∀ pl, f b pl = pl) (hl : l'.val ν' = l.val ν) : SlotR ν ν' D σ f (.sl b0 o l c) (.sl b o l' .any) := by
  subst hσ
  intro ρ ρ' v hA h
  cases h
  rename_i pl m cc h4 h1 h2 h3
  have := hA b hb pl h1
  rw [hf pl] at this
  exact .sl b o l' .any pl m cc this (hl.trans h2) trivial h4
theorem SlotR.win {b b0 a a' m wd wd' : Nat} {k k' l l' : AI} {cap : Cap} (hb : b ∈ D) (hσ : σ b = b0) (hf : ∀ pl, f b pl = mv a a' pl) (hk : k.val ν = (a : Int)) (hk' : k'.val ν' = (a' : Int)) (hl : l.val ν = (m : Int)) (hl' : l'.val ν' = (m : Int)) (hw : a' + wd' ≤ m) : SlotR ν ν' D σ f (.slw b0 1 k wd l cap) (.slw b 1 k' wd' l' cap) := by
  subst hσ
  intro ρ ρ' v hA h
  cases h
  rename_i q o cc a1 n' h7 h8 h1 h3 h2 h4 h5 h6
  first
    | (have e2 : a1 = a := by rw [hk] at h2; omega
       have e3 : n' = m := by rw [hl] at h5; omega
       subst e2; subst e3
       have h9 := hA b hb q h1
       rw [hf q] at h9
       exact .slw b 1 k' wd' l' cap (mv a1 a' q) o a' n' cc h9 hk' (by show q.co - a1 + a' = o + a' * 1; omega) hw hl' h6 h7 h8)
    | (have e2 : cc = a := by rw [hk] at h2; omega
       have e3 : a1 = m := by rw [hl] at h5; omega
       subst e2; subst e3
       have h9 := hA b hb q h1
       rw [hf q] at h9
       exact .slw b 1 k' wd' l' cap (mv cc a' q) o a' a1 n' h9 hk' (by show q.co - cc + a' = o + a' * 1; omega) hw hl' h6 h7 h8)
/-- A slice of one's own that is empty, opened as a row. -/
theorem SlotR.open {b b0 : Nat} {k' l' : AI} (hb : b ∈ D) (hσ : σ b = b0) (hf : ∀ pl, f b pl = pl) (hk' : k'.val ν' = 0) (hl' : l'.val ν' = 0) : SlotR ν ν' D σ f (.sl b0 0 (nA 0) (.own 1)) (.slw b 1 k' 0 l' (.own 1)) := by
  subst hσ
  intro ρ ρ' v hA h
  cases h
  rename_i pl m cc h4 h1 h2 h3
  have h9 := hA b hb pl h1
  rw [hf pl] at h9
  have hm : ((0 : Nat) : Int) = (m : Int) := h2
  have hm : m = 0 := by omega
  subst hm
  have h3 : pl.co + 0 + cc * 1 ≤ pl.tot := h3
  exact .slw b 1 k' 0 l' (.own 1) pl (pl.co + 0) 0 0 cc h9 hk' (by omega) (by omega) hl' (show pl.co + 0 + 0 + cc * 1 ≤ pl.tot by omega) h4 (by decide)
/-- A row of one's own, from now on but read. -/
theorem SlotR.shut {b b0 a m wd : Nat} {k l l' : AI} {cap : Cap} (hb : b ∈ D) (hσ : σ b = b0) (hf : ∀ pl, f b pl = mv a 0 pl) (hk : k.val ν = (a : Int)) (hl : l.val ν = (m : Int)) (hl' : l'.val ν' = (m : Int)) : SlotR ν ν' D σ f (.slw b0 1 k wd l cap) (.sl b 0 l' .any) := by
  subst hσ
  intro ρ ρ' v hA h
  cases h
  rename_i q o a1 n' cc h7 h8 h1 h3 h2 h4 h5 h6
  have e2 : a1 = a := by rw [hk] at h2; omega
  have e3 : n' = m := by rw [hl] at h5; omega
  subst e2; subst e3
  have h9 := hA b hb q h1
  rw [hf q] at h9
  have hco : (mv a1 0 q).co + 0 = o := by show q.co - a1 + 0 + 0 = o; omega
  have := VR.sl (ν := ν') (ρ := ρ') b 0 l' .any (mv a1 0 q) n' cc h9 hl' trivial h7
  rw [hco] at this
  exact this
theorem BlkR.row {e : Nat} {k : IntKind} {g g' : Nat → AI} {m : Nat} {o : Bool} (he : e < mapTag) (h : ∀ j, j < m → (g j).val ν = (g' j).val ν') : BlkR ν ν' (fun pl => pl) ⟨rowC k g m, e, o⟩ ⟨rowC k g' m, e, o⟩ := by
  intro ρ ρ' w pl hbr
  refine ⟨fun _ => ?_, fun e9 => absurd e9 (Nat.ne_of_lt he), fun e9 => absurd e9 (Nat.not_lt_of_lt he)⟩
  obtain ⟨C, t, fz, q1, q2, q3⟩ := hbr.cells (Nat.ne_of_lt he)
  refine ⟨C, t, fz, q1, fun j c hc => ?_, q3⟩
  obtain ⟨hj, rfl⟩ := row_get hc
  obtain ⟨v, r1, r2⟩ := q2 j (.i k (g j)) (by simp [rowC, hj])
  cases r2
  refine ⟨_, r1, ?_⟩
  rw [h j hj]
  exact .i _ _
/-- Cells that from now on are but read. -/
theorem BlkR.rowShut {e e' : Nat} {k : IntKind} {g g' : Nat → AI} {m : Nat} {o : Bool} (he : e < mapTag) (he' : e' < mapTag) (h : ∀ j, j < m → (g j).val ν = (g' j).val ν') : BlkR ν ν' (fun pl => pl) ⟨rowC k g m, e, o⟩ ⟨rowC k g' m, e', false⟩ := by
  intro ρ ρ' w pl hbr
  refine ⟨fun _ => ?_, fun e9 => absurd e9 (Nat.ne_of_lt he'), fun e9 => absurd e9 (Nat.not_lt_of_lt he')⟩
  obtain ⟨C, t, fz, q1, q2, q3⟩ := hbr.cells (Nat.ne_of_lt he)
  refine ⟨C, t, fz, q1, fun j c hc => ?_, fun hh => by cases hh⟩
  obtain ⟨hj, rfl⟩ := row_get hc
  obtain ⟨v, r1, r2⟩ := q2 j (.i k (g j)) (by simp [rowC, hj])
  cases r2
  refine ⟨_, r1, ?_⟩
  rw [h j hj]
  exact .i _ _
theorem BlkR.pin {T : Nat} {o : Bool} (hT : mapTag < T ∧ T ≤ winTag) (hL : ν' (pinL T) = ν (pinL T)) (hB : ∀ j : Nat, (j : Int) < ν (pinL T) → ν' (pinB T j) = ν (pinB T j)) : BlkR ν ν' (fun pl => pl) ⟨[], T, o⟩ ⟨[], T, o⟩ := by
  intro ρ ρ' w pl hbr
  have hp : Sh.Pinned ν w T pl := (if_pos hT.2 : (if T ≤ winTag then Sh.Pinned ν w T pl else Windowed ν w (T - mapTag) 0 pl) = _).mp (hbr.pin hT.1)
  obtain ⟨C2, ty2, fz2, r1, r2⟩ := hp
  refine ⟨fun e9 => ?_, fun e9 => absurd e9 (Nat.ne_of_gt hT.1), fun _ => ?_⟩
  · obtain ⟨C, t, fz, q1, q2, q3⟩ := hbr.cells e9
    exact ⟨C, t, fz, q1, fun j c hc => by simp at hc, q3⟩
  · unfold PinB
    rw [if_pos (show (ABlk.mk [] T o).elem ≤ winTag from hT.2)]
    refine (⟨C2, ty2, fz2, r1, fun j hj => ?_⟩ : Sh.Pinned ν' w T pl)
    rw [hL] at hj
    rw [hB j hj]
    exact r2 j hj
/-- What a row of one's own is, number by number: those outside the window by their names, those within by its cells. -/
theorem own_all {ρ : Emb} {w : World} {pl : Pl} {t a m0 wd : Nat} {k : IntKind} {h : Nat → AI} (ht : 0 < t) (hK : pinK (tg t) = k) (hA : ν (pinA (tg t)) = (a : Int)) (hL : ν (pinL (tg t)) = (m0 : Int)) (hbr : BR ν ρ w ⟨rowC k h wd, wg t, true⟩ pl) :
    ∃ C ty o, w.heap[pl.cb]? = some (.cells C ty (0, 0)) ∧ C.size = pl.tot ∧ pl.co = o + a ∧ (∀ j, j < m0 → (j < a ∨ a + wd ≤ j) → C[o + j]? = some (.int k (ν (pinB (tg t) j)))) ∧ ∀ j, j < wd → C[o + (a + j)]? = some (.int k ((h j).val ν)) := by
  obtain ⟨C, ty, fz, q1, q2, q3⟩ := hbr.cells (wg_no t)
  obtain ⟨rfl, q4⟩ := q3 rfl
  have hp := br_win (wg_map t) (wg_big ht) (wg_sub t) hbr
  obtain ⟨C2, ty2, fz2, o, a2, r1, r2, r3, r4⟩ := hp
  rw [q1] at r1
  cases r1
  have ea : a2 = a := by rw [hA] at r2; omega
  subst ea
  have lrow : (rowC k h wd).length = wd := by simp [rowC]
  rw [lrow] at r4
  refine ⟨C, ty, o, q1, q4, r3, fun j hj hjw => by rw [r4 j (by rw [hL]; omega) hjw, hK], fun j hj => ?_⟩
  obtain ⟨v, u1, u2⟩ := q2 j (.i k (h j)) (by simp [rowC, hj])
  cases u2
  rw [show o + (a2 + j) = pl.co + j by omega]
  exact u1
/-- A row of one's own, known number by number, through another window. -/
theorem own_mk {ρ' : Emb} {w : World} {pl : Pl} {C : Array Value} {ty : TypeId} {t' a a' m wd' o : Nat} {k : IntKind} {h' : Nat → AI} {g : Wd} (ht' : 0 < t') (hK' : pinK (tg t') = k) (hA' : ν' (pinA (tg t')) = (a' : Int)) (hL' : ν' (pinL (tg t')) = (m : Int)) (q1 : w.heap[pl.cb]? = some (.cells C ty (0, 0))) (q4 : C.size = pl.tot) (hco : pl.co = o + a)
    (all : ∀ j, j < m → C[o + j]? = some (.int k (g j))) (hB' : ∀ j, j < m → (j < a' ∨ a' + wd' ≤ j) → ν' (pinB (tg t') j) = g j) (hf' : ∀ j, j < wd' → (h' j).val ν' = g (a' + j)) (hw : a' + wd' ≤ m) : BR ν' ρ' w ⟨rowC k h' wd', wg t', true⟩ (mv a a' pl) := by
  have lrow' : (rowC k h' wd').length = wd' := by simp [rowC]
  refine br_mk_win (e := wg t') (T := tg t') (wg_no t') (wg_big ht') (wg_sub t') q1 q4 (fun j c hc => ?_) ?_
  · obtain ⟨hj, rfl⟩ := row_get hc
    refine ⟨.int k (g (a' + j)), ?_, ?_⟩
    · show C[pl.co - a + a' + j]? = _
      rw [show pl.co - a + a' + j = o + (a' + j) by omega]
      exact all _ (by omega)
    · rw [← hf' j hj]
      exact .i _ _
  · rw [lrow']
    refine ⟨C, ty, (0, 0), o, a', q1, hA', by show pl.co - a + a' = o + a'; omega, fun j hj hjw => ?_⟩
    have hj : j < m := by rw [hL'] at hj; omega
    rw [all j hj, hK', hB' j hj hjw]
theorem BlkR.win {t t' a a' m wd wd' : Nat} {k : IntKind} {h h' : Nat → AI} {g : Wd} (ht : 0 < t) (ht' : 0 < t') (hK : pinK (tg t) = k) (hK' : pinK (tg t') = k) (hA : ν (pinA (tg t)) = (a : Int)) (hL : ν (pinL (tg t)) = (m : Int)) (hA' : ν' (pinA (tg t')) = (a' : Int)) (hL' : ν' (pinL (tg t')) = (m : Int))
    (hB : ∀ j, j < m → (j < a ∨ a + wd ≤ j) → ν (pinB (tg t) j) = g j) (hf : ∀ j, j < wd → (h j).val ν = g (a + j)) (hB' : ∀ j, j < m → (j < a' ∨ a' + wd' ≤ j) → ν' (pinB (tg t') j) = g j) (hf' : ∀ j, j < wd' → (h' j).val ν' = g (a' + j)) (hw : a' + wd' ≤ m) :
    BlkR ν ν' (mv a a') ⟨rowC k h wd, wg t, true⟩ ⟨rowC k h' wd', wg t', true⟩ := by
  intro ρ ρ' w pl hbr
  obtain ⟨C, ty, o, q1, q4, hco, r1, r2⟩ := own_all ht hK hA hL hbr
  refine own_mk ht' hK' hA' hL' q1 q4 hco (fun j hj => ?_) hB' hf' hw
  by_cases hjw : j < a ∨ a + wd ≤ j
  · rw [r1 j hj hjw, hB j hj hjw]
  · have := r2 (j - a) (by omega)
    rw [hf _ (by omega), show a + (j - a) = j by omega] at this
    exact this
/-- It has grown by its window. -/
theorem BlkR.grow {t t' m wd a' wd' : Nat} {k : IntKind} {h h' : Nat → AI} {g : Wd} (ht : 0 < t) (ht' : 0 < t') (hK : pinK (tg t) = k) (hK' : pinK (tg t') = k) (hA : ν (pinA (tg t)) = (m : Int)) (hL : ν (pinL (tg t)) = (m : Int)) (hA' : ν' (pinA (tg t')) = (a' : Int)) (hL' : ν' (pinL (tg t')) = ((m + wd : Nat) : Int))
    (hB : ∀ j, j < m → ν (pinB (tg t) j) = g j) (hf : ∀ j, j < wd → (h j).val ν = g (m + j)) (hB' : ∀ j, j < m + wd → (j < a' ∨ a' + wd' ≤ j) → ν' (pinB (tg t') j) = g j) (hf' : ∀ j, j < wd' → (h' j).val ν' = g (a' + j)) (hw : a' + wd' ≤ m + wd) :
    BlkR ν ν' (mv m a') ⟨rowC k h wd, wg t, true⟩ ⟨rowC k h' wd', wg t', true⟩ := by
  intro ρ ρ' w pl hbr
  obtain ⟨C, ty, o, q1, q4, hco, r1, r2⟩ := own_all ht hK hA hL hbr
  refine own_mk ht' hK' hA' hL' q1 q4 hco (fun j hj => ?_) hB' hf' hw
  by_cases hjm : j < m
  · rw [r1 j hjm (.inl hjm), hB j hjm]
  · have := r2 (j - m) (by omega)
    rw [hf _ (by omega), show m + (j - m) = j by omega] at this
    exact this
/-- From now on it is but read. -/
theorem BlkR.shut {t t' a m wd : Nat} {k : IntKind} {h : Nat → AI} {g : Wd} (ht : 0 < t) (ht' : mapTag < tg t' ∧ tg t' ≤ winTag) (hK : pinK (tg t) = k) (hK' : pinK (tg t') = k) (hA : ν (pinA (tg t)) = (a : Int)) (hL : ν (pinL (tg t)) = (m : Int)) (hL' : ν' (pinL (tg t')) = (m : Int)) (hB : ∀ j, j < m → (j < a ∨ a + wd ≤ j) → ν (pinB (tg t) j) = g j) (hf : ∀ j, j < wd → (h j).val ν = g (a + j)) (hB' : ∀ j, j < m → ν' (pinB (tg t') j) = g j) :
    BlkR ν ν' (mv a 0) ⟨rowC k h wd, wg t, true⟩ ⟨[], tg t', false⟩ := by
  intro ρ ρ' w pl hbr
  obtain ⟨C, ty, o, q1, q4, hco, r1, r2⟩ := own_all ht hK hA hL hbr
  refine ⟨fun _ => ⟨C, ty, (0, 0), q1, fun j c hc => by simp at hc, fun hh => by cases hh⟩, fun e9 => absurd e9 (Nat.ne_of_gt ht'.1), fun _ => ?_⟩
  unfold PinB
  rw [if_pos (show (ABlk.mk [] (tg t') false).elem ≤ winTag from ht'.2)]
  refine (⟨C, ty, (0, 0), q1, fun j hj => ?_⟩ : Sh.Pinned ν' w (tg t') (mv a 0 pl))
  have hj : j < m := by rw [hL'] at hj; omega
  show C[pl.co - a + 0 + j]? = _
  rw [show pl.co - a + 0 + j = o + j by omega, hK', hB' j hj]
  by_cases hjw : j < a ∨ a + wd ≤ j
  · rw [r1 j hj hjw, hB j hj hjw]
  · have := r2 (j - a) (by omega)
    rw [hf _ (by omega), show a + (j - a) = j by omega] at this
    exact this
/-- An empty one, opened as a row. -/
theorem BlkR.open {t' e : Nat} {k : IntKind} {h h' : Nat → AI} (he : e < mapTag) (ht' : 0 < t') (hA' : ν' (pinA (tg t')) = 0) (hL' : ν' (pinL (tg t')) = 0) : BlkR ν ν' (fun pl => pl) ⟨rowC k h 0, e, true⟩ ⟨rowC k h' 0, wg t', true⟩ := by
  intro ρ ρ' w pl hbr
  obtain ⟨C, ty, fz, q1, q2, q3⟩ := hbr.cells (Nat.ne_of_lt he)
  obtain ⟨rfl, q4⟩ := q3 rfl
  refine br_mk_win (e := wg t') (T := tg t') (wg_no t') (wg_big ht') (wg_sub t') q1 q4 (fun j c hc => ?_) ⟨C, ty, (0, 0), pl.co, 0, q1, hA', rfl, fun j hj _ => ?_⟩
  · have := (row_get hc).1
    omega
  · rw [hL'] at hj
    omega
end
end Go.Proofs.YtjdcaipgfolgoaaDoor
