/-
  Rows of one's own, through windows that move: their names; a window moved; texts of such rows. Own work.
-/
import Derived.Test.YtjdcaipgfolgoaaDoorXd
namespace Go.Proofs.YtjdcaipgfolgoaaDoor
open Go.Sh
open Go.ChangeShapes Go.WideShapes Go.ChangeAt Go.RowKit
set_option maxRecDepth 100000

/-! Names of many rows. -/
def tg (t : Nat) : Nat := mapTag + t
def nuR (lo : Nat → Int) (len at_ : Nat → Nat) (z : Nat → Wd) : Nat → Int := fun k => if k < 10000 then lo k else if k % 1099511627776 = 0 then ((len (k / 1099511627776) : Nat) : Int) else if k % 1099511627776 = 1099511627775 then ((at_ (k / 1099511627776) : Nat) : Int) else z (k / 1099511627776) (k % 1099511627776 - 1)
section
variable {lo : Nat → Int} {len at_ : Nat → Nat} {z : Nat → Wd} {t : Nat}
theorem nuR_lo {k : Nat} (h : k < 10000) : nuR lo len at_ z k = lo k := if_pos h
theorem tg_L (t : Nat) : pinL (tg t) = t * 1099511627776 := by
  show (mapTag + t - mapTag) * _ = _
  rw [Nat.add_sub_cancel_left]
theorem tg_A (t : Nat) : pinA (tg t) = t * 1099511627776 + 1099511627775 := by
  show (mapTag + t - mapTag) * _ + _ = _
  rw [Nat.add_sub_cancel_left]
theorem tg_B (t j : Nat) : pinB (tg t) j = t * 1099511627776 + (j + 1) := by
  show (mapTag + t - mapTag) * _ + _ = _
  rw [Nat.add_sub_cancel_left]
theorem nuR_L (ht : 0 < t) : nuR lo len at_ z (pinL (tg t)) = (len t : Int) := by
  unfold nuR
  rw [tg_L, if_neg (by omega), Nat.mul_mod_left, if_pos rfl, Nat.mul_div_left _ (by decide)]
theorem nuR_A (ht : 0 < t) : nuR lo len at_ z (pinA (tg t)) = (at_ t : Int) := by
  unfold nuR
  rw [tg_A, if_neg (by omega), if_neg (by omega), if_pos (by omega), show (t * 1099511627776 + 1099511627775) / 1099511627776 = t by omega]
theorem nuR_B (ht : 0 < t) {j : Nat} (hj : j < 1099511627774) : nuR lo len at_ z (pinB (tg t) j) = z t j := by
  unfold nuR
  rw [tg_B, if_neg (by omega), if_neg (by omega), if_neg (by omega), show (t * 1099511627776 + (j + 1)) / 1099511627776 = t by omega, show (t * 1099511627776 + (j + 1)) % 1099511627776 - 1 = j by omega]
end

/-! A window of one's own row moves. -/
/-- Two ways to lay the blocks that agree but for one, which moves. -/
def AgreeS (n b0 : Nat) (f : Pl → Pl) (ρ ρ' : Emb) : Prop := (∀ pl, ρ b0 = some pl → ρ' b0 = some (f pl)) ∧ ∀ b, b < n → b ≠ b0 → ρ' b = ρ b
def SlotS (ν ν' : Nat → Int) (n b0 : Nat) (f : Pl → Pl) (x y : AV) : Prop := ∀ ρ ρ' v, AgreeS n b0 f ρ ρ' → VR ν ρ x v → VR ν' ρ' y v
def BlkS (ν ν' : Nat → Int) (n b0 : Nat) (f : Pl → Pl) (b : Nat) (x y : ABlk) : Prop := ∀ ρ ρ' w pl, AgreeS n b0 f ρ ρ' → BR ν ρ w x pl → BR ν' ρ' w y (if b = b0 then f pl else pl)
section
variable {N : Nat} {w0 : World} {ν ν' : Nat → Int} {gl : Gl} {L fx fx' : List (Nat × Pl)} {kp kp' : List (Nat × Obj)}
theorem HoldsX.slide {e e' : List (Nat × AV)} {H H' : List (Nat × ABlk)} {n n' : Nat} {a : Act} {w : World} (hG : GlOk gl) (h : HoldsX N w0 ν gl L fx kp ⟨e, H, n⟩ a w) (b0 : Nat) (f : Pl → Pl) (hb0 : gmax ≤ b0) (hbn : b0 < n') (hf : ∀ pl, (f pl).cb = pl.cb) (hg : gmax ≤ n') (hkp : ∀ p ∈ kp', p ∈ kp)
    (hfx : ∀ p ∈ fx', p ∈ fx ∧ p.1 < n' ∧ p.1 ≠ b0)
    (he : ∀ p ∈ e', ∃ x, (p.1, x) ∈ e ∧ SlotS ν ν' n' b0 f x p.2)
    (hH : ∀ p ∈ H', gmax ≤ p.1 ∧ p.1 < n' ∧ ∃ x, (heapL (H ++ gl) n).get p.1 = some x ∧ x.own = p.2.own ∧ BlkS ν ν' n' b0 f p.1 x p.2) :
    HoldsX N w0 ν' gl L fx' kp' ⟨e', H', n'⟩ a w := by
  obtain ⟨ρ, h0, h1, h2, h3, h4, h5, h6⟩ := h.has
  have hl : ∀ p ∈ H', gmax ≤ p.1 := fun p hp => (hH p hp).1
  have hgl : ∀ p ∈ gl, p.1 < gmax := fun p hp => (hG p hp).1
  let ρ' : Emb := ⟨fun b => if b < n' then (if b = b0 then (ρ b).map f else ρ b) else none, fun b hb => by
    obtain ⟨i, hi⟩ := ρ.glob b hb
    refine ⟨i, ?_⟩
    rw [if_pos (Nat.lt_of_lt_of_le hb hg), if_neg (by omega)]
    exact hi⟩
  have ρ'_at : ∀ b, b < n' → ρ' b = if b = b0 then (ρ b).map f else ρ b := fun b hb => if_pos hb
  have bn : ∀ b x, (heapL (H' ++ gl) n').get b = some x → (b < n' ∧ ∃ y, (heapL (H ++ gl) n).get b = some y ∧ y.own = x.own ∧ BlkS ν ν' n' b0 f b y x) ∨ (b < gmax ∧ ∃ y, (b, y) ∈ gl ∧ x = y.shut) := by
    intro b x hx
    rcases heapG_get hl hgl hx with ⟨hb, hm, _⟩ | ⟨hb, y, hy, rfl⟩
    · obtain ⟨_, q2, q3⟩ := hH _ hm
      exact .inl ⟨q2, q3⟩
    · exact .inr ⟨hb, y, hy, rfl⟩
  have hA : AgreeS n' b0 f ρ ρ' := by
    refine ⟨fun pl hpl => ?_, fun b hb hne => ?_⟩
    · rw [ρ'_at b0 hbn, if_pos rfl, hpl]
      rfl
    · rw [ρ'_at b hb, if_neg hne]
  have cb' : ∀ b q, b < n' → ρ' b = some q → ∃ q0, ρ b = some q0 ∧ q0.cb = q.cb ∧ q = if b = b0 then f q0 else q0 := by
    intro b q hb hq
    rw [ρ'_at b hb] at hq
    by_cases e9 : b = b0
    · rw [if_pos e9] at hq
      cases hr : ρ b with
      | none => rw [hr] at hq; cases hq
      | some q0 =>
        rw [hr] at hq
        cases hq
        exact ⟨q0, rfl, (hf q0).symm, (if_pos e9).symm⟩
    · rw [if_neg e9] at hq
      exact ⟨q, hq, rfl, (if_neg e9).symm⟩
  have ow : ∀ cb, Owned ρ' (heapL (H' ++ gl) n') cb → Owned ρ (heapL (H ++ gl) n) cb := by
    rintro cb ⟨b, x, pl, k1, k2, k3, k4⟩
    rcases bn b x k1 with ⟨q1, y, q3, q4, _⟩ | ⟨_, y, _, rfl⟩
    · obtain ⟨q0, m1, m2, _⟩ := cb' b pl q1 k3
      exact ⟨b, y, q0, q3, q4.trans k2, m1, m2.trans k4⟩
    · cases k2
  refine ⟨hl, hg, ⟨ρ', fun p hp => ?_, fun p hp => ?_, ⟨fun b x hx => ?_, fun b b' x x' pl pl' hne hx hx' ho hp hp' => ?_⟩, fun b hb => ?_, fun cb ho => h4 cb (ow cb ho), fun p hp ho => h5 p (hkp p hp) (ow _ ho), fun p hp ho => h6 p hp (ow _ ho)⟩, fun p hp => h.kept p (hkp p hp), h.laid, h.below, h.tmps, h.defers⟩
  · obtain ⟨q1, q2, q3⟩ := hfx p hp
    rw [hA.2 _ q2 q3]
    exact h0 p q1
  · obtain ⟨x, q1, q2⟩ := he p hp
    exact q2 ρ ρ' _ hA (h1 _ q1)
  · rcases bn b x hx with ⟨q1, y, q3, _, q5⟩ | ⟨q1, y, q3, rfl⟩
    · obtain ⟨pl, k1, k2⟩ := h2.blk b y q3
      refine ⟨if b = b0 then f pl else pl, ?_, q5 ρ ρ' w pl hA k2⟩
      rw [ρ'_at b q1]
      by_cases e9 : b = b0
      · rw [if_pos e9, if_pos e9, k1]
        rfl
      · rw [if_neg e9, if_neg e9]
        exact k1
    · obtain ⟨tot, k1⟩ := ρ'.glob b q1
      obtain ⟨_, gm, us, gc⟩ := hG _ q3
      exact ⟨⟨b, 0, tot⟩, k1, br_known gm gc (h.laid _ q3 ν' ρ')⟩
  · rcases bn b x hx with ⟨q1, y, q3, q4, _⟩ | ⟨_, y, _, rfl⟩
    · obtain ⟨p0, m1, m2, _⟩ := cb' b pl q1 hp
      have op : Owned ρ (heapL (H ++ gl) n) pl.cb := ⟨b, y, p0, q3, q4.trans ho, m1, m2⟩
      rcases bn b' x' hx' with ⟨r1, y', r3, _, _⟩ | ⟨r1, y', r3, rfl⟩
      · obtain ⟨p0', m1', m2', _⟩ := cb' b' pl' r1 hp'
        rw [← m2, ← m2']
        exact h2.apart b b' y y' p0 p0' hne q3 r3 (q4.trans ho) m1 m1'
      · obtain ⟨tot, k1⟩ := ρ'.glob b' r1
        have k1' : ρ' b' = some ⟨b', 0, tot⟩ := k1
        rw [hp'] at k1'
        cases k1'
        intro e9
        exact h6 _ r3 (by have e9 : pl.cb = b' := e9; rw [← e9]; exact op)
    · cases ho
  · exact if_neg (by have hb : n' ≤ b := hb; omega)
/-! what moves, and what stays -/
def mv (a a' : Nat) (pl : Pl) : Pl := ⟨pl.cb, pl.co - a + a', pl.tot⟩
/-- The mark of a row of one's own. -/
def wg (t : Nat) : Nat := tg t + mapTag
theorem wg_big {t : Nat} (ht : 0 < t) : ¬ wg t ≤ winTag := by
  unfold wg tg winTag mapTag
  omega
theorem wg_no (t : Nat) : wg t ≠ mapTag := by
  unfold wg tg mapTag
  omega
theorem wg_map (t : Nat) : mapTag < wg t := by
  unfold wg tg mapTag
  omega
theorem wg_sub (t : Nat) : wg t - mapTag = tg t := Nat.add_sub_cancel _ _
theorem pinB_win {w : World} {e T : Nat} {cs : List AV} {o : Bool} {pl : Pl} (h1 : ¬ e ≤ winTag) (h2 : e - mapTag = T) (h : PinB ν w ⟨cs, e, o⟩ pl) : Windowed ν w T cs.length pl := by
  unfold PinB at h
  rw [if_neg (show ¬ (ABlk.mk cs e o).elem ≤ winTag from h1)] at h
  subst h2
  exact h
theorem br_win {ρ : Emb} {w : World} {e T : Nat} {cs : List AV} {o : Bool} {pl : Pl} (hm : mapTag < e) (h1 : ¬ e ≤ winTag) (h2 : e - mapTag = T) (h : BR ν ρ w ⟨cs, e, o⟩ pl) : Windowed ν w T cs.length pl := pinB_win h1 h2 (h.pin hm)
theorem shut_win {ρ : Emb} {w : World} {b e T : Nat} {o : Bool} {pl : Pl} (hm : mapTag < e) (h1 : ¬ e ≤ winTag) (h2 : e - mapTag = T) (h : BR ν ρ w (b, (⟨[], e, o⟩ : ABlk)).2.shut pl) : Windowed ν w T 0 pl := br_win (cs := []) (o := false) hm h1 h2 h
theorem win_pinB {w : World} {e T : Nat} {cs : List AV} {o : Bool} {pl : Pl} (h1 : ¬ e ≤ winTag) (h2 : e - mapTag = T) (h : Windowed ν w T cs.length pl) : PinB ν w ⟨cs, e, o⟩ pl := by
  unfold PinB
  rw [if_neg (show ¬ (ABlk.mk cs e o).elem ≤ winTag from h1)]
  subst h2
  exact h
theorem br_mk_win {ρ : Emb} {w : World} {e T : Nat} {cs : List AV} {pl : Pl} {C : Array Value} {ty : TypeId} (hn : e ≠ mapTag) (h1 : ¬ e ≤ winTag) (h2 : e - mapTag = T) (hC : w.heap[pl.cb]? = some (.cells C ty (0, 0))) (hs : C.size = pl.tot) (hc : ∀ (j : Nat) c, cs[j]? = some c → ∃ v, C[pl.co + j]? = some v ∧ VR ν ρ c v) (hw : Windowed ν w T cs.length pl) : BR ν ρ w ⟨cs, e, true⟩ pl :=
  ⟨fun _ => ⟨C, ty, (0, 0), hC, hc, fun _ => ⟨rfl, hs⟩⟩, fun e9 => absurd e9 hn, fun _ => win_pinB h1 h2 hw⟩
variable {n b0 : Nat} {f : Pl → Pl}
theorem SlotS.conc {x y : AV} {u : Value} (h1 : conc ν x = some u) (h2 : Sh.conc ν' y = some u) : SlotS ν ν' n b0 f x y := by
  intro ρ ρ' v _ hv
  rw [(conc_vr h1).2 v hv]
  exact (conc_vr h2).1
theorem SlotS.p {b : Nat} (o : Nat) (hb : b < n) (hne : b ≠ b0) : SlotS ν ν' n b0 f (.p b o) (.p b o) := by
  intro ρ ρ' v hA h
  cases h
  rename_i pl hp
  exact .p b o pl (by rw [hA.2 b hb hne]; exact hp)
theorem SlotS.sl {b : Nat} (o : Nat) {l l' : AI} {c : Cap} (hb : b < n) (hne : b ≠ b0) (hl : l'.val ν' = l.val ν) : SlotS ν ν' n b0 f (.sl b o l c) (.sl b o l' c) := by
  intro ρ ρ' v hA h
  cases h
  rename_i pl m cc h4 h1 h2 h3
  exact .sl b o l' c pl m cc (by rw [hA.2 b hb hne]; exact h1) (hl.trans h2) h3 h4
theorem SlotS.nsl : SlotS ν ν' n b0 f .nsl .nsl := by
  intro ρ ρ' v _ h
  cases h
  exact .nsl
theorem SlotS.sle {z : Bool} : SlotS ν ν' n b0 f (.sle z) (.sle z) := by
  intro ρ ρ' v _ h
  cases h
  rename_i a c hz
  exact .sle z a c hz
theorem SlotS.win {a a' m wd wd' : Nat} {k k' l l' : AI} {cap : Cap} (hk : k.val ν = (a : Int)) (hk' : k'.val ν' = (a' : Int)) (hl : l.val ν = (m : Int)) (hl' : l'.val ν' = (m : Int)) (hw : a' + wd' ≤ m) : SlotS ν ν' n b0 (mv a a') (.slw b0 1 k wd l cap) (.slw b0 1 k' wd' l' cap) := by
  intro ρ ρ' v hA h
  cases h
  rename_i q o a1 n' cc h7 h8 h1 h3 h2 h4 h5 h6
  have e2 : a1 = a := by rw [hk] at h2; omega
  have e3 : n' = m := by rw [hl] at h5; omega
  subst e2; subst e3
  exact .slw b0 1 k' wd' l' cap (mv a1 a' q) o a' n' cc (hA.1 _ h1) hk' (by show q.co - a1 + a' = o + a' * 1; omega) hw hl' h6 h7 h8
theorem BlkS.row {b e : Nat} {k : IntKind} {g g' : Nat → AI} {m : Nat} {o : Bool} (hb : b ≠ b0) (he : e < mapTag) (h : ∀ j, j < m → (g j).val ν = (g' j).val ν') : BlkS ν ν' n b0 f b ⟨rowC k g m, e, o⟩ ⟨rowC k g' m, e, o⟩ := by
  intro ρ ρ' w pl _ hbr
  rw [if_neg hb]
  refine ⟨fun _ => ?_, fun e9 => absurd e9 (Nat.ne_of_lt he), fun e9 => absurd e9 (Nat.not_lt_of_lt he)⟩
  obtain ⟨C, t, fz, q1, q2, q3⟩ := hbr.cells (Nat.ne_of_lt he)
  refine ⟨C, t, fz, q1, fun j c hc => ?_, q3⟩
  obtain ⟨hj, rfl⟩ := row_get hc
  obtain ⟨v, r1, r2⟩ := q2 j (.i k (g j)) (by simp [rowC, hj])
  cases r2
  refine ⟨_, r1, ?_⟩
  rw [h j hj]
  exact .i _ _
theorem BlkS.pin {b T : Nat} {o : Bool} (hb : b ≠ b0) (hT : mapTag < T ∧ T ≤ winTag) (hL : ν' (pinL T) = ν (pinL T)) (hB : ∀ j : Nat, (j : Int) < ν (pinL T) → ν' (pinB T j) = ν (pinB T j)) : BlkS ν ν' n b0 f b ⟨[], T, o⟩ ⟨[], T, o⟩ := by
  intro ρ ρ' w pl _ hbr
  rw [if_neg hb]
  have hp : Sh.Pinned ν w T pl := (if_pos hT.2 : (if T ≤ winTag then Sh.Pinned ν w T pl else Windowed ν w (T - mapTag) 0 pl) = _).mp (hbr.pin hT.1)
  obtain ⟨C2, ty2, fz2, r1, r2⟩ := hp
  refine ⟨fun e9 => ?_, fun e9 => absurd e9 (Nat.ne_of_gt hT.1), fun _ => ?_⟩
  · obtain ⟨C, t, fz, q1, q2, q3⟩ := hbr.cells e9
    exact ⟨C, t, fz, q1, fun j c hc => by simp at hc, q3⟩
  · unfold PinB
    rw [if_pos (show (ABlk.mk [] T o).elem ≤ winTag from hT.2)]
    refine (⟨C2, ty2, fz2, r1, fun j hj => ?_⟩ : Sh.Pinned ν' w T pl)
    rw [hL] at hj
    rw [hB j hj]
    exact r2 j hj
/-- THE ROW THROUGH ANOTHER WINDOW. -/
theorem BlkS.win {t t' a a' m wd wd' : Nat} {k : IntKind} {h h' : Nat → AI} {g : Wd} (ht : 0 < t) (ht' : 0 < t') (hK : pinK (tg t) = k) (hK' : pinK (tg t') = k) (hA : ν (pinA (tg t)) = (a : Int)) (hL : ν (pinL (tg t)) = (m : Int)) (hA' : ν' (pinA (tg t')) = (a' : Int)) (hL' : ν' (pinL (tg t')) = (m : Int))
    (hB : ∀ j, j < m → (j < a ∨ a + wd ≤ j) → ν (pinB (tg t) j) = g j) (hf : ∀ j, j < wd → (h j).val ν = g (a + j)) (hB' : ∀ j, j < m → (j < a' ∨ a' + wd' ≤ j) → ν' (pinB (tg t') j) = g j) (hf' : ∀ j, j < wd' → (h' j).val ν' = g (a' + j)) (hw : a' + wd' ≤ m) :
    BlkS ν ν' n b0 (mv a a') b0 ⟨rowC k h wd, wg t, true⟩ ⟨rowC k h' wd', wg t', true⟩ := by
  intro ρ ρ' w pl _ hbr
  rw [if_pos rfl]
  obtain ⟨C, ty, fz, q1, q2, q3⟩ := hbr.cells (wg_no t)
  obtain ⟨rfl, q4⟩ := q3 rfl
  have hp := br_win (wg_map t) (wg_big ht) (wg_sub t) hbr
  obtain ⟨C2, ty2, fz2, o, a2, r1, r2, r3, r4⟩ := hp
  rw [q1] at r1
  cases r1
  have ea : a2 = a := by rw [hA] at r2; omega
  subst ea
  have lrow : (rowC k h wd).length = wd := by simp [rowC]
  have lrow' : (rowC k h' wd').length = wd' := by simp [rowC]
  rw [lrow] at r4
  have all : ∀ j, j < m → C[o + j]? = some (.int k (g j)) := by
    intro j hj
    by_cases hjw : j < a2 ∨ a2 + wd ≤ j
    · rw [r4 j (by rw [hL]; omega) hjw, hK, hB j hj hjw]
    · obtain ⟨v, u1, u2⟩ := q2 (j - a2) (.i k (h (j - a2))) (by simp [rowC, show j - a2 < wd by omega])
      cases u2
      rw [show pl.co + (j - a2) = o + j by omega] at u1
      rw [u1, hf _ (by omega), show a2 + (j - a2) = j by omega]
  refine br_mk_win (e := wg t') (T := tg t') (wg_no t') (wg_big ht') (wg_sub t') q1 q4 (fun j c hc => ?_) ?_
  · obtain ⟨hj, rfl⟩ := row_get hc
    refine ⟨.int k (g (a' + j)), ?_, ?_⟩
    · show C[pl.co - a2 + a' + j]? = _
      rw [show pl.co - a2 + a' + j = o + (a' + j) by omega]
      exact all _ (by omega)
    · rw [← hf' j hj]
      exact .i _ _
  · rw [lrow']
    refine ⟨C, ty, (0, 0), o, a', q1, hA', by show pl.co - a2 + a' = o + a'; omega, fun j hj hjw => ?_⟩
    have hj : j < m := by rw [hL'] at hj; omega
    rw [all j hj, hK', hB' j hj hjw]
end
/-- A text of a row of one's own, as many of its first ones as a name tells. -/
theorem isText_win {ν : Nat → Int} {need : Gl} {b t m : Nat} {own : Bool} {cap : Cap} {k l : AI} {z : Wd} (hm : (b, ⟨[], wg t, own⟩) ∈ need) (ht : 0 < t) (hK : pinK (tg t) = .u8) (hk : k.val ν = ν (pinA (tg t))) (hl : l.val ν = (m : Int)) (hL : (m : Int) ≤ ν (pinL (tg t))) (hB : ∀ j, j < m → ν (pinB (tg t) j) = z j) : IsText ν need (.slw b 1 k 0 l cap) m z := by
  intro ρ w u hnd hu
  obtain ⟨pl, q1, q2⟩ := hnd _ hm
  have q1 : ρ b = some pl := q1
  have hp := shut_win (wg_map t) (wg_big ht) (wg_sub t) q2
  obtain ⟨C, ty, fz, o, a, r1, r2, r3, r4⟩ := hp
  cases hu
  rename_i q o' a1 n' cc h7 h8 h1 h3 h2 h4 h5 h6
  have h1 : ρ b = some q := h1
  rw [q1] at h1
  cases h1
  have e1 : a1 = a := by rw [hk, r2] at h2; omega
  subst e1
  have e2 : o' = o := by omega
  subst e2
  have e3 : n' = m := by rw [hl] at h5; omega
  subst e3
  rcases Nat.eq_zero_or_pos n' with h0 | h0
  · subst h0
    exact .inl ⟨rfl, .inr ⟨_, _, rfl⟩⟩
  · refine .inr ⟨h0, pl.cb, o', cc, rfl, h7, C, ty, fz, r1, fun j hj => ?_⟩
    rw [r4 j (by omega) (by omega), hK, hB j hj]
theorem vr_i {ν : Nat → Int} {ρ : Emb} {k : Nat} {x : Int} (h : ν k = x) : VR ν ρ (sI k) (.int .i64 x) := by rw [← h]; exact .i _ _
theorem nm_val {ν : Nat → Int} {b j : Nat} : (nmA b j).val ν = ν (b + j) := rfl
theorem sI_conc {ν : Nat → Int} {k : Nat} {x : Int} (h : ν k = x) : conc ν (sI k) = some (.int .i64 x) := by rw [← h]; rfl
theorem add1_conc {ν : Nat → Int} {k : Nat} {x : Int} (h : ν k = x) : conc ν (.i .i64 (.e .add .i64 (.s k) (nA 1))) = some (.int .i64 (IntKind.i64.wrap (x + ((1 : Nat) : Int)))) := by rw [← h]; rfl
theorem word_of8 {n : Int} (h : (Lit.int .u8 n).wf = true) : ∃ m : Nat, n = (m : Int) ∧ m < 256 := by
  have h1 : IntKind.u8.min ≤ n ∧ n ≤ IntKind.u8.max := by simpa [Lit.wf] using h
  rw [show IntKind.u8.min = 0 from rfl, show IntKind.u8.max = 255 from rfl] at h1
  exact ⟨n.toNat, by omega, by omega⟩
/-- A row that is all one number. -/
theorem lst_all {ν : Nat → Int} {T n : Nat} {c : Int} (hL : ν (pinL T) = (n : Int)) (hB : ∀ j, j < n → ν (pinB T j) = c) : lst ν T = List.replicate n c := by
  unfold lst
  rw [hL, Int.toNat_natCast, List.eq_replicate_iff]
  refine ⟨by simp, fun b hb => ?_⟩
  obtain ⟨j, hj, rfl⟩ := List.mem_map.1 hb
  exact hB j (List.mem_range.1 hj)
theorem lst_split {ν : Nat → Int} {T T1 T2 n r : Nat} (hT : ν (pinL T) = ((n + r : Nat) : Int)) (h1 : ν (pinL T1) = (n : Int)) (h2 : ν (pinL T2) = (r : Int)) (hb1 : ∀ j, j < n → ν (pinB T j) = ν (pinB T1 j)) (hb2 : ∀ j, j < r → ν (pinB T (n + j)) = ν (pinB T2 j)) : lst ν T = lst ν T1 ++ lst ν T2 := by
  refine List.ext_getElem? fun j => ?_
  rw [lst_get hT, List.getElem?_append, lst_length h1, lst_get h1, lst_get h2]
  by_cases hj : j < n
  · rw [if_pos hj, if_pos hj, if_pos (by omega), hb1 j hj]
  · rw [if_neg hj]
    by_cases hr : j < n + r
    · rw [if_pos hr, if_pos (by omega)]
      have := hb2 (j - n) (by omega)
      rw [show n + (j - n) = j by omega] at this
      rw [this]
    · rw [if_neg hr, if_neg (by omega)]
theorem tg_Ke {t : Nat} (h : t % 2 = 0) : pinK (tg t) = .u8 := by
  unfold pinK tg
  rw [Nat.add_sub_cancel_left, if_pos h]
/-! Three ways in which a text is handed in. -/
inductive Hd where
  | a | b | c
def Hd.av (blk T : Nat) : Hd → AV
  | .a => .nsl
  | .b => .sle false
  | .c => .sl blk 0 (.s (pinL T)) .any
def Hd.gl (blk T : Nat) : Hd → Gl
  | .c => [(blk, ⟨[], T, false⟩)]
  | _ => []
def Hd.len (T : Nat) : Hd → AI
  | .c => .s (pinL T)
  | _ => .c 0
def Hd.Fits (s : Hd) (n : Nat) : Prop := match s with | .c => 0 < n | _ => n = 0
def Came (w : World) (v : Value) (s : Hd) (n : Nat) (z : Wd) (pl : Option Pl) : Prop :=
  match s with
  | .a => v = .slice none 0 0 ∧ n = 0 ∧ pl = none
  | .b => (∃ a c, v = .slice (some a) 0 c) ∧ n = 0 ∧ pl = none
  | .c => ∃ cb o c, v = .slice (some ⟨cb, o, none⟩) n c ∧ n ≤ c ∧ 0 < n ∧ CellsAt w .u8 cb o n z ∧ pl = some ⟨cb, o, 0⟩
theorem Came.fits {w : World} {v : Value} {s : Hd} {n : Nat} {z : Wd} {pl : Option Pl} (h : Came w v s n z pl) : s.Fits n := by
  cases s
  · exact h.2.1
  · exact h.2.1
  · obtain ⟨_, _, _, _, _, h0, _⟩ := h
    exact h0
theorem came_of {w : World} {v : Value} {zs : List Int} (hv : ReadsAs w .u8 v zs) (hw : ∀ z ∈ zs, (Lit.int .u8 z).wf = true) : ∃ s n pl, Came w v s n (fun i => zs.getD i 0) pl ∧ Bytes (fun i => zs.getD i 0) n := by
  rcases hv with ⟨rfl, _⟩ | ⟨a, c, rfl, _⟩ | ⟨b, o, n, c, rfl, hc, hn, h0, hcell⟩
  · exact ⟨.a, 0, none, ⟨rfl, rfl, rfl⟩, fun j hj => by omega⟩
  · exact ⟨.b, 0, none, ⟨⟨a, c, rfl⟩, rfl, rfl⟩, fun j hj => by omega⟩
  · exact ⟨.c, n, _, ⟨b, o, c, rfl, hc, h0, cellsAt_of h0 hcell, rfl⟩, bytes_of hw n⟩
theorem text_came {w : World} {v : Value} {n : Nat} {z : Wd} (h : TextAt w v n z) : ∃ s pl, Came w v s n z pl := by
  rcases h with ⟨rfl, rfl | ⟨a, c, rfl⟩⟩ | ⟨h0, cb, o, c, rfl, hle, hz⟩
  · exact ⟨.a, none, rfl, rfl, rfl⟩
  · exact ⟨.b, none, ⟨a, c, rfl⟩, rfl, rfl⟩
  · exact ⟨.c, _, cb, o, c, rfl, hle, h0, hz, rfl⟩
/-- It is as the machine has it. -/
theorem Came.here {w : World} {v : Value} {s : Hd} {n : Nat} {z : Wd} {pl : Option Pl} {ν : Nat → Int} {gp : Nat → Option Pl} {blk T : Nat} (h : Came w v s n z pl) (hb : gmax ≤ blk) (hg : gp blk = pl) (hT : mapTag < T ∧ T ≤ winTag) (hK : pinK T = .u8) (hL : ν (pinL T) = (n : Int)) (hB : ∀ j, j < n → ν (pinB T j) = z j) :
    VR ν (embF gp) (s.av blk T) v ∧ ∀ p ∈ s.gl blk T, p.1 = blk ∧ p.2.own = false ∧ ∃ pl', gp blk = some pl' ∧ BR ν (embF gp) w p.2 pl' := by
  cases s
  · obtain ⟨rfl, _, _⟩ := h
    exact ⟨.nsl, fun p hp => by cases hp⟩
  · obtain ⟨⟨a, c, rfl⟩, _, _⟩ := h
    exact ⟨.sle _ _ _ (fun h => by cases h), fun p hp => by cases hp⟩
  · obtain ⟨cb, o, c, rfl, hle, h0, ⟨C, ty, fz, hC, hz⟩, rfl⟩ := h
    have he : embF gp blk = some ⟨cb, o, 0⟩ := (embF_other hb).trans hg
    refine ⟨.sl blk 0 _ .any ⟨cb, o, 0⟩ n c he hL trivial hle, fun p hp => ?_⟩
    simp only [Hd.gl, List.mem_cons, List.not_mem_nil, or_false] at hp
    subst hp
    refine ⟨rfl, rfl, _, hg, ⟨fun _ => ⟨C, ty, fz, hC, fun j c hc => by simp at hc, fun h => by cases h⟩, fun h => absurd h (Nat.ne_of_gt hT.1), fun _ => ?_⟩⟩
    unfold PinB
    rw [if_pos (show (ABlk.mk [] T false).elem ≤ winTag from hT.2)]
    refine (⟨C, ty, fz, hC, fun j hj => ?_⟩ : Sh.Pinned ν w T ⟨cb, o, 0⟩)
    rw [hL] at hj
    rw [hK, hB j (by omega)]
    exact hz j (by omega)
/-- One that is but as long as it is. -/
def Hd.av0 (blk k : Nat) : Hd → AV
  | .a => .nsl
  | .b => .sle false
  | .c => .sl blk 0 (.s k) .any
def Hd.gl0 (blk : Nat) : Hd → Gl
  | .c => [(blk, ⟨[], 0, false⟩)]
  | _ => []
theorem Came.here0 {w : World} {v : Value} {s : Hd} {n : Nat} {z : Wd} {pl : Option Pl} {ν : Nat → Int} {gp : Nat → Option Pl} {blk k : Nat} (h : Came w v s n z pl) (hb : gmax ≤ blk) (hg : gp blk = pl) (hL : ν k = (n : Int)) :
    VR ν (embF gp) (s.av0 blk k) v ∧ NeedOk ν (embF gp) w (s.gl0 blk) := by
  cases s
  · obtain ⟨rfl, _, _⟩ := h
    exact ⟨.nsl, fun p hp => by cases hp⟩
  · obtain ⟨⟨a, c, rfl⟩, _, _⟩ := h
    exact ⟨.sle _ _ _ (fun h => by cases h), fun p hp => by cases hp⟩
  · obtain ⟨cb, o, c, rfl, hle, h0, ⟨C, ty, fz, hC, hz⟩, rfl⟩ := h
    have he : embF gp blk = some ⟨cb, o, 0⟩ := (embF_other hb).trans hg
    refine ⟨.sl blk 0 _ .any ⟨cb, o, 0⟩ n c he hL trivial hle, fun p hp => ?_⟩
    simp only [Hd.gl0, List.mem_cons, List.not_mem_nil, or_false] at hp
    subst hp
    exact ⟨_, he, ⟨fun _ => ⟨C, ty, fz, hC, fun j c hc => by simp [ABlk.shut] at hc, fun h => by cases h⟩, fun h => absurd (show (0 : Nat) = mapTag from h) (by decide), fun h => absurd (show mapTag < 0 from h) (by decide)⟩⟩
theorem gl0_need {s : Hd} {blk n : Nat} (h : blk < n) : ∀ p ∈ s.gl0 blk, p.1 < n ∧ p.2.elem ≠ mapTag ∧ ∃ us, ∀ ν, concL ν p.2.cells = some us := fun p hp => by
  cases s
  · cases hp
  · cases hp
  · simp only [Hd.gl0, List.mem_cons, List.not_mem_nil, or_false] at hp
    subst hp
    exact ⟨h, show (0 : Nat) ≠ mapTag by decide, [], fun _ => rfl⟩
/-- A law's body, evaluated, as a row that says yes. -/
theorem law_rowN {ν : Nat → Int} {F : Facts} {TM : List RowM} {need gl : Gl} {f n : Nat} {args : List AV} (hG : GlOk gl) (hn : gmax ≤ n) (hF : F.Hold ν) (hTM : ∀ r ∈ TM, r.Ok ν Tryd.prog gl) (h : saysB F tree [] gl [] TM need n 60 4 f args (.b true) = true) (hneed : ∀ p ∈ need, p.1 < n ∧ p.2.elem ≠ mapTag ∧ ∃ us, ∀ ν, concL ν p.2.cells = some us) (hin : args.all (inB need) = true) : RowM.Ok ν Tryd.prog gl ⟨f, args, need, [.v (.b true)]⟩ :=
  rowM_of (res := [.b true]) (us := [.bool true]) hF mixed tab_ok hG (fun r hr => by cases hr) (fun r hr => by cases hr) hTM h hn (fun p hp => ⟨(hneed p hp).1, (hneed p hp).2.1, let ⟨us, hu⟩ := (hneed p hp).2.2; ⟨us, hu ν⟩⟩) hin rfl rfl
theorem yes_ofN {ν : Nat → Int} {gl : Gl} {f : Nat} {args : List AV} {need : Gl} {ρ : Emb} {w : World} {vs : Array Value} (h : RowM.Ok ν Tryd.prog gl ⟨f, args, need, [.v (.b true)]⟩) (hw : Laid gl w) (hn : NeedOk ν ρ w need) (ha : LR ν ρ args vs) : Calls Tryd.prog f vs w fun e w' => e = .returned (.bool true) ∧ Below w.heap.size w w' :=
  (h.2 ρ w vs hw hn ha).mono fun e w' ⟨us, he, hp, hB⟩ => ⟨by
    match us, hp with
    | [u], hp =>
      have : some (Value.bool true) = some u := hp.1
      cases this
      exact he, hB⟩
end Go.Proofs.YtjdcaipgfolgoaaDoor
