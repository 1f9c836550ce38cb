/-
  MIXONCE: memory; one payload done. Own work.
-/
import Derived.Test.YtenllpaochcjfaaMXj
namespace Go.Proofs.Ytenllpaochcjfaa
open Go.ChangeShapes Go.WideShapes Go.ChangeAt Go.RowKit Go.Maps Go.Deep
set_option maxRecDepth 100000
attribute [local go_sem ↓] Go.wp_at_zero Go.wp_at_succ
theorem conv_u (c : Int) (m : Nat) (h0 : 0 < m) (h : m ≤ 1000) : ∃ k : Nat, k < m ∧ wrap64 ((IntKind.u64.wrap c).tmod m) = k := by
  have h1 : 0 ≤ IntKind.u64.wrap c := Int.emod_nonneg _ (by decide)
  rw [Int.tmod_eq_emod_of_nonneg h1]
  have h2 := Int.emod_nonneg (IntKind.u64.wrap c) (b := (m : Int)) (by omega)
  have h3 := Int.emod_lt_of_pos (IntKind.u64.wrap c) (b := (m : Int)) (by omega)
  generalize IntKind.u64.wrap c % (m : Int) = z at h2 h3
  exact ⟨z.toNat, by omega, by rw [IntWalk.wrap64_in _ (by omega)]; omega⟩
theorem mo0 : put [] (2, 71, []) = (0, 0, [(2, 71, [])]) := by decide +kernel
theorem mo1 : put [(2, 71, [])] (2, 72, []) = (1, 0, [(2, 71, []), (2, 72, [])]) := by decide +kernel
theorem mo2 : put [(2, 71, []), (2, 72, [])] (2, 0, []) = (2, 0, [(2, 71, []), (2, 72, []), (2, 0, [])]) := by decide +kernel
theorem MOk.start : MOk [(2, 71, []), (2, 72, []), (2, 0, [])] [] [0, 0, 0, 0, 0] :=
  ⟨rfl, rfl, rfl, rfl, fun k hk => .inl ⟨by
    have : k = 0 ∨ k = 1 ∨ k = 2 ∨ k = 3 ∨ k = 4 := by omega
    rcases this with rfl | rfl | rfl | rfl | rfl <;> rfl, fun r _ => rfl⟩, fun p hp => by cases hp⟩
/-- What the rounds hold in memory. -/
structure MOn (w wq : World) (ab fb : Nat) (L : List Tm) (R : List Ky) (fs : List Int) (ps : Option Addr) (cs : Nat) : Prop where
  on : On w wq ab L (fun k => k = fb ∨ (Value.slice ps R.length cs).ownBlock = some k)
  first : wq.ownsRow fb 3 1 (.slice (some ⟨fb, 0, none⟩) 5 5) 5 (fs.map (Value.int .i64))
  st : RdK wq (.slice ps R.length cs) R
  ne : ∀ k, (Value.slice ps R.length cs).ownBlock = some k → k ≠ fb
  wl : w.heap.size ≤ fb
section
variable {w wq w' : World} {ab fb : Nat} {L L1 : List Tm} {R : List Ky} {fs : List Int} {ps : Option Addr} {cs : Nat}
theorem MOn.step (T : MOn w wq ab fb L R fs ps cs) (B : Below wq.heap.size wq w') : MOn w w' ab fb L R fs ps cs :=
  ⟨T.on.step B, row_keeps (F := fun _ => False) T.first (Keeps.of_below B) (fun _ _ h => h), T.st.below B, T.ne, T.wl⟩
theorem MOn.calls (T : MOn w wq ab fb L R fs ps cs) {i : Nat} {avs : Array Value} {Q : Ending → World → Prop} (h : ∀ G', On w wq ab L G' → Calls Try.prog i avs wq fun e w' => Q e w' ∧ On w w' ab L1 G' ∧ Stay G' wq w') : Calls Try.prog i avs wq fun e w' => Q e w' ∧ MOn w w' ab fb L1 R fs ps cs := by
  refine (h _ T.on).mono ?_
  rintro e w' ⟨hq, O', K⟩
  exact ⟨hq, O', row_keeps T.first K (fun k hk hn => hn (.inl (by simpa [Value.ownBlock] using hk.symm))), T.st.keeps K (fun _ k hk hn => hn (.inr hk)), T.ne, T.wl⟩
theorem MOn.cell (T : MOn w wq ab fb L R fs ps cs) {k : Nat} (hk : k < 5) : wq.cell? ⟨fb, k, none⟩ = some (.int .i64 (fs.getD k 0)) := by
  obtain ⟨g, hg, _, _, _, hc⟩ := row_open T.first (by omega)
  obtain rfl : fb = g := by simpa using hg
  have hl : fs.length = 5 := by have := T.first.1; simpa using this
  rw [hc k (by omega), List.getElem?_map, List.getD_eq_getElem?_getD, List.getElem?_eq_getElem (by omega)]
  rfl
theorem iset (l : List Int) (i : Nat) (b : Int) : (l.map (Value.int .i64)).set i (.int .i64 b) = (l.set i b).map (Value.int .i64) := by rw [List.map_set]
theorem MOn.set (T : MOn w wq ab fb L R fs ps cs) (k : Nat) (z : Int) : MOn w (wq.setCell ⟨fb, k, none⟩ (.int .i64 z)) ab fb L R (fs.set k z) ps cs := by
  obtain ⟨hr, hg⟩ := World.ownsRow.stored T.first k (.int .i64 z)
  rw [iset] at hr
  have hK : Keeps (fun k => k = fb) wq (wq.setCell ⟨fb, k, none⟩ (.int .i64 z)) := Keeps.of_grown hg (fun k hk => by cases hk; rfl)
  have hw := T.wl
  exact ⟨T.on.own hK (fun k hk => .inl ⟨.inl hk, by omega⟩), hr, T.st.keeps hK (fun _ k hk e => T.ne k hk e), T.ne, T.wl⟩
/-- Registers behind registers, after Do. -/
theorem MOn.next {R' : List Ky} {pn po : Option Addr} {cn co n : Nat} {ys : List Value} (T : MOn w wq ab fb L R fs ps cs) (k2 : On w w' ab L (fun k => ((k = fb ∨ (Value.slice ps R.length cs).ownBlock = some k) ∨ k = wq.heap.size) ∨ ((Value.slice pn R'.length cn).ownBlock = some k ∨ (Value.slice po n co).ownBlock = some k))) (k3 : Stay (fun k => (k = fb ∨ (Value.slice ps R.length cs).ownBlock = some k) ∨ k = wq.heap.size) (wq.alloc (.cells ys.toArray 3)) w') (k4 : w'.ownsRow (wq.alloc (.cells ys.toArray 3)).heap.size 52 2 (.slice pn R'.length cn) R'.length (flatK R')) : MOn w w' ab fb L R' fs pn cn := by
  have hf := (row_base T.first (k := fb) rfl).2
  refine ⟨k2.mono (fun k hk => hk.elim (fun h => .inl (.inl (.inl h))) (fun h => .inr (.inl h))), row_keeps (T.first.alloc _) k3 (fun k hk hn => hn (.inl (.inl (by simpa [Value.ownBlock] using hk.symm)))), rdk_row k4, fun k hk e => ?_, T.wl⟩
  have := (row_base k4 hk).1
  simp at this
  omega
theorem cap_of {R R' : List Ky} {base : Nat} {pn : Option Addr} {cn : Nat} (hl : R.length ≤ R'.length) (k4 : w'.ownsRow base 52 2 (.slice pn R'.length cn) R'.length (flatK R')) : R.length ≤ cn := by
  rcases Nat.eq_zero_or_pos R'.length with h | h
  · omega
  · obtain ⟨_, _, _, _, hc, _⟩ := row_open k4 h
    omega
theorem nil_or {R' : List Ky} {base : Nat} {pn : Option Addr} {cn : Nat} (k4 : w'.ownsRow base 52 2 (.slice pn R'.length cn) R'.length (flatK R')) : (pn = none ∧ R'.length = 0 ∧ cn = 0) ∨ ∃ g, pn = some ⟨g, 0, none⟩ := by
  rcases k4.2 with ⟨h, h0⟩ | ⟨g, cap, cur, h, _⟩
  · simp only [Value.slice.injEq] at h
    exact .inl ⟨h.1, h0, h.2.2⟩
  · simp only [Value.slice.injEq] at h
    exact .inr ⟨g, h.1⟩
theorem does_pre {As : List Pl} {z0 : Int} {i : Nat} {R R' : List Ky} {a : Int} (D : Does As z0 i R R' a) : (∀ (i : Nat) (k : Ky), R[i]? = some k → R'[i]? = some k) ∧ R.length ≤ R'.length ∧ R'.length ≤ R.length + 1 := by
  cases D with
  | put y z _ _ => exact ⟨fun i k h => by rw [List.getElem?_append_left (List.getElem?_eq_some_iff.1 h).1]; exact h, by simp, by simp⟩
  | had u y z s t _ _ _ _ => exact ⟨fun i k h => h, Nat.le_refl _, Nat.le_succ _⟩
  | none y z _ _ => exact ⟨fun i k h => h, Nat.le_refl _, Nat.le_succ _⟩
  | meets y z u' y' z' j _ _ _ => exact ⟨fun i k h => h, Nat.le_refl _, Nat.le_succ _⟩
  | alone y z _ _ => exact ⟨fun i k h => h, Nat.le_refl _, Nat.le_succ _⟩
theorem do_once (T : Hid (MOn w wq ab fb L R fs ps cs)) {gs : List Int} (K : Hid (MOk L R gs)) (x : Nat) (u y b : Int) (hx : Hid (IsAsk L x (u, y, b))) (hR : R.length ≤ 100) : Calls Try.prog 7 #[.pointer (some ⟨ab, 0, none⟩), .slice ps R.length cs, .slice (some ⟨wq.heap.size, 0, none⟩) 1 1] (wq.alloc (.cells #[.int .i64 (x : Int)] 3)) fun e w' => ∃ (pn : Option Addr) (cn g co : Nat) (R' : List Ky) (a : Int), e = .returned (.tuple #[.slice pn R'.length cn, .slice (some ⟨g, 0, none⟩) 1 co, .int .i64 0]) ∧ Does [(u, y, b)] (2 : Nat) 0 R R' a ∧ w'.cell? ⟨g, 0, none⟩ = some (.int .i64 a) ∧ MOn w w' ab fb L R' fs pn cn ∧ (∀ (i : Nat) (k : Ky), R[i]? = some k → ∃ b o, pn = some ⟨b, o, none⟩ ∧ b < w'.heap.size ∧ w'.cell? ⟨b, o + i * 2, none⟩ = some (.int .i64 k.1) ∧ w'.cell? ⟨b, o + i * 2 + 1, none⟩ = some (.int .i64 k.2)) ∧ R.length ≤ R'.length ∧ R'.length ≤ R.length + 1 ∧ R.length ≤ cn ∧ ((pn = none ∧ R'.length = 0 ∧ cn = 0) ∨ ∃ g, pn = some ⟨g, 0, none⟩) ∧ RdK w' (.slice ps R.length cs) R := by
  have HWF := T.out.on.wf
  have HMK := (show Hid (MkT L (2, 0, []) 2 L) from mk_in HWF (sh_word 0 (by omega)) (fun z hz => by cases hz) K.out.w0)
  have HT7 := (show Hid (On w (wq.alloc (.cells #[.int .i64 (x : Int)] 3)) ab L (fun k => (k = fb ∨ (Value.slice ps R.length cs).ownBlock = some k) ∨ k = wq.heap.size)) from T.out.on.add ((Below.refl _ _).alloc (Nat.le_refl _) _) (fun k hk => by simp; omega))
  have HA := (show Hid (∀ q : Nat, q < 1 → ∃ (x' : Nat) (u' y' b' : Int), [(x : Int)][q]? = some (x' : Int) ∧ ([(u, y, b)] : List Pl)[q]? = some (u', y', b') ∧ IsAsk L x' (u', y', b')) from fun q hq => by
    obtain rfl : q = 0 := by omega
    exact ⟨x, u, y, b, rfl, rfl, hx.out⟩)
  refine (mixdo_ok HT7 HMK ps R.length cs R rfl (by omega) (show Hid _ from T.out.st.alloc _) (fun k hk => .inl (.inr hk)) K.out.in' (some ⟨wq.heap.size, 0, none⟩) 1 1 [(x : Int)] [(u, y, b)] rfl rfl (by omega) (show Hid _ from (reads_lit [(x : Int)] rfl rfl _).rdw) (fun k hk => .inr (by simpa [Value.ownBlock] using hk.symm)) HA).mono ?_
  rintro e w' ⟨pn, cn, po, co, R', out, rfl, k1, k2, k3, k4, k5, k6⟩
  obtain ⟨a, rfl, hd⟩ := k1.one
  obtain ⟨g, rfl, _, _, _, hc⟩ := row_open k5 (by simp)
  have hp := does_pre hd
  refine ⟨pn, cn, g, co, R', a, rfl, hd, hc 0 (by simp), MOn.next (ys := [.int .i64 (x : Int)]) T.out k2 k3 k4, fun i k hi => rdk_nth (rdk_row k4) (hp.1 i k hi), hp.2.1, hp.2.2, cap_of hp.2.1 k4, nil_or k4, ?_⟩
  exact (T.out.st.alloc _).keeps k3 (fun _ k hk hn => hn (.inl (.inr hk)))
end
end Go.Proofs.Ytenllpaochcjfaa
