/-
  MIXONCE: what is first written stays, on lists; registers held against one another; pairs that came in. Own work.
-/
import Derived.Test.YtenllpaochcjfaaMXg
import Derived.Test.YtenllpaochcjfaaMXi
namespace Go.Proofs.Ytenllpaochcjfaa
open Go.ChangeShapes Go.WideShapes Go.ChangeAt Go.RowKit Go.Maps Go.Deep
set_option maxRecDepth 100000
/-- Pairs that came in. -/
def Says (w : World) (v : Value) (n : Nat) : Prop :=
  ∃ p c, v = .slice p n c ∧ (n = 0 ∨ ∃ b o, p = some ⟨b, o, none⟩ ∧ b < w.heap.size ∧ ∀ i, i < n → ∃ x y : Int, w.cell? ⟨b, o + i * 2, none⟩ = some (.int .i64 x) ∧ w.cell? ⟨b, o + i * 2 + 1, none⟩ = some (.int .i64 y))
section
variable {H : Type} {enc : TypeId × Value → H} {w : World} {base : Nat} {sp : Nat → Bool} {held : Bool}
theorem open_pair {fuel : Nat} {cs : List Value} {x : DataW H × List MemPlace} (h : DataW.trod enc Try.prog w base sp held fuel 31 cs = some x) : ∃ k n : Int, cs = [.int .i64 k, .int .i64 n] := by
  obtain ⟨ys, m, _, _, hl, hlen, hf⟩ := DataW.trod_array Try.underlying31 h
  have hl3 : cs.length = 2 := by rw [hl]; kernel_rfl
  match cs, hl3 with
  | [c0, c1], _ =>
    match ys, hlen with
    | [y0, y1], _ =>
      have h0 := hf 0 (by omega)
      have h1 := hf 1 (by omega)
      have e3 : Try.prog.cellsOf 3 = 1 := by kernel_rfl
      rw [e3] at h0 h1
      simp only [List.drop, List.take] at h0 h1
      obtain ⟨k, hk, _, _⟩ := DataW.trod_int Try.underlying3 h0
      obtain ⟨n, hn, _, _⟩ := DataW.trod_int Try.underlying3 h1
      cases hk
      cases hn
      exact ⟨k, n, rfl⟩
theorem open_pairs {r : Reach} {b0 : Nat} {v : Value} {d : DataW H} {ps : List MemPlace} (hval : Value.okWide Try.prog w r b0 22 v) (h : DataW.Trod enc Try.prog w base sp held 22 v d ps) : ∃ n, Says w v n := by
  obtain ⟨fuel, hf⟩ := h
  obtain ⟨a0, len0, cap0, rfl⟩ := okWide_slice Try.underlying22 hval
  rcases DataW.trod_slice Try.underlying22 hf with ⟨hcs, _⟩ | ⟨a, len, cap, elems, rest, n, _, hcs, _, _, _, _, hlen, hel, _⟩
  · simp [Value.cells] at hcs
    obtain ⟨rfl, rfl, rfl⟩ := hcs
    exact ⟨0, none, 0, rfl, .inl rfl⟩
  · simp [Value.cells] at hcs
    obtain ⟨rfl, rfl, rfl⟩ := hcs
    by_cases h0 : len0 = 0
    · subst h0
      exact ⟨0, _, cap0, rfl, .inl rfl⟩
    · have e3 : Try.prog.cellsOf 31 = 2 := by kernel_rfl
      rw [e3] at hel
      have each : ∀ i, i < len0 → ∃ x y : Int, w.cell? ((a.add (i * 2)).add 0) = some (.int .i64 x) ∧ w.cell? ((a.add (i * 2)).add 1) = some (.int .i64 y) := by
        intro i hi
        have h1 := hel i hi
        rw [List.getElem?_eq_getElem (by omega)] at h1
        obtain ⟨cs, hcs, ht⟩ := Option.bind_eq_some_iff.1 h1
        obtain ⟨_, _, hc⟩ := World.cells?_some hcs
        obtain ⟨k, m, rfl⟩ := open_pair ht
        exact ⟨k, m, hc 0 (by omega), hc 1 (by omega)⟩
      obtain ⟨b, off, spot⟩ := a
      have hspot : spot = none := by
        obtain ⟨x, y, hs, _⟩ := each 0 (by omega)
        simpa [Addr.add] using World.cell?_spot hs
      subst hspot
      have hb : b < w.heap.size := by
        obtain ⟨x, y, hs, _⟩ := each 0 (by omega)
        have := World.block_lt_of_cell? w _ hs
        simpa [Addr.add] using this
      refine ⟨len0, _, cap0, rfl, .inr ⟨b, off, rfl, hb, fun i hi => ?_⟩⟩
      obtain ⟨x, y, h1, h2⟩ := each i hi
      simp only [add_plain, Nat.add_zero] at h1 h2
      exact ⟨x, y, h1, h2⟩
end

/-- The value of a register. -/
def look (R : List Ky) (y : Int) : Option Int := (R.find? (fun k => k.1 == y)).map Prod.snd
theorem look_none {R : List Ky} {y : Int} (h : ∀ k ∈ R, k.1 ≠ y) : look R y = none := by
  unfold look
  rw [List.find?_eq_none.2 (fun k hk => by simpa using h k hk)]
  rfl
theorem look_had : ∀ {R : List Ky} {y s : Int} {t : Nat}, R[t]? = some (y, s) → (∀ (t' : Nat) (k : Ky), t' < t → R[t']? = some k → k.1 ≠ y) → look R y = some s := by
  intro R
  induction R with
  | nil => intro y s t h; cases h
  | cons a T ih =>
    intro y s t h hf
    cases t with
    | zero =>
      cases h
      simp [look]
    | succ t =>
      have h1 : a.1 ≠ y := hf 0 a (by omega) rfl
      have h2 := ih (t := t) (by simpa using h) (fun t' k ht hk => hf (t' + 1) k (by omega) (by simpa using hk))
      unfold look at h2 ⊢
      rw [List.find?_cons_of_neg (by simpa using h1)]
      exact h2
theorem look_put {R : List Ky} {y y' z : Int} (hn : look R y = none) : look (R ++ [(y, z)]) y' = if y' = y then some z else look R y' := by
  unfold look at hn ⊢
  rw [List.find?_append]
  by_cases h : y' = y
  · subst h
    rw [if_pos rfl]
    cases hf : R.find? (fun k => k.1 == y') with
    | none => simp
    | some k => rw [hf] at hn; simp at hn
  · rw [if_neg h]
    cases hf : R.find? (fun k => k.1 == y') with
    | none => simp [Ne.symm h]
    | some k => simp
/-- What the law's rounds keep. -/
structure MOk (L : List Tm) (R : List Ky) (fs : List Int) : Prop where
  w1 : L[0]? = some (2, 71, [])
  w2 : L[1]? = some (2, 72, [])
  w0 : L[2]? = some (2, 0, [])
  lf : fs.length = 5
  at' : ∀ k : Nat, k < 5 → (fs.getD k 0 = 0 ∧ ∀ r : Nat, L[r]? = some (1, 100 + (k : Int), []) → look R r = none) ∨ ∃ r v : Nat, L[r]? = some (1, 100 + (k : Int), []) ∧ fs.getD k 0 = (v : Int) ∧ v ≠ 0 ∧ look R r = some (v : Int)
  in' : ∀ p ∈ R, allIn L [p.1, p.2]
theorem MOk.keep {L L' : List Tm} {R : List Ky} {fs : List Int} (M : MOk L R fs) (hm : ∀ (j : Nat) (u : Tm), L[j]? = some u → L'[j]? = some u) (hle : L.length ≤ L'.length) : MOk L' R fs := by
  refine ⟨hm _ _ M.w1, hm _ _ M.w2, hm _ _ M.w0, M.lf, fun k hk => ?_, fun p hp x hx => by have := M.in' p hp x hx; omega⟩
  rcases M.at' k hk with ⟨h1, h2⟩ | ⟨r, v, h1, h2⟩
  · refine .inl ⟨h1, fun r hr => ?_⟩
    rcases Nat.lt_or_ge r L.length with h | h
    · obtain ⟨u, hu⟩ : ∃ u, L[r]? = some u := ⟨_, List.getElem?_eq_getElem h⟩
      rw [same_at (hm _ _ hu) hr] at hu
      exact h2 r hu
    · exact look_none (fun p hp e => by have := M.in' p hp p.1 (by simp); omega)
  · exact .inr ⟨r, v, hm _ _ h1, h2⟩
theorem MOk.get {L : List Tm} {R R' : List Ky} {fs : List Int} {k r : Nat} {b a : Int} (M : MOk L R fs) (hW : Wf L) (hk : k < 5) (hr : L[r]? = some (1, 100 + (k : Int), [])) (D : Does [(72, (r : Int), b)] (2 : Nat) 0 R R' a) : R' = R ∧ a = if fs.getD k 0 = 0 then 2 else fs.getD k 0 := by
  cases D with
  | put y z h _ => simp at h
  | had u y z s t h _ h1 h2 =>
    simp only [List.getElem?_cons_zero, Option.some.injEq, Prod.mk.injEq] at h
    obtain ⟨_, rfl, _⟩ := h
    have hl := look_had h1 h2
    rcases M.at' k hk with ⟨_, e⟩ | ⟨r2, v, e1, e2, e3, e4⟩
    · rw [e r hr] at hl
      cases hl
    · obtain rfl := one_at hW e1 hr
      rw [e4] at hl
      rw [e2, if_neg (by omega)]
      exact ⟨rfl, (Option.some.inj hl).symm⟩
  | none y z h h1 =>
    simp only [List.getElem?_cons_zero, Option.some.injEq, Prod.mk.injEq] at h
    obtain ⟨_, rfl, _⟩ := h
    have hl := look_none h1
    rcases M.at' k hk with ⟨e, _⟩ | ⟨r2, v, e1, e2, e3, e4⟩
    · rw [if_pos e]
      exact ⟨rfl, rfl⟩
    · obtain rfl := one_at hW e1 hr
      rw [e4] at hl
      cases hl
  | meets y z u' y' z' j h _ _ => simp at h
  | alone y z h _ => simp at h
theorem MOk.put {L : List Tm} {R R' : List Ky} {fs : List Int} {k r v : Nat} {a : Int} (M : MOk L R fs) (hW : Wf L) (hk : k < 5) (hr : L[r]? = some (1, 100 + (k : Int), [])) (hv : v < L.length) (hv0 : v ≠ 0) (D : Does [(71, (r : Int), (v : Int))] (2 : Nat) 0 R R' a) : (fs.getD k 0 = 0 ∧ R' = R ++ [((r : Int), (v : Int))] ∧ a = (v : Int) ∧ MOk L R' (fs.set k (v : Int))) ∨ (fs.getD k 0 ≠ 0 ∧ R' = R ∧ a = fs.getD k 0) := by
  cases D with
  | put y z h h1 =>
    simp only [List.getElem?_cons_zero, Option.some.injEq, Prod.mk.injEq] at h
    obtain ⟨_, rfl, rfl⟩ := h
    have hl := look_none h1
    rcases M.at' k hk with ⟨e, _⟩ | ⟨r2, v2, e1, e2, e3, e4⟩
    · refine .inl ⟨e, rfl, rfl, M.w1, M.w2, M.w0, by simp [M.lf], fun k' hk' => ?_, fun p hp x hx => ?_⟩
      · by_cases hkk : k' = k
        · subst hkk
          exact .inr ⟨r, v, hr, by rw [List.getD_eq_getElem?_getD, List.getElem?_set_self (by rw [M.lf]; exact hk)]; rfl, hv0, by rw [look_put hl, if_pos rfl]⟩
        · have hs : (fs.set k (v : Int)).getD k' 0 = fs.getD k' 0 := by rw [List.getD_eq_getElem?_getD, List.getD_eq_getElem?_getD, List.getElem?_set_ne (Ne.symm hkk)]
          have hne : ∀ r' : Nat, L[r']? = some (1, 100 + (k' : Int), []) → ¬ (r' : Int) = (r : Int) := fun r' h' e' => by
            obtain rfl : r' = r := by omega
            have := same_at h' hr
            simp only [Prod.mk.injEq] at this
            omega
          rw [hs]
          rcases M.at' k' hk' with ⟨f1, f2⟩ | ⟨r3, v3, f1, f2, f3, f4⟩
          · exact .inl ⟨f1, fun r' h' => by rw [look_put hl, if_neg (hne r' h')]; exact f2 r' h'⟩
          · exact .inr ⟨r3, v3, f1, f2, f3, by rw [look_put hl, if_neg (hne r3 f1)]; exact f4⟩
      · rcases List.mem_append.1 hp with hp | hp
        · exact M.in' p hp x hx
        · rw [List.mem_singleton.1 hp] at hx
          have := (List.getElem?_eq_some_iff.1 hr).1
          simp at hx
          omega
    · obtain rfl := one_at hW e1 hr
      rw [e4] at hl
      cases hl
  | had u y z s t h _ h1 h2 =>
    simp only [List.getElem?_cons_zero, Option.some.injEq, Prod.mk.injEq] at h
    obtain ⟨_, rfl, _⟩ := h
    have hl := look_had h1 h2
    rcases M.at' k hk with ⟨_, e⟩ | ⟨r2, v2, e1, e2, e3, e4⟩
    · rw [e r hr] at hl
      cases hl
    · obtain rfl := one_at hW e1 hr
      rw [e4] at hl
      exact .inr ⟨by omega, rfl, by rw [e2]; exact (Option.some.inj hl).symm⟩
  | none y z h h1 => simp at h
  | meets y z u' y' z' j h _ _ => simp at h
  | alone y z h _ => simp at h
theorem Done.one {p : Pl} {z : Nat} {R R' : List Ky} {out : List Int} (D : Done [p] z R 1 R' out) : ∃ a, out = [a] ∧ Does [p] z 0 R R' a := by
  cases D with
  | step _ R1 _ out1 a h hd =>
    cases h with
    | start => exact ⟨a, rfl, hd⟩
/-! registers held against one another -/
attribute [local go_sem ↓] Go.wp_at_zero Go.wp_at_succ
set_option maxHeartbeats 4000000 in
theorem keepRegs_ok (p1 p2 : Option Addr) (n c1 c2 : Nat) (R : List Ky) (ws : World) (hn : R.length = n) (h4 : n ≤ 500) (h1 : Hid (∀ i k, R[i]? = some k → ∃ b o, p1 = some ⟨b, o, none⟩ ∧ b < ws.heap.size ∧ ws.cell? ⟨b, o + i * 2, none⟩ = some (.int .i64 k.1) ∧ ws.cell? ⟨b, o + i * 2 + 1, none⟩ = some (.int .i64 k.2))) (h2 : Hid (RdK ws (.slice p2 n c2) R)) : Calls Try.prog 8 #[.slice p1 n c1, .slice p2 n c2] ws fun e w' => e = .returned (.bool true) ∧ Below ws.heap.size ws w' := by
  go_enter Try.func8, Try.ntmps8
  go_wp2
  go_loopw [5] (fun i wq => ∃ j : Nat, i = .int .i64 j ∧ j ≤ n ∧ Below ws.heap.size ws wq) (fun i _ => n - (intOf i).toNat)
  case atStart => exact ⟨0, rfl, by omega, Below.refl _ _⟩
  case round =>
    obtain ⟨j, rfl, hj, hB⟩ := hrel
    by_cases hlt : j < n
    · obtain ⟨⟨u, v⟩, hk⟩ : ∃ k, R[j]? = some k := ⟨_, List.getElem?_eq_getElem (by omega)⟩
      obtain ⟨b, o, rfl, hb, c0, d0⟩ := h1.out j _ hk
      have e0 := (hB.cell (p := ⟨b, o + j * 2, none⟩) hb).trans c0
      have e1 := (hB.cell (p := ⟨b, o + j * 2 + 1, none⟩) hb).trans d0
      obtain ⟨b2, o2, rfl, hb2, f0, f1⟩ := rdk_nth (h2.out.below hB) hk
      simp only at e0 e1 f0 f1
      have hjI : (j : Int) < n := by omega
      clear hk c0 d0
      go_wp2
      go_quiet (fail)
      go_wp2
      exact ⟨⟨j + 1, by simp, by omega, below_drewN hB _⟩, by simp [intOf]; omega⟩
    · obtain rfl : j = n := by omega
      go_wp2
      go_ret
      exact ⟨rfl, hB⟩
end Go.Proofs.Ytenllpaochcjfaa
