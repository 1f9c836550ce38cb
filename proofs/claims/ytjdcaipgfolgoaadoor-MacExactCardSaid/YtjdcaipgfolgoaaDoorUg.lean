/-
  trystref01.Sum256: what it answers: the sum that the program's is. Own work.
-/
import Derived.Test.YtjdcaipgfolgoaaDoorUf
namespace Go.Proofs.YtjdcaipgfolgoaaDoor
open Go.Sh
open Go.ChangeShapes Go.WideShapes Go.RowKit
set_option maxRecDepth 100000

theorem pd_bytes {z : Wd} {n : Nat} (hb : Bytes z n) : Bytes (pd256 z n) (tot256 n) := by
  intro j _
  by_cases h1 : j < n
  · rw [pd_lt h1]
    exact hb j h1
  · by_cases h2 : j = n
    · exact ⟨128, pd_eq h2, by decide⟩
    · by_cases h3 : j < tot256 n - 8
      · exact ⟨0, pd_mid (by omega) h3, by decide⟩
      · exact ⟨_, pd_end (by omega) (by omega), Nat.mod_lt _ (by decide)⟩
theorem tot_mul (n : Nat) : tot256 n = 64 * (tot256 n / 64) := by unfold tot256; omega
theorem T1_L : pinL T1 = 4398046511104 := by decide
theorem T1_A : pinA T1 = 5497558138879 := by decide
theorem T1_B (j : Nat) : pinB T1 j = 4398046511104 + (j + 1) := by
  show (mapTag + 4 - mapTag) * 1099511627776 + (j + 1) = _
  rw [Nat.add_sub_cancel_left]
theorem T1_K : pinK T1 = .u8 := by decide
/-- The names of two rows. -/
def nuG (n : Nat) (z : Wd) (N : Nat) (p : Wd) : Nat → Int := fun k => if k < 4398046511104 then nuP n z k else if k = 4398046511104 then (N : Int) else p (k - 4398046511104 - 1)
section
variable {n N : Nat} {z p : Wd}
theorem nuG_L : nuG n z N p (pinL T1) = (N : Int) := by
  unfold nuG
  rw [T1_L, if_neg (by decide), if_pos rfl]
theorem nuG_B (j : Nat) : nuG n z N p (pinB T1 j) = p j := by
  unfold nuG
  rw [T1_B, if_neg (by omega), if_neg (by omega), show 4398046511104 + (j + 1) - 4398046511104 - 1 = j by omega]
theorem nuG_L0 : nuG n z N p (pinL T0) = (n : Int) := by
  unfold nuG
  rw [if_pos (by rw [T0_L]; decide)]
  exact nuP_L
theorem nuG_B0 {j : Nat} (h : j < 1000000000000) : nuG n z N p (pinB T0 j) = z j := by
  unfold nuG
  rw [if_pos (by rw [T0_B]; omega)]
  exact nuP_B h
end
/-- The call of padded, as a row. -/
theorem rowP_ok {n : Nat} {z : Wd} {x : AV} {need : Gl} (hn : n < 1000000000000) (hx : ∀ ρ w u, NeedOk (nuG n z (tot256 n) (pd256 z n)) ρ w need → VR (nuG n z (tot256 n) (pd256 z n)) ρ x u → TextAt w u n z) : (rowP x need).Ok (nuG n z (tot256 n) (pd256 z n)) Tryd.prog [] := by
  refine ⟨⟨_, Tryd.func30, by kernel_rfl, by kernel_rfl⟩, fun ρ w vs hw hnd hl => ?_⟩
  have hlen : vs.size = 3 := by rw [← hl.1]; rfl
  obtain ⟨u, s, t, rfl⟩ : ∃ u s t, vs = #[u, s, t] := by
    match vs, hlen with
    | ⟨[u, s, t]⟩, _ => exact ⟨u, s, t, rfl⟩
  have hu := hl.2 0 _ u rfl rfl
  have hs := hl.2 1 _ s rfl rfl
  have ht := hl.2 2 _ t rfl rfl
  cases hs
  cases ht
  refine (padded_ok (hx ρ w u hnd hu) hn).2.mono fun e w' ⟨r, he, ⟨cb, o, c, hr, hc, hcb, C, ty, fz, hC, hz⟩, hB⟩ => ⟨[r], he, ⟨⟨⟨by decide, by decide⟩, cb, o, tot256 n, c, hr, hc, nuG_L, hcb, C, ty, fz, hC, fun j hj => ?_⟩, trivial⟩, hB⟩
  rw [nuG_L] at hj
  rw [T1_K, nuG_B]
  exact hz j (by omega)
theorem Tri.pre {P : Program} {N : Nat} {ic : IC} {q : Prop} {Pre : Act → World → Prop} {Post : Ex → Act → World → Prop} (h : q → Tri P N ic Pre Post) : Tri P N ic (fun a w => q ∧ Pre a w) Post :=
  fun c hc a w ⟨i, hp⟩ => h i c hc a w hp
def wdP (k : Nat) : Nat := if k = 0 then 0 else 64
/-- All blocks. -/
theorem pu_loop {w0 : World} {cb o tt : Nat} {C : Array Value} {ty : TypeId} {fz : Nat × Nat} {p : Wd} {N B : Nat} (hz : ∀ j, j < N → C[o + j]? = some (.int .u8 (p j))) (hb : Bytes p N) (hB : N = 64 * B) (hN : N < 1000000000000) (W v : Wd) :
    Tri Tryd.prog 208 (.loop (.seq puR1 (.seq (.block 1 (.seq pubA (.seq (.seq pubB (.block 2 (.loop pubW))) (.seq pubC (.seq (.seq pubD (.block 6 (.loop pubV))) pubE))))) puRi)))
      (fun a w => ∀ W v, HP w0 cb o tt C ty fz 0 (nuV (hs256 p 0) (fun j => p (0 + j)) ((0 : Nat) : Int) N W v) (puN (wdP B) (nmA 0) [(6, sI 200)] [] 70) a w)
      fun ex a w => ex = .exit 0 ∧ HP w0 cb o tt C ty fz (64 * B) (nuV (hs256 p B) (fun j => p (64 * B + j)) ((64 * B : Nat) : Int) N W v) (puN 0 (nmA 0) [] [] 70) a w := by
  have key := Tri.loop (P := Tryd.prog) (N := 208) (x := .seq puR1 (.seq (.block 1 (.seq pubA (.seq (.seq pubB (.block 2 (.loop pubW))) (.seq pubC (.seq (.seq pubD (.block 6 (.loop pubV))) pubE))))) puRi))
    (J := fun k a w => k ≤ B ∧ ∀ W v, HP w0 cb o tt C ty fz (64 * (B - k)) (nuV (hs256 p (B - k)) (fun j => p (64 * (B - k) + j)) ((64 * (B - k) : Nat) : Int) N W v) (puN (wdP k) (nmA 0) [(6, sI 200)] [] 70) a w)
    (Post := fun ex a w => ex = .exit 0 ∧ HP w0 cb o tt C ty fz (64 * B) (nuV (hs256 p B) (fun j => p (64 * B + j)) ((64 * B : Nat) : Int) N W v) (puN 0 (nmA 0) [] [] 70) a w) B ?_ ?_
  · exact key.weak (fun a w h => ⟨Nat.le_refl _, fun W v => by rw [Nat.sub_self, Nat.mul_zero]; exact h W v⟩) (fun _ _ _ h => h)
  · intro k c hc a w ⟨hk, hp⟩
    have e1 : wdP (k + 1) = 64 := if_neg (by omega)
    have hp := hp W v
    rw [e1] at hp
    have e2 : B - k = B - (k + 1) + 1 := by omega
    generalize hkk : B - (k + 1) = k' at hp
    rw [hkk] at e2
    have hwd : wdP k ≤ 64 := by unfold wdP; split <;> omega
    have hfit : 64 * k' + 64 + wdP k ≤ N := by unfold wdP; split <;> omega
    have rnd := fun W1 v1 => pu_round (w0 := w0) (cb := cb) (tt := tt) (ty := ty) (fz := fz) hz hb (h := hs256 p k') (W0 := W) (v0 := v) hfit hwd hN W1 v1
    -- for all names at once
    have all : Tri Tryd.prog 208 (.seq puR1 (.seq (.block 1 (.seq pubA (.seq (.seq pubB (.block 2 (.loop pubW))) (.seq pubC (.seq (.seq pubD (.block 6 (.loop pubV))) pubE))))) puRi))
        (HP w0 cb o tt C ty fz (64 * k') (nuV (hs256 p k') (fun j => p (64 * k' + j)) ((64 * k' : Nat) : Int) N W v) (puN 64 (nmA 0) [(6, sI 200)] [] 70))
        fun ex a w => ex = .normal ∧ ∀ W1 v1, HP w0 cb o tt C ty fz (64 * k' + 64) (nuV (cp256 (fun j => p (64 * k' + j)) (hs256 p k')) (fun j => p (64 * k' + 64 + j)) ((64 * k' + 64 : Nat) : Int) N W1 v1) (puN (wdP k) (nmA 0) [(6, sI 200)] [] 70) a w := by
      refine (rnd (fun _ => 0) (fun _ => 0)).weak (fun _ _ h => h) fun ex a w hh => ⟨hh.1, fun W1 v1 => ?_⟩
      refine pu_ren (l' := [(6, sI 200)]) (H' := []) hz hh.2 (by decide) (gN65 _ _ []) (gN67 _ _ []) (gN68 _ _ []) rfl rfl rfl rfl hfit (fun j hj => by rw [nm0_val hj, nm0_val hj]) (fun j hj => nuV_w (by omega)) (fun q hq => ⟨q.2, hq, ?_⟩) (fun q hq => by cases hq)
      simp only [List.mem_cons, List.not_mem_nil, or_false] at hq
      subst hq
      exact .inl ⟨.int .i64 ((64 * k' + 64 : Nat) : Int), rfl, rfl⟩
    refine (all.weak (fun _ _ h => h) fun ex a w hh => .inl ⟨hh.1, by omega, ?_⟩) c hc a w hp
    rw [e2]
    have e3 : 64 * (k' + 1) = 64 * k' + 64 := by omega
    rw [e3]
    exact hh.2
  · intro c hc a w ⟨_, hp⟩
    have hp := hp W v
    have e1 : wdP 0 = 0 := if_pos rfl
    rw [e1, Nat.sub_zero] at hp
    have hF : (fQ false).Hold (nuV (hs256 p B) (fun j => p (64 * B + j)) ((64 * B : Nat) : Int) N W v) := by
      refine ⟨fun q hq => (by cases hq), fun q hq => ?_, fun q hq => by cases hq⟩
      simp only [fQ, List.mem_cons, List.not_mem_nil, or_false] at hq
      subst hq
      exact decide_eq_false (show ¬ ((64 * B : Nat) : Int) < (N : Int) by omega)
    have hT := Tri.seq (y := .seq (.block 1 (.seq pubA (.seq (.seq pubB (.block 2 (.loop pubW))) (.seq pubC (.seq (.seq pubD (.block 6 (.loop pubV))) pubE))))) puRi) (Post := fun ex a w => ex ≠ .normal ∧ ex = .exit 0 ∧ HP w0 cb o tt C ty fz (64 * B) (nuV (hs256 p B) (fun j => p (64 * B + j)) ((64 * B : Nat) : Int) N W v) (puN 0 (nmA 0) [] [] 70) a w)
      (runP (w0 := w0) (L := []) (fx := [(69, ⟨cb, o + 64 * B, tt⟩)]) (kp := [(cb, .cells C ty fz)]) pu_goRe hF) (fun c hc a w h => by cases h.1) (fun ex a w hne h => ⟨hne, h.1, h.2⟩)
    exact hT c hc a w hp
theorem outP_val {ν : Nat → Int} {h : Wd} (hh : ∀ j, j < 8 → ν j = h j) : conc2 ν (.ag (rowC .u8 outP 32)) = some (aggI .u8 32 (out256 h)) := by
  rw [conc2_row]
  refine congrArg some (aggI_congr fun j hj => ?_)
  show IntKind.u8.wrap (arith .shr .u32 (ν (j / 4)) ((24 - 8 * (j % 4) : Nat) : Int)) = _
  rw [hh _ (by omega)]
  rfl
theorem puZ_res : resA (trL puZ.e) (heapL (puZ.H ++ []) puZ.n) [.c 2 (some 32)] = some (.ag (rowC .u8 outP 32)) := by kernel_rfl
/-- WHAT IT ANSWERS. -/
theorem PSum256_ok {w : World} {v : Value} {n : Nat} {z : Wd} (hv : TextAt w v n z) (hb : Bytes z n) (hn : n < 100000000000) :
    (∃ fn, Tryd.prog.funcs[15]? = some fn ∧ fn.body.isSome = true ∧ (fn.name == "runtime.NumGoroutine") = false) ∧
    Calls Tryd.prog 15 #[v] w fun e w' => e = .returned (aggI .u8 32 (sum256 z n)) ∧ Below w.heap.size w w' := by
  have below : ∀ {w' : World}, BelowL [] w w' → Below w.heap.size w w' := fun hB => ⟨hB.os, hB.tape, hB.output, hB.size, fun k hk => hB.block k hk fun p hp => by cases hp⟩
  have htot := tot_mul n
  have hN : tot256 n < 1000000000000 := by unfold tot256; omega
  have hB1 : 0 < tot256 n / 64 := by rw [tot_div]; omega
  generalize hBe : tot256 n / 64 = B at htot hB1
  -- from the text on
  have go : ∀ (x : AV) (H : List (Nat × ABlk)) (g : Nat → Option Pl), puStart x H = true → (∀ ρ w u, NeedOk (nuG n z (tot256 n) (pd256 z n)) ρ w H → VR (nuG n z (tot256 n) (pd256 z n)) ρ x u → TextAt w u n z) → (∀ b, 65 ≤ b → g b = none) → VR (nuG n z (tot256 n) (pd256 z n)) (embF g) x v →
      (∀ p ∈ H, gmax ≤ p.1 ∧ ∃ pl, g p.1 = some pl ∧ BR (nuG n z (tot256 n) (pd256 z n)) (embF g) w p.2 pl ∧ p.2.own = false) → _ := fun x H g hst hx hg hvr hH => by
    have start := holdsX_start (N := 208) (ν := nuG n z (tot256 n) (pd256 z n)) (L := []) (fx := []) (kp := []) (vs := #[v]) (e0 := (pu0 x H).e) (H0 := H) (n0 := 65) gl0_ok (w := w) (fun p hp => by cases hp) g (by show 1 ≤ 208; decide) (by decide) hg (fun p hp => by cases hp)
      (fun p hp => by
        simp only [pu0, List.mem_cons, List.not_mem_nil, or_false] at hp
        subst hp
        exact ⟨_, rfl, hvr⟩)
      (fun p hp => by
        obtain ⟨q1, pl, q2, q3, q4⟩ := hH p hp
        exact ⟨q1, pl, q2, q3, fun h => by rw [q4] at h; cases h⟩)
      (fun p hp => by cases hp)
    refine (And.imp id (fun h2 => h2.mono fun e w' ⟨v, he, hv, hB⟩ => ⟨by rw [he, hv], hB⟩) (callsX (L := []) (gl := []) (Q := fun v w' => v = aggI .u8 32 (sum256 z n) ∧ Below w.heap.size w w') tab_ok (by kernel_rfl) pu_shape start ?_) :
      (∃ fn, Tryd.prog.funcs[15]? = some fn ∧ fn.body.isSome = true ∧ (fn.name == "runtime.NumGoroutine") = false) ∧ Calls Tryd.prog 15 #[v] w fun e w' => e = .returned (aggI .u8 32 (sum256 z n)) ∧ Below w.heap.size w w')
    simp only [puStart, Bool.and_eq_true] at hst
    obtain ⟨⟨⟨s1, s2⟩, s3⟩, s4⟩ := hst
    have last := runP (w0 := w) (ν := nuG n z (tot256 n) (pd256 z n)) (L := []) (fx := []) (kp := []) pu_goE (none_f _)
    refine seqN (runP s1 (none_f _)) (seqN (runP s2 (none_f _)) (seqN (runP s3 (none_f _)) (seqN (Tri.runX (none_f _) mixed tab_ok gl0_ok (fun r hr => by cases hr) (fun r hr => by cases hr) (fun r hr => ?_) (fun r hr => by cases hr) s4) (seqN (Mid := fun a w' => ∃ (i : Nat × Nat × Nat × Array Value × TypeId × (Nat × Nat)), HP w i.1 i.2.1 i.2.2.1 i.2.2.2.1 i.2.2.2.2.1 i.2.2.2.2.2 (64 * B) (nuV (hs256 (pd256 z n) B) (fun j => pd256 z n (64 * B + j)) ((64 * B : Nat) : Int) (tot256 n) (fun _ => 0) (fun _ => 0)) (puN 0 (nmA 0) [] [] 70) a w') ?_ ?_))))
    · simp only [List.mem_cons, List.not_mem_nil, or_false] at hr
      subst hr
      exact rowP_ok (by omega) hx
    · refine seqN (Mid := fun a w' => ∃ (i : Nat × Nat × Nat × Array Value × TypeId × (Nat × Nat)), (∀ j, j < tot256 n → i.2.2.2.1[i.2.1 + j]? = some (.int .u8 (pd256 z n j))) ∧ ∀ W v, HP w i.1 i.2.1 i.2.2.1 i.2.2.2.1 i.2.2.2.2.1 i.2.2.2.2.2 0 (nuV (hs256 (pd256 z n) 0) (fun j => pd256 z n (0 + j)) ((0 : Nat) : Int) (tot256 n) W v) (puN (wdP B) (nmA 0) [(6, sI 200)] [] 70) a w') (last.weak (fun _ _ h => h) fun ex a w' hh => ⟨hh.1, ?_⟩) ?_
      · obtain ⟨pl, ob, hob, hpin, hK⟩ := keepX (P := Tryd.prog) (b := 69) (x := ⟨[], T1, false⟩) hh.2 (by kernel_rfl) rfl
        have hpin := hpin (by show mapTag < T1; decide)
        unfold PinB at hpin
        rw [if_pos (by show T1 ≤ winTag; decide)] at hpin
        obtain ⟨C, ty, fz, g1, g2⟩ := hpin
        rw [hob] at g1
        cases g1
        have hz : ∀ j, j < tot256 n → C[pl.co + j]? = some (.int .u8 (pd256 z n j)) := fun j hj => by
          have h9 : C[pl.co + j]? = some (.int (pinK T1) (nuG n z (tot256 n) (pd256 z n) (pinB T1 j))) := g2 j (by show (j : Int) < nuG n z (tot256 n) (pd256 z n) (pinL T1); rw [nuG_L]; omega)
          rw [h9, T1_K, nuG_B]
        refine ⟨(pl.cb, pl.co, pl.tot, C, ty, fz), hz, fun W v => ?_⟩
        have no : ∀ b, b ≠ 69 → (fun b => if b = 69 then some (⟨pl.cb, pl.co + 0, pl.tot⟩ : Pl) else none) b = none := fun b hb => if_neg hb
        have hwd : wdP B = 64 := if_neg (by omega)
        rw [hwd]
        refine HoldsX.rename gl0_ok hK (fun b => if b = 69 then some ⟨pl.cb, pl.co + 0, pl.tot⟩ else none) (by decide) (fun _ hp => hp) (fun b q hv => ?_) (fun p hp => ?_) (fun p hp => ?_) fun p hp => ?_
        · by_cases hb : b = 69
          · subst hb; exact ⟨by decide, by decide⟩
          · rw [if_neg hb] at hv; cases hv
        · simp only [List.mem_cons, List.not_mem_nil, or_false] at hp
          subst hp
          exact .inl rfl
        · simp only [pls, List.cons_append, List.nil_append, List.mem_cons, List.not_mem_nil, or_false] at hp
          rcases hp with rfl | rfl | rfl | rfl | rfl
          · exact ⟨iN 0, by simp [puEo], SlotTo.conc (u := .int .i64 0) rfl rfl⟩
          · exact ⟨.sl 69 0 (.s (pinL T1)) .any, by simp [puEo], slotTo_win (i' := 0) (m := tot256 n) List.mem_cons_self rfl rfl rfl rfl nuG_L rfl (by omega) (by omega)⟩
          · exact ⟨.p 65 0, by simp [puEo, pls], SlotTo.p _ (by decide) rfl⟩
          · exact ⟨.p 67 0, by simp [puEo, pls], SlotTo.p _ (by decide) rfl⟩
          · exact ⟨.p 68 0, by simp [puEo, pls], SlotTo.p _ (by decide) rfl⟩
        · simp only [List.nil_append, List.mem_cons, List.not_mem_nil, or_false] at hp
          rcases hp with rfl | rfl | rfl | rfl
          · exact ⟨by decide, by decide, .inr ⟨rfl, reB.2, by kernel_rfl, rfl, blkTo_row (by decide) fun j _ => rfl⟩⟩
          · exact ⟨by decide, by decide, .inr ⟨rfl, kB.2, by kernel_rfl, rfl, blkTo_row (by decide) fun j _ => rfl⟩⟩
          · exact ⟨by decide, by decide, .inr ⟨rfl, (hB7 h0A).2, by kernel_rfl, rfl, blkTo_row (by decide) fun j hj => by rw [nm0_val hj]; rfl⟩⟩
          · refine ⟨by decide, by decide, .inl ⟨_, rfl, rfl, ⟨_, List.mem_cons_self⟩, fun ρ' => ?_⟩⟩
            have hc : CellsAt w' .u8 pl.cb (pl.co + 0) 64 (fun j => pd256 z n (0 + j)) := ⟨C, ty, fz, hob, fun j hj => by rw [Nat.add_assoc]; exact hz _ (by omega)⟩
            exact hc.br (by decide) fun j hj => nuV_w hj
      · refine Tri.ex fun i => Tri.pre fun hz => ?_
        refine Tri.block (pu_loop hz (pd_bytes hb) htot hN (fun _ => 0) (fun _ => 0)) (fun a w h => by cases h.1) (fun a w h => ⟨rfl, i, h.2⟩) (fun j a w hj h => ?_) (fun a w h => by cases h.1)
        have := h.1
        simp only [Ex.exit.injEq] at this
        exact (hj this).elim
    · refine Tri.ex fun i => ?_
      refine (runP pu_goF (none_f _)).weak (fun _ _ h => h) fun ex a w' h => ⟨.inr h.1, nuV (hs256 (pd256 z n) B) (fun j => pd256 z n (64 * B + j)) ((64 * B : Nat) : Int) (tot256 n) (fun _ => 0) (fun _ => 0), puZ, .ag (rowC .u8 outP 32), [(69, ⟨i.1, i.2.1 + 64 * B, i.2.2.1⟩)], [(i.1, .cells i.2.2.2.1 i.2.2.2.2.1 i.2.2.2.2.2)], h.2, puZ_res, fun ρ v _ _ _ hB hv => ⟨?_, below hB⟩⟩
      rw [(conc2_vr (outP_val (h := hs256 (pd256 z n) B) fun j hj => nuV_h hj)).2 v hv]
      unfold sum256
      rw [hBe]
  rcases hv with ⟨rfl, hv⟩ | ⟨h0, cb, o, c, rfl, hle, C, ty, fz, hC, hz⟩
  · rcases hv with rfl | ⟨a, c, rfl⟩
    · exact go .nsl [] (fun _ => none) pu_start0 (fun ρ w u _ hu => by cases hu; exact .inl ⟨rfl, .inl rfl⟩) (fun _ _ => rfl) .nsl (fun p hp => by cases hp)
    · exact go (.sle false) [] (fun _ => none) pu_start1 (fun ρ w u _ hu => by cases hu; exact .inl ⟨rfl, .inr ⟨_, _, rfl⟩⟩) (fun _ _ => rfl) (.sle _ _ _ (fun h => by cases h)) (fun p hp => by cases hp)
  · refine go slP0 [txP] (at1 64 ⟨cb, o, 0⟩) pu_start2 (fun ρ w u hnd hu => ?_) (fun b hb => at1_none (by omega)) (.sl 64 0 _ .any ⟨cb, o, 0⟩ n c (at1_at (by decide)) nuG_L0 trivial hle) (fun p hp => ?_)
    · obtain ⟨pl, q1, q2⟩ := hnd txP List.mem_cons_self
      have q1 : ρ 64 = some pl := q1
      have hp := q2.pin (by decide)
      unfold PinB at hp
      rw [if_pos (by decide)] at hp
      obtain ⟨C2, ty2, fz2, r1, r2⟩ := hp
      cases hu
      rename_i q m c2 hle2 hq hnn hcap
      have hq : ρ 64 = some q := hq
      rw [q1] at hq
      cases hq
      have hm : (n : Int) = (m : Int) := nuG_L0.symm.trans hnn
      have hm : n = m := by omega
      subst hm
      refine .inr ⟨h0, pl.cb, pl.co + 0, c2, rfl, hle2, C2, ty2, fz2, r1, fun j hj => ?_⟩
      have h9 : C2[pl.co + j]? = some (.int (pinK T0) (nuG n z (tot256 n) (pd256 z n) (pinB T0 j))) := r2 j (by show (j : Int) < nuG n z (tot256 n) (pd256 z n) (pinL T0); rw [nuG_L0]; omega)
      rw [Nat.add_zero, h9, T0_K, nuG_B0 (by omega)]
    · simp only [List.mem_cons, List.not_mem_nil, or_false] at hp
      subst hp
      refine ⟨by decide, _, if_pos rfl, ⟨fun _ => ⟨C, ty, fz, hC, fun j c hc => by simp [txP] at hc, fun h => by cases h⟩, fun h => by exact absurd h (by decide), fun _ => ?_⟩, rfl⟩
      unfold PinB
      rw [if_pos (by decide)]
      have hpn : Sh.Pinned (nuG n z (tot256 n) (pd256 z n)) w T0 ⟨cb, o, 0⟩ := by
        refine ⟨C, ty, fz, hC, fun j hj => ?_⟩
        rw [nuG_L0] at hj
        have hj : j < n := by omega
        rw [T0_K, nuG_B0 (by omega)]
        exact hz j hj
      exact hpn
end Go.Proofs.YtjdcaipgfolgoaaDoor
