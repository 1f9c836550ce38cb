/-
  PolyPiece: for all its arguments the law returns true. Conditions: none.
-/
import Derived.Test.YtbdihdncnpajgaaPos
namespace Go.Proofs.Ytbdihdncnpajgaa
open Go.Sh
open Go.ChangeShapes Go.WideShapes Go.ChangeAt Go.RowKit
set_option maxRecDepth 100000

/-- The product, digit by digit, and what is made of it. -/
def pV (r n : Nat) (zz : Nat → Nat) : Nat → Nat → Nat
  | 0 => fun j => r * pcN n zz 0 j
  | u + 1 => prN 20 (pV r n zz u)
def kpN (r : Nat) (s : Nat → Nat) (j : Nat) : Nat := if j = 0 then r else if j < 16 then 0 else s (j - 16)
def loI (r : Nat) (s : Nat → Nat) (n : Nat) (zz : Nat → Nat) (u : Nat) : Nat → Int := fun x => if x < 16 then (s x : Int) else if x = 16 then (r : Int) else if x < 140 then 0 else if x < 156 then (tagN (kpN r s) n zz (x - 140) : Int) else if x < 400 then 0 else if x < 420 then (zz (x - 400) : Int) else if x = 900 then (u : Int) else if x < 1000 then 0 else (pV r n zz u (x - 1000) : Int)
def nuI (r : Nat) (s : Nat → Nat) (n : Nat) (zz : Nat → Nat) (u : Nat) : Nat → Int := nuR (loI r s n zz u) (fun _ => n) (fun _ => n) (fun _ j => (zz j : Int))
section
variable {s zz : Nat → Nat} {n r u : Nat}
theorem nuI_s {j : Nat} (h : j < 16) : nuI r s n zz u j = (s j : Int) := (nuR_lo (by omega)).trans (if_pos h)
theorem nuI_r : nuI r s n zz u 16 = (r : Int) := (nuR_lo (by decide)).trans rfl
theorem nuI_u : nuI r s n zz u 900 = (u : Int) := (nuR_lo (by decide)).trans rfl
theorem nuI_t {j : Nat} (h : j < 16) : nuI r s n zz u (140 + j) = (tagN (kpN r s) n zz j : Int) := by
  refine (nuR_lo (by omega)).trans ?_
  unfold loI
  rw [if_neg (by omega), if_neg (by omega), if_neg (by omega), if_pos (by omega), Nat.add_sub_cancel_left]
theorem nuI_x {j : Nat} (h : j < 16) : nuI r s n zz u (400 + j) = (zz j : Int) := by
  refine (nuR_lo (by omega)).trans ?_
  unfold loI
  rw [if_neg (by omega), if_neg (by omega), if_neg (by omega), if_neg (by omega), if_neg (by omega), if_pos (by omega), Nat.add_sub_cancel_left]
theorem nuI_a {j : Nat} (h : j < 20) : nuI r s n zz u (1000 + j) = (pV r n zz u j : Int) := by
  refine (nuR_lo (by omega)).trans ?_
  unfold loI
  rw [if_neg (by omega), if_neg (by omega), if_neg (by omega), if_neg (by omega), if_neg (by omega), if_neg (by omega), if_neg (by omega), if_neg (by omega), Nat.add_sub_cancel_left]
theorem pcN_lt (hz : ∀ j, zz j < 256) {q : Nat} (j : Nat) : pcN n zz q j < 256 := by
  unfold pcN
  split
  · exact hz _
  · split <;> decide
theorem pcN_dv (hz : ∀ j, zz j < 256) {q : Nat} : dv (pcN n zz q) 20 = dv (pcN n zz q) 17 ∧ dv (pcN n zz q) 17 < 2 * 340282366920938463463374607431768211456 := by
  have hw := wq_le (n := n) (q := q)
  refine ⟨by rw [show 20 = 17 + 3 from rfl, dv_cut fun j h1 h2 => by unfold pcN; rw [if_neg (by omega), if_neg (by omega)]], ?_⟩
  have h1 : dv (pcN n zz q) 16 < 256 ^ 16 := dv_lt fun j _ => pcN_lt hz j
  have q16 : (256 : Nat) ^ 16 = 340282366920938463463374607431768211456 := by decide
  have h2 : pcN n zz q 16 ≤ 1 := by
    unfold pcN
    rw [if_neg (by omega)]
    split <;> decide
  show dv (pcN n zz q) 16 + pcN n zz q 16 * 256 ^ 16 < _
  rw [q16] at h1 ⊢
  omega
theorem none20 {v : Nat → Nat} : ∀ j, 20 ≤ j → j < 20 → v j < 256 := fun j h1 h2 => by omega
theorem pV_lt (hr : r < 256) (hz : ∀ j, zz j < 256) : ∀ u j, j < 20 → pV r n zz u j < 100000
  | 0, j, _ => by
    have h1 := pcN_lt (n := n) hz (q := 0) j
    have h2 : r * pcN n zz 0 j ≤ 255 * 255 := Nat.mul_le_mul (by omega) (by omega)
    show r * pcN n zz 0 j < 100000
    omega
  | u + 1, j, hj => pr0_lt (fun j hj => d2_lt none20 hj) hj
theorem pV_dv (hr : r < 256) (hz : ∀ j, zz j < 256) : dv (pV r n zz 3) 20 < 1361129467683753853853498429727072845824 ∧ dv (pV r n zz 3) 20 % pp = r * dv (pcN n zz 0) 17 % pp := by
  obtain ⟨h3, h4⟩ := pcN_dv (n := n) (q := 0) hz
  have q18 : (256 : Nat) ^ 18 = 22300745198530623141535718272648361505980416 := by decide
  have e0 : dv (pV r n zz 0) 20 = r * dv (pcN n zz 0) 17 := by
    show dv (fun j => r * pcN n zz 0 j) 20 = _
    rw [dv_mul, h3]
  have b0 : dv (pV r n zz 0) 20 < 1361129467683753853853498429727072845824 * 1000 := by
    rw [e0]
    have : r * dv (pcN n zz 0) 17 ≤ 255 * (2 * 340282366920938463463374607431768211456) := Nat.mul_le_mul (by omega) (by omega)
    omega
  have g0 : dv (pV r n zz 0) 20 < 256 ^ 18 := by
    rw [q18]
    omega
  have e1 : dv (pV r n zz 1) 20 = red (dv (pV r n zz 0) 20) := dv_pr (v := pV r n zz 0) (by decide) g0
  have b1 : dv (pV r n zz 1) 20 < 1361129467683753853853498429727072845824 + 6000 := by
    rw [e1]
    generalize dv (pV r n zz 0) 20 = A at b0 ⊢
    unfold red
    omega
  have g1 : dv (pV r n zz 1) 20 < 256 ^ 18 := by
    rw [q18]
    omega
  have e2 : dv (pV r n zz 2) 20 = red (dv (pV r n zz 1) 20) := dv_pr (v := pV r n zz 1) (by decide) g1
  have b2 : dv (pV r n zz 2) 20 < 1361129467683753853853498429727072845824 := by
    rw [e2]
    generalize dv (pV r n zz 1) 20 = A at b1 ⊢
    unfold red
    omega
  have g2 : dv (pV r n zz 2) 20 < 256 ^ 18 := by
    rw [q18]
    omega
  have e3 : dv (pV r n zz 3) 20 = red (dv (pV r n zz 2) 20) := dv_pr (v := pV r n zz 2) (by decide) g2
  refine ⟨by rw [e3, red_id b2]; exact b2, ?_⟩
  rw [e3, red_mod, e2, red_mod, e1, red_mod, e0]
theorem rN_kp : rN (kpN r s) = r := by
  unfold rN
  rw [show 16 = 1 + 15 from rfl, dv_cut fun j h1 h2 => ?_]
  · show 0 + hfN (kpN r s) 0 * 256 ^ 0 = r
    rw [Nat.zero_add, Nat.pow_zero, Nat.mul_one]
    rfl
  · unfold hfN kpN
    rw [if_neg (show ¬ j = 0 by omega), if_pos (show j < 16 by omega)]
    split
    · rfl
    · split <;> rfl
theorem kpN_hi {j : Nat} : kpN r s (16 + j) = s j := by
  unfold kpN
  rw [if_neg (by omega), if_neg (by omega), Nat.add_sub_cancel_left]
theorem kpN_lt (hr : r < 256) (hs : ∀ j, s j < 256) (j : Nat) : kpN r s j < 256 := by
  unfold kpN
  split
  · exact hr
  · split
    · decide
    · exact hs _
theorem kpA_val {j : Nat} (hj : j < 32) : (kpA j).val (nuI r s n zz u) = (kpN r s j : Int) := by
  unfold kpA kpN
  by_cases c : j = 0
  · rw [if_pos (by simpa using c), if_pos c]
    exact nuI_r
  · rw [if_neg (by simpa using c), if_neg c]
    by_cases c2 : j < 16
    · rw [if_pos (by simpa using c2), if_pos c2]
      rfl
    · rw [if_neg (by simpa using c2), if_neg c2]
      exact nuI_s (by omega)
theorem c2A_val (hr : r < 256) (hz : ∀ j, zz j < 256) (hn : n ≤ 16) {j : Nat} : (c2A n j).val (nuI r s n zz u) = (pV r n zz 0 j : Int) := by
  have hw : wq n 0 = n := by unfold wq; omega
  have h1 : (c1A n j).val (nuI r s n zz u) = (pcN n zz 0 j : Int) := by
    unfold c1A pcN
    rw [hw]
    by_cases c : j < n
    · rw [if_pos (by simpa using c), if_pos c, cA_val]
      show IntKind.i64.wrap (nuI r s n zz u (400 + j)) = _
      have := hz j
      rw [nuI_x (by omega), wrapL _ (by omega), Nat.mul_zero, Nat.zero_add]
    · rw [if_neg (by simpa using c), if_neg c]
      by_cases c2 : j = n
      · rw [if_pos (by simpa using c2), if_pos c2]
        rfl
      · rw [if_neg (by simpa using c2), if_neg c2]
        rfl
  have h2 := pcN_lt (n := n) hz (q := 0) j
  unfold c2A
  rw [eA_val, cA_val, h1]
  show arith .mul .i64 _ (IntKind.i64.wrap (nuI r s n zz u 16)) = ((r * pcN n zz 0 j : Nat) : Int)
  have h3 : pcN n zz 0 j * r ≤ 255 * 255 := Nat.mul_le_mul (by omega) (by omega)
  rw [nuI_r, wrapL _ (by omega), mulL _ _ (by omega), Nat.mul_comm]
theorem pe_get (l : List (Nat × AV)) (g : Nat → AI) : ∀ p ∈ (pe_5 n l g).H, (heapL ((pe_5 n l g).H ++ []) 68).get p.1 = some p.2 := by
  intro p hp
  simp only [pe_5, List.mem_cons, List.not_mem_nil, or_false] at hp
  rcases hp with rfl | rfl | rfl | rfl <;> kernel_rfl
theorem pe_re {w0 w : World} {ac : Act} {u' : Nat} {l l' : List (Nat × AV)} {g : Nat → AI} (hn : n ≤ 16) (hg : ∀ j, j < 20 → (g j).val (nuI r s n zz u) = (pV r n zz u' j : Int))
    (hl : ∀ p ∈ l', ∃ x, (p.1, x) ∈ l ∧ SlotR (nuI r s n zz u) (nuI r s n zz u') [64, 65, 66, 67] (fun b => b) (fun _ pl => pl) x p.2) (h : HoldsX 169 w0 (nuI r s n zz u) [] [] [] [] (pe_5 n l g) ac w) : HoldsX 169 w0 (nuI r s n zz u') [] [] [] [] (pe_5 n l' (nmA 1000)) ac w := by
  have gt := pe_get (n := n) l g
  refine HoldsX.re [64, 65, 66, 67] (fun b => b) (fun _ pl => pl) gl0_ok h (by decide) (fun x pl => rfl) (fun b hb => ?_) (fun b hb b' hb' e => e) (fun p hp => ?_) (fun p hp => ?_)
  · simp only [List.mem_cons, List.not_mem_nil, or_false] at hb
    rcases hb with rfl | rfl | rfl | rfl <;> exact ⟨by decide, by decide⟩
  · rcases List.mem_append.1 (show p ∈ (l' ++ [(7, AV.p 66 0), (9, .p 67 0)]) ++ [(0, rA), (2, sN n), (4, .p 65 0), (6, .b false)] from hp) with hp | hp
    · rcases List.mem_append.1 hp with hp | hp
      · obtain ⟨x, h1, h2⟩ := hl p hp
        exact ⟨x, List.mem_append.2 (.inl (List.mem_append.2 (.inl h1))), h2⟩
      · simp only [List.mem_cons, List.not_mem_nil, or_false] at hp
        rcases hp with rfl | rfl
        · exact ⟨.p 66 0, List.mem_append.2 (.inl (List.mem_append.2 (.inr (by simp)))), SlotR.p (by simp) rfl fun _ => rfl⟩
        · exact ⟨.p 67 0, List.mem_append.2 (.inl (List.mem_append.2 (.inr (by simp)))), SlotR.p (by simp) rfl fun _ => rfl⟩
    · simp only [List.mem_cons, List.not_mem_nil, or_false] at hp
      rcases hp with rfl | rfl | rfl | rfl
      · exact ⟨rA, List.mem_append.2 (.inr (by simp)), SlotR.conc (u := .int .u8 (r : Int)) (by show some (Value.int .u8 (nuI r s n zz u 16)) = _; rw [nuI_r]) (by show some (Value.int .u8 (nuI r s n zz u' 16)) = _; rw [nuI_r])⟩
      · exact ⟨sN n, List.mem_append.2 (.inr (by simp)), SlotR.sl (by simp) rfl (fun _ => rfl) rfl⟩
      · exact ⟨.p 65 0, List.mem_append.2 (.inr (by simp)), SlotR.p (by simp) rfl fun _ => rfl⟩
      · exact ⟨.b false, List.mem_append.2 (.inr (by simp)), SlotR.conc (u := .bool false) rfl rfl⟩
  · simp only [List.mem_cons, List.not_mem_nil, or_false] at hp
    rcases hp with rfl | rfl | rfl | rfl
    · refine ⟨by simp [bN], _, gt (bN n) (by simp [pe_5]), id, ?_⟩
      exact BlkR.row (by decide) fun j hj => by rw [nm_val, nm_val, nuI_x (by omega), nuI_x (by omega)]
    · refine ⟨by simp [bS], _, gt (bS 65) (by simp [pe_5]), id, ?_⟩
      exact BlkR.row (by decide) fun j hj => by rw [nm_val, nm_val, Nat.zero_add, nuI_s hj, nuI_s hj]
    · refine ⟨by simp [bK], _, gt (bK 66 kpA) (by simp [pe_5]), id, ?_⟩
      exact BlkR.row (by decide) fun j hj => by rw [kpA_val hj, kpA_val hj]
    · refine ⟨by simp [b20], _, gt (b20 67 g) (by simp [pe_5]), id, ?_⟩
      exact BlkR.row (by decide) fun j hj => by rw [hg j hj, nm_val, nuI_a hj]
theorem at16 {p : Nat → Bool} (h : (List.range 16).all p = true) (h0 : 0 < n) (hn : n ≤ 16) : p (n - 1) = true := List.all_eq_true.1 h _ (List.mem_range.2 (by omega))
theorem pe_loop {w0 : World} (hr : r < 256) (hz : ∀ j, zz j < 256) (h0 : 0 < n) (hn : n ≤ 16) : Tri Try.prog 169 (.loop peR) (fun a w => HoldsX 169 w0 (nuI r s n zz 0) [] [] [] [] (pe_5 n [(12, sI 900)] (nmA 1000)) a w) fun ex a w => ex = .exit 6 ∧ HoldsX 169 w0 (nuI r s n zz 3) [] [] [] [] (pe_5 n [] (nmA 1000)) a w := by
  have key := Tri.loop (P := Try.prog) (N := 169) (x := peR) (J := fun q a w => q ≤ 3 ∧ HoldsX 169 w0 (nuI r s n zz (3 - q)) [] [] [] [] (pe_5 n [(12, sI 900)] (nmA 1000)) a w) (Post := fun ex a w => ex = .exit 6 ∧ HoldsX 169 w0 (nuI r s n zz 3) [] [] [] [] (pe_5 n [] (nmA 1000)) a w) 3 ?_ ?_
  · exact key.weak (fun a w h => ⟨Nat.le_refl _, h⟩) (fun _ _ _ h => h)
  · intro q cc hc a w ⟨hq, hp⟩
    have e2 : 3 - q = 3 - (q + 1) + 1 := by omega
    have hlt : 3 - (q + 1) < 3 := by omega
    rw [e2]
    generalize 3 - (q + 1) = u at *
    have hgo := at16 pe_gR h0 hn
    unfold peQ at hgo
    rw [show n - 1 + 1 = n by omega] at hgo
    refine ((Tri.runX (L := []) (fx := []) (kp := []) (w0 := w0) ⟨fun p hp => (by cases hp), fun p hp => ?_, fun p hp => by cases hp⟩ mixed tab_ok gl0_ok (fun r hr => by cases hr) (fun r hr => by cases hr) (fun r hr => by cases hr) (fun r hr => by cases hr) hgo).weak (fun _ _ h => h) (fun ex a w h => .inl ⟨h.1, by omega, ?_⟩)) cc hc a w hp
    · simp only [fPe, List.mem_cons, List.not_mem_nil, or_false] at hp
      subst hp
      show decide (nuI r s n zz u 900 < ((3 : Nat) : Int)) = true
      rw [nuI_u]
      exact decide_eq_true (by omega)
    · refine pe_re hn (fun j hj => (pr_num (m := 20) (v := pV r n zz u) (by decide) (fun j hj => ⟨by rw [nm_val, nuI_a hj], by have := pV_lt (n := n) hr hz u j hj; omega⟩) none20 hj).1) (fun p hp => ?_) h.2
      simp only [List.mem_cons, List.not_mem_nil, or_false] at hp
      subst hp
      refine ⟨.i .i64 (.e .add .i64 (.s 900) (nA 1)), by simp, SlotR.conc (u := .int .i64 ((u + 1 : Nat) : Int)) ?_ (sI_conc nuI_u)⟩
      show some (Value.int .i64 (IntKind.i64.wrap (nuI r s n zz u 900 + ((1 : Nat) : Int)))) = _
      rw [nuI_u, i64_small (by omega) (by omega)]
      rfl
  · intro cc hc a w ⟨_, hp⟩
    have hgo := at16 pe_gX h0 hn
    unfold peX at hgo
    rw [show n - 1 + 1 = n by omega] at hgo
    refine ((Tri.runX (L := []) (fx := []) (kp := []) (w0 := w0) ⟨fun p hp => (by cases hp), fun p hp => ?_, fun p hp => by cases hp⟩ mixed tab_ok gl0_ok (fun r hr => by cases hr) (fun r hr => by cases hr) (fun r hr => by cases hr) (fun r hr => by cases hr) hgo).weak (fun _ _ h => h) (fun ex a w h => ⟨by rw [h.1]; simp, h⟩)) cc hc a w hp
    simp only [fPe, List.mem_cons, List.not_mem_nil, or_false] at hp
    subst hp
    show decide (nuI r s n zz 3 900 < ((3 : Nat) : Int)) = false
    rw [nuI_u]
    decide
theorem s16_val : conc2 (nuI r s n zz u) s16 = some (aggI .u8 16 fun j => (s j : Int)) := by
  show conc2 _ (.ag (rowC .u8 (nmA 0) (15 + 1))) = _
  rw [conc2_row]
  exact congrArg some (aggI_congr fun j hj => by rw [nm_val, Nat.zero_add]; exact nuI_s hj)
theorem r_vr {ρ : Emb} : VR (nuI r s n zz u) ρ rA (.int .u8 (r : Int)) := by
  have h : VR (nuI r s n zz u) ρ rA (.int .u8 ((AI.s 16).val (nuI r s n zz u))) := .i _ _
  rw [show (AI.s 16).val (nuI r s n zz u) = (r : Int) from nuI_r] at h
  exact h
end
/-- Of a text of some. -/
theorem piece_some {w : World} {cb o cp n r : Nat} {s zz : Nat → Nat} (hr : r < 256) (hs : ∀ j, s j < 256) (hz : ∀ j, zz j < 256) (h0 : 0 < n) (hn : n ≤ 16) (hle : n ≤ cp) (hc : CellsAt w .u8 cb o n fun j => (zz j : Int)) :
    Calls Try.prog 6 #[.int .u8 (r : Int), aggI .u8 16 fun j => (s j : Int), .slice (some ⟨cb, o, none⟩) n cp] w fun e w' => e = .returned (.bool true) ∧ Below w.heap.size w w' := by
  have below : ∀ {w' : World}, BelowL [] w w' → Below w.heap.size w w' := fun hB => ⟨hB.os, hB.tape, hB.output, hB.size, fun k hk => hB.block k hk fun p hp => by cases hp⟩
  have start := holdsX_start (N := 169) (ν := nuI r s n zz 0) (L := []) (fx := []) (kp := []) (vs := #[.int .u8 (r : Int), aggI .u8 16 fun j => (s j : Int), .slice (some ⟨cb, o, none⟩) n cp]) (e0 := (pe_0 n).e) (H0 := (pe_0 n).H) (n0 := 65) gl0_ok (w := w) (fun p hp => by cases hp) (at1 64 ⟨cb, o, 0⟩) (by show 3 ≤ 169; decide) (by decide) (fun b hb => at1_none (by omega)) (fun p hp => by cases hp)
    (fun p hp => by
      simp only [pe_0, List.mem_cons, List.not_mem_nil, or_false] at hp
      rcases hp with rfl | rfl | rfl
      · exact ⟨_, rfl, r_vr⟩
      · exact ⟨_, rfl, (conc2_vr s16_val).1⟩
      · exact ⟨_, rfl, .sl 64 0 _ .any ⟨cb, o, 0⟩ n cp (at1_at (by decide)) rfl trivial hle⟩)
    (fun p hp => by
      simp only [pe_0, List.mem_cons, List.not_mem_nil, or_false] at hp
      subst hp
      exact ⟨show gmax ≤ 64 by decide, _, if_pos rfl, CellsAt.br hc (by decide) fun j hj => by rw [nm_val]; exact nuI_x (by omega), fun h => by cases h⟩)
    (fun p hp => by cases hp)
  refine (callsX (L := []) (gl := []) (Q := fun u w' => u = .bool true ∧ Below w.heap.size w w') tab_ok (by kernel_rfl) pe_shape start ?_).2.mono fun e w' ⟨v, he, hv, hB⟩ => ⟨by rw [he, hv], hB⟩
  have run : ∀ {ic : IC} {i o : Nat → Now}, (List.range 16).all (peG ic i o) = true → Tri Try.prog 169 ic (HoldsX 169 w (nuI r s n zz 0) [] [] [] [] (i n)) fun ex' a w' => ex' = .normal ∧ HoldsX 169 w (nuI r s n zz 0) [] [] [] [] (o n) a w' := fun {ic i o} h => by
    have hgo := at16 h h0 hn
    unfold peG at hgo
    rw [show n - 1 + 1 = n by omega] at hgo
    exact Tri.runX (none_f _) mixed tab_ok gl0_ok (fun r hr => by cases hr) (fun r hr => by cases hr) (fun r hr => by cases hr) (fun r hr => by cases hr) hgo
  refine seqN (run pe_g1) (seqN (run pe_g2) (seqN (run pe_g3) (seqN (run pe_g4) (seqN (run pe_g5) (seqN (run pe_g6) (seqN (run pe_g7) (seqN (run pe_g8) (seqN (Mid := HoldsX 169 w (nuI r s n zz 3) [] [] [] [] (pe_5 n [] (nmA 1000))) ?_ ?_))))))))
  · refine seqN (Mid := HoldsX 169 w (nuI r s n zz 0) [] [] [] [] (pe_5 n [(12, sI 900)] (nmA 1000))) ((run pe_gD).weak (fun _ _ h => h) fun ex a w' h => ⟨h.1, ?_⟩) ?_
    · refine pe_re hn (fun j _ => c2A_val hr hz hn) (fun p hp => ?_) h.2
      simp only [List.mem_cons, List.not_mem_nil, or_false] at hp
      subst hp
      exact ⟨iN 0, by simp, SlotR.conc (u := .int .i64 ((0 : Nat) : Int)) rfl (sI_conc nuI_u)⟩
    refine Tri.block (pe_loop hr hz h0 hn) (fun a w h => by cases h.1) (fun a w h => ⟨rfl, h.2⟩) (fun j a w hj h => ?_) (fun a w h => by cases h.1)
    have := h.1
    simp only [Ex.exit.injEq] at this
    exact (hj this).elim
  · obtain ⟨x1, x2⟩ := pV_dv (n := n) hr hz
    have hacc : accN (rN (kpN r s)) n zz ((n + 15) / 16) = dv (pV r n zz 3) 20 % pp := by
      rw [rN_kp, show (n + 15) / 16 = 1 by omega, x2]
      show (0 + dv (pcN n zz 0) 17) * r % pp = _
      rw [Nat.zero_add, Nat.mul_comm]
    have hoe := oe_hold (ν := nuI r s n zz 3) (g := nmA 1000) (m := 20) (n := n) (v := pV r n zz 3) (s := s) (k := kpN r s) (zz := zz) (by decide) (by decide) (fun j hj => ⟨by rw [nm_val, nuI_a hj], by have := pV_lt (n := n) hr hz 3 j hj; omega⟩) x1 (fun j hj => ⟨nuI_s hj, hs j⟩) (fun j _ => kpN_hi) hacc (fun j hj => nuI_t hj)
    have hgo : peW (decide (4 ≤ (5 + dv (pV r n zz 3) 20) / 256 ^ 16 % 256)) (n - 1) = true := by
      cases decide (4 ≤ (5 + dv (pV r n zz 3) 20) / 256 ^ 16 % 256)
      · exact at16 pe_gE0 h0 hn
      · exact at16 pe_gE1 h0 hn
    unfold peW at hgo
    rw [show n - 1 + 1 = n by omega] at hgo
    refine (Tri.runX (L := []) (fx := []) (kp := []) (w0 := w) (F := ⟨[], fOe 20 (nmA 1000) (decide (4 ≤ (5 + dv (pV r n zz 3) 20) / 256 ^ 16 % 256)), []⟩) ⟨fun p hp => (by cases hp), hoe, fun p hp => by cases hp⟩ mixed tab_ok gl0_ok (fun r hr => ?_) (fun r hr => by cases hr) (fun r hr => ?_) (fun r hr => by cases hr) hgo).weak (fun _ _ h => h) fun ex a w' h => ⟨.inr h.1, _, peZ, .b true, [], [], h.2, pe_res, fun ρ v _ hh ho hB hv => ⟨?_, below hB⟩⟩
    · simp only [List.mem_cons, List.not_mem_nil, or_false] at hr
      subst hr
      exact rowWk_ok
    · simp only [List.mem_cons, List.not_mem_nil, or_false] at hr
      subst hr
      exact rowTag_ok (k := kpN _ s) (zz := zz) (n := n) (z := fun j => (zz j : Int)) tagC (fun j hj => ⟨kpA_val hj, kpN_lt (by assumption) hs j⟩) (fun j _ => ⟨rfl, hz j⟩) (isText_row (off := 0) (n := n) List.mem_cons_self (by decide) h0 (by omega) fun j hj => by rw [Nat.zero_add, nm_val, nuI_x (by omega)]) (by omega) fun j hj => by rw [nm_val, nuI_t hj]
    · cases hv
      rfl
theorem pe_E1 : saysB noFacts tree [] [] [] [] [] 64 60 4 6 [rA, s16, .nsl] (.b true) = true := by kernel_rfl
theorem pe_E2 : saysB noFacts tree [] [] [] [] [] 64 60 4 6 [rA, s16, .sle false] (.b true) = true := by kernel_rfl
theorem pe_over : saysB ⟨[], [(.gtr, .s 301, nA 16, true)], []⟩ tree [] [] [] [] (Hd.gl0 64 .c) 65 60 4 6 [rA, s16, Hd.av0 64 301 .c] (.b true) = true := by kernel_rfl
theorem polyPiece_law {W : World} {v : Value} {zs : List Int} (hv : ReadsAs W .u8 v zs) (hw : ∀ z ∈ zs, (Lit.int .u8 z).wf = true) (r : Nat) (zk : List Int) (lk : zk.length = 16) (hr : r < 256) (hzk : ∀ z ∈ zk, (Lit.int .u8 z).wf = true) :
    Calls Try.prog 6 #[.int .u8 (r : Int), .agg (zk.map (Value.int .u8)).toArray, v] W fun e W' => e = .returned (.bool true) ∧ Below W.heap.size W W' := by
  obtain ⟨u, n, pl, hc, _⟩ := came_of hv hw
  obtain ⟨zz, hz8, hzz⟩ := nat_bytes hw
  obtain ⟨s, hs8, hss⟩ := nat_bytes hzk
  rw [aggI_of lk, show (fun j => zk.getD j 0) = fun j => (s j : Int) from funext hss]
  rw [show (fun i => zs.getD i 0) = fun j => (zz j : Int) from funext hzz] at hc
  have args : ∀ {ν : Nat → Int} {ρ : Emb} {x : AV}, conc2 ν s16 = some (aggI .u8 16 fun j => (s j : Int)) → VR ν ρ rA (.int .u8 (r : Int)) → VR ν ρ x v → LR ν ρ [rA, s16, x] #[.int .u8 (r : Int), aggI .u8 16 fun j => (s j : Int), v] := fun h1 h2 hx => lr_of (vs := [_, _, _]) ⟨h2, (conc2_vr h1).1, hx, trivial⟩
  cases u
  · exact yes_ofN (ρ := embF fun _ => none) (law_rowT (ν := nuI r s n zz 0) (by decide) (none_f _) (fun r hr => by cases hr) (fun r hr => by cases hr) pe_E1 (fun p hp => by cases hp) (by kernel_rfl)) (fun p hp => by cases hp) (fun p hp => by cases hp) (args s16_val r_vr (by rw [hc.1]; exact .nsl))
  · obtain ⟨a, cp, rfl⟩ := hc.1
    exact yes_ofN (ρ := embF fun _ => none) (law_rowT (ν := nuI r s n zz 0) (by decide) (none_f _) (fun r hr => by cases hr) (fun r hr => by cases hr) pe_E2 (fun p hp => by cases hp) (by kernel_rfl)) (fun p hp => by cases hp) (fun p hp => by cases hp) (args s16_val r_vr (.sle _ _ _ (fun h => by cases h)))
  · by_cases hm : 16 < n
    · let ν : Nat → Int := fun x => if x = 301 then (n : Int) else nuI r s n zz 0 x
      have e1 : conc2 ν s16 = some (aggI .u8 16 fun j => (s j : Int)) := by
        have q : ∀ j, j < 16 → ν (0 + j) = (s j : Int) := fun j hj => by
          rw [Nat.zero_add]
          exact (if_neg (by omega)).trans (nuI_s hj)
        show conc2 _ (.ag (rowC .u8 (nmA 0) (15 + 1))) = _
        rw [conc2_row]
        exact congrArg some (aggI_congr q)
      have e2 : ∀ ρ, VR ν ρ rA (.int .u8 (r : Int)) := fun ρ => by
        have h : VR ν ρ rA (.int .u8 ((AI.s 16).val ν)) := .i _ _
        have q : (AI.s 16).val ν = (r : Int) := (if_neg (by decide) : ν 16 = nuI r s n zz 0 16).trans nuI_r
        rw [q] at h
        exact h
      obtain ⟨va, nd⟩ := hc.here0 (ν := ν) (gp := at1' 64 pl) (blk := 64) (k := 301) (by decide) (if_pos rfl) (if_pos rfl)
      refine yes_ofN (law_rowT (by decide) ⟨fun p hp => (by cases hp), fun p hp => ?_, fun p hp => by cases hp⟩ (fun r hr => by cases hr) (fun r hr => by cases hr) pe_over (gl0_need (by decide)) (by kernel_rfl)) (fun p hp => by cases hp) nd (args e1 (e2 _) va)
      simp only [List.mem_cons, List.not_mem_nil, or_false] at hp
      subst hp
      have q : (AI.s 301).val ν = (n : Int) := (if_pos (Eq.refl 301) : (if (301 : Nat) = 301 then (n : Int) else nuI r s n zz 0 301) = (n : Int))
      show decide ((AI.s 301).val ν > ((16 : Nat) : Int)) = true
      rw [q]
      exact decide_eq_true (by omega)
    · have h0 := hc.fits
      obtain ⟨cb, o, cp, rfl, hle, _, hcc, _⟩ := hc
      exact piece_some hr hs8 hz8 h0 (by omega) hle hcc

theorem polyPiece_lifted (os : Os) (started : os.Started) (H : Type) (enc : TypeId × Value → H) :
    ReturnsInHanded {} Try.checked os 6 .any (Rows.polyPieceSpec.pre6 enc Try.prog Try.f6 Rows.polyPieceRow.domain false) (Rows.polyPieceSpec.post enc Try.prog Try.f6 false true false false) := by
  refine returnsInHanded_of_change (C := Try.checked) own started (by kernel_rfl) Try.func6
    (ChangeSpec.witness6 (enc := enc) (C := Try.checked) false ⟨#[], #[.int .u8 0, (.agg (List.replicate 16 (.int .u8 0)).toArray), .slice none 0 0], []⟩ 8 (by kernel_rfl) (by kernel_rfl) (by kernel_rfl) (by kernel_rfl)) ?_
  intro W base args ds gs before hval0 hW hcnd _
  have hval : ∀ (j : Nat) t v, Try.f6.params[j]? = some t → args[j]? = some v → Value.okWide Try.prog W .any base t v := hval0
  have hW' := hW
  obtain ⟨p, q, hA0, hV, rfl, hfz, hnd⟩ := hW
  have hA : DataW.TrodAll enc Try.prog W 0 (fun _ => true) true Try.f6.params.toList args.toList ds p := hA0
  rw [Try.params6] at hA hval
  obtain ⟨v0, vs0, d0, ds0, p0, q0, hargs, rfl, rfl, h0, r0⟩ := trodAll_cons hA
  obtain ⟨v1, vs1, d1, ds1, p1, q1, rfl, rfl, rfl, h1, r1⟩ := trodAll_cons r0
  obtain ⟨v2, vs2, d2, ds2, p2, q2, rfl, rfl, rfl, h2, r2⟩ := trodAll_cons r1
  obtain ⟨rfl, rfl, rfl⟩ := trodAll_nil r2
  obtain rfl : args = #[v0, v1, v2] := by cases args; simp_all
  obtain ⟨rfl, rfl⟩ := trodVars_none hV
  obtain ⟨n0, rfl, rfl, rfl, w0⟩ := open_int Try.underlying5 (hval 0 _ v0 rfl rfl) h0
  have s0 := plain_int (H := H) Try.underlying5 w0
  obtain ⟨a0, rfl, b0⟩ := word_of8 w0
  obtain ⟨z1, l1, rfl, b1, rfl, s1⟩ := open_array Try.underlying25 Try.underlying5 cells1 (by kernel_rfl) (hval 1 _ v1 rfl rfl) h1
  obtain ⟨z2, k2, w2, _⟩ := reads_open Try.underlying23 Try.underlying5 cells1 (hval 2 _ v2 rfl rfl) h2
  clear hA0 hval0
  simp only [List.append_nil] at hW'
  have hlt : ∀ x ∈ p2, x.block < W.heap.size := fun x hx => hW'.lt x hx
  refine (polyPiece_law k2 w2 a0 z1 l1 b0 b1).mono fun e W' ⟨he, hg⟩ => ?_
  subst he
  exact ⟨_, rfl, post_below (pa := p2) (pv := []) hW' (fun _ _ _ => trodAll_cons_mk (shut_bool Try.underlying4 _) trodAll_mk0) (fun sp hsp => (by have hh := (trodAll_cons_mk (s0 _ _ _ _ _) (trodAll_cons_mk (s1 _ _ _ _ _) (trodAll_cons_mk (kept_arg laidOut (by kernel_rfl) (of_decide_eq_true (by kernel_rfl)) h2 hg (fun x hx => hlt x (by simp [hx])) (fun x hx => hsp x (by simp [hx]))) trodAll_mk0))); simp only [List.append_nil] at hh; exact hh)) (fun _ _ => rfl) (by simp)
    hg (ok_one (by kernel_rfl) rfl (okWide_bool_mk Try.underlying4 _))⟩

/-- THE STATEMENT. -/
theorem polyPiece_holds : Rows.PolyPieceSaid :=
  OpenClaim.holds_of_wide 6 Try.f6 rfl rfl rfl rfl rfl rfl rfl ⟨rfl, rfl, rfl, rfl, rfl⟩ rfl rfl rfl rfl rfl (by kernel_rfl) Try.func6 (by kernel_rfl)
    (of_decide_eq_true (by kernel_rfl)) (by unfold Func.isWrapper; first | (rw [if_pos (by decide +kernel)]; kernel_rfl) | (rw [if_neg (by decide +kernel)]; exact ⟨rfl, rfl⟩))
    (fun os started H enc _ => polyPiece_lifted os started H enc)
#print axioms polyPiece_holds
end Go.Proofs.Ytbdihdncnpajgaa
