/-
 THE PAGE's side: Ua, Ub, Va, Vb. Own work.
-/
import Derived.Test.YtheidgcgdkmmiaaDoorTg
namespace Go.Proofs.YtheidgcgdkmmiaaDoor
open Go.Sh
open Go.ChangeShapes Go.WideShapes Go.ChangeAt Go.RowKit
set_option maxRecDepth 100000
def pgp : IC := t56.body
theorem pgp_shape : t56 = ⟨pgp, [.t 6], 50⟩ := by kernel_rfl
def n8A : AI := .e .mul .u64 (.w .u64 lnT) (nA 8)
/-! of nothing -/
def gapQ (r : Nat) : Nat := (128 - (r + 17) % 128) % 128
def fPQ (r : Nat) : Facts := ⟨[], [(.gtr, lnT, .c 0, true), (.lss, lnT, .c 1099511627776, true), (.eql, atT, lnT, true)] ++
 (List.range (gapQ r + 1)).map (fun k => (.neq, .e .rem .i64 (.e .add .i64 (lenE atT (k + 1)) (nA 16)) (nA 128), nA 0, Nat.blt k (gapQ r))), [(0, [], T0, T0)]⟩
def pdAQ (r j : Nat) : AI := if Nat.beq j 0 then nA 128 else if Nat.ble j (gapQ r + 8) then .c 0 else .w .u8 (.e .shr .u64 n8A (nA (8 * (16 + gapQ r - j))))
def pgNQ (r : Nat) : Nat := 67 + 2 * gapQ r + 32
def pg0Q (x : AV) (H : List (Nat × ABlk)) : Now := ⟨[(0, x), (1, iN 128), (2, iN 16)], H, 65⟩
def pg1Q (r : Nat) : Now := ⟨[(6, slE (pgNQ r) T0 (17 + gapQ r))], [(pgNQ r, ⟨rowC .u8 (pdAQ r) (17 + gapQ r), T0 + qac, true⟩)], pgNQ r + 1⟩
noncomputable def pgGoQ (r : Nat) : Bool := qaF (fPQ r) tree [] [] [] [] [] 300 4 pgp (pg0Q slP0 [txP]) .ret (pg1Q r)
theorem pg_go0Q : (List.range 16).all (fun r => pgGoQ (0 + r)) = true := by kernel_rfl
theorem pg_go1Q : (List.range 16).all (fun r => pgGoQ (16 + r)) = true := by kernel_rfl
theorem pg_go2Q : (List.range 16).all (fun r => pgGoQ (32 + r)) = true := by kernel_rfl
theorem pg_go3Q : (List.range 16).all (fun r => pgGoQ (48 + r)) = true := by kernel_rfl
theorem pg_go4Q : (List.range 16).all (fun r => pgGoQ (64 + r)) = true := by kernel_rfl
theorem pg_go5Q : (List.range 16).all (fun r => pgGoQ (80 + r)) = true := by kernel_rfl
theorem pg_go6Q : (List.range 16).all (fun r => pgGoQ (96 + r)) = true := by kernel_rfl
theorem pg_go7Q : (List.range 16).all (fun r => pgGoQ (112 + r)) = true := by kernel_rfl
/-! of nothing -/
def nopAQ (j : Nat) : AI := if Nat.beq j 0 then nA 128 else .c 0
def pg2Q : Now := ⟨[(6, .sl 320 0 (nA 128) (.own 1))], [(320, ⟨rowC .u8 nopAQ 128, 5, true⟩)], 321⟩
noncomputable def pgNoQ (x : AV) : Bool := qaF qae tree [] [] [] [] [] 300 4 pgp (pg0Q x []) .ret pg2Q
theorem pgNo_nslQ : pgNoQ .nsl = true := by kernel_rfl
theorem pgNo_sleQ : pgNoQ (.sle false) = true := by kernel_rfl
theorem gap_totQ (n : Nat) : qao n = n + 17 + gapQ (n % 128) := by unfold qao gapQ; omega
theorem gap_ltQ (r : Nat) : gapQ r < 128 := Nat.mod_lt _ (by decide)
theorem fP_holdQ {n : Nat} {z : Wd} (h0 : 0 < n) (hn : n < 1000000000000) : (fPQ (n % 128)).Hold (nuP n z) := by
 refine ⟨fun p hp => (by cases hp), fun p hp => ?_, fun p hp => ?_⟩
 ·rcases List.mem_append.1 hp with hp | hp
  ·simp only [List.mem_cons, List.not_mem_nil, or_false] at hp
   rcases hp with rfl | rfl | rfl
   ·show decide (lnT.val (nuP n z) > 0) = true
    rw [lnT_val]
    exact decide_eq_true (by omega)
   ·show decide (lnT.val (nuP n z) < 1099511627776) = true
    rw [lnT_val]
    exact decide_eq_true (by omega)
   ·show (atT.val (nuP n z) == lnT.val (nuP n z)) = true
    rw [lnT_val, atT_val]
    exact beq_self_eq_true _
  ·simp only [List.mem_map, List.mem_range] at hp
   obtain ⟨k, hk, rfl⟩ := hp
   have hg := gap_ltQ (n % 128)
   have hl : (lenE atT (k + 1)).val (nuP n z) = ((n + (k + 1) : Nat) : Int) := lenE_val atT_val (by omega) (by omega)
   show ((IntKind.i64.wrap ((lenE atT (k + 1)).val (nuP n z) + ((16 : Nat) : Int))).tmod ((128 : Nat) : Int) != ((0 : Nat) : Int)) = Nat.blt k (gapQ (n % 128))
   rw [hl, i64_small (by omega) (by omega)]
   have e : ((n + (k + 1) : Nat) : Int) + ((16 : Nat) : Int) = ((n + k + 17 : Nat) : Int) := by omega
   rw [e]
   have e2 : ((n + k + 17 : Nat) : Int).tmod ((128 : Nat) : Int) = (((n + k + 17) % 128 : Nat) : Int) := rfl
   rw [e2, Bool.eq_iff_iff, bne_iff_ne, Nat.blt_eq]
   unfold gapQ at hk ⊢
   omega
 ·simp only [fPQ, List.mem_cons, List.not_mem_nil, or_false] at hp
  subst hp
  refine ⟨by show 0 ≤ nuP n z (pinL T0); rw [nuP_L]; omega, ?_⟩
  show lst (nuP n z) T0 = lst0 (nuP n z) 0 ++ [].map _ ++ lst0 (nuP n z) T0
  rw [lst0_zero, lst0_row _ (by decide)]
  rfl
theorem pdA_valQ {n : Nat} {z : Wd} (hn : n < 1000000000000) {j : Nat} (hj : j < 17 + gapQ (n % 128)) : (pdAQ (n % 128) j).val (nuP n z) = qaq z n (n + j) := by
 have ht := gap_totQ n
 have hg := gap_ltQ (n % 128)
 unfold pdAQ
 by_cases h0 : j = 0
 ·subst h0
  rw [if_pos (Nat.beq_refl _), pd_eqQ (by omega)]
  rfl
 ·rw [if_neg (fun h => h0 (Nat.eq_of_beq_eq_true h))]
  by_cases h1 : j ≤ gapQ (n % 128) + 8
  ·rw [if_pos (Nat.ble_eq_true_of_le h1)]
   by_cases h2 : j ≤ gapQ (n % 128)
   ·rw [pd_midQ (by omega) (by omega)]
    rfl
   ·rw [pd_endQ (by omega) (by omega)]
    unfold lenBQ
    have : 8 * n / 2 ^ (8 * (15 - (n + j - (qao n - 16)))) = 0 := by
     apply Nat.div_eq_of_lt
     have : 2 ^ 64 ≤ 2 ^ (8 * (15 - (n + j - (qao n - 16)))) := Nat.pow_le_pow_right (by decide) (by omega)
     omega
    rw [this]
    rfl
  ·rw [if_neg (by rw [Nat.ble_eq]; exact h1), pd_endQ (by omega) (by omega)]
   have e8 : n8A.val (nuP n z) = ((8 * n : Nat) : Int) := by
    show IntKind.u64.wrap (IntKind.u64.wrap (lnT.val (nuP n z)) * ((8 : Nat) : Int)) = _
    rw [lnT_val, w_u64 (by omega)]
    have : ((n : Nat) : Int) * ((8 : Nat) : Int) = ((8 * n : Nat) : Int) := by push_cast; omega
    rw [this, w_u64 (by omega)]
   show IntKind.u8.wrap (qaj .shr .u64 (n8A.val (nuP n z)) ((8 * (16 + gapQ (n % 128) - j) : Nat) : Int)) = _
   rw [e8, shrN (k := .u64) _ _ (by show 8 * (16 + gapQ (n % 128) - j) ≤ 64; omega), w_u8]
   unfold lenBQ
   have : 8 * (16 + gapQ (n % 128) - j) = 8 * (15 - (n + j - (qao n - 16))) := by omega
   rw [this]
theorem padded_okQ {w : World} {v : Value} {n : Nat} {z : Wd} (hv : TextAt w v n z) (hn : n < 1000000000000) :
  (∃ fn, Tryd.prog.funcs[56]? = some fn ∧ fn.body.isSome = true ∧ (fn.name == "runtime.NumGoroutine") = false) ∧
  Calls Tryd.prog 56 #[v, .int .i64 128, .int .i64 16] w fun e w' => ∃ u, e = .returned u ∧ Padded w w' u (qao n) (qaq z n) ∧ Below w.heap.size w w' := by
 have below : ∀ {w' : World}, BelowL [] w w' → Below w.heap.size w w' := fun hBQ => ⟨hBQ.os, hBQ.tape, hBQ.output, hBQ.size, fun k hk => hBQ.block k hk fun p hp => by cases hp⟩
 have slots : ∀ {x : AV} {ν : Nat → Int} {ρ : Emb} {H : List (Nat × ABlk)}, VR ν ρ x v → ∀ p ∈ (pg0Q x H).e, ∃ u, (#[v, .int .i64 128, .int .i64 16] : Array Value)[p.1]? = some u ∧ VR ν ρ p.2 u := by
  intro x ν ρ H hx p hp
  simp only [pg0Q, List.mem_cons, List.not_mem_nil, or_false] at hp
  rcases hp with rfl | rfl | rfl
  ·exact ⟨_, rfl, hx⟩
  ·exact ⟨_, rfl, .i _ _⟩
  ·exact ⟨_, rfl, .i _ _⟩
 rcases hv with ⟨rfl, hv⟩ | ⟨h0, cb, o, c, rfl, hle, C, ty, fz, hC, hz⟩
 ·have emp : ∀ x, (∀ ν ρ, VR ν ρ x v) → pgNoQ x = true → _ := fun x hx hgo => by
   have start := qa2 (N := 50) (ν := nuP 0 z) (L := []) (fx := []) (kp := []) (vs := #[v, .int .i64 128, .int .i64 16]) (e0 := (pg0Q x []).e) (H0 := []) (n0 := 65) qbG (w := w) (fun p hp => by cases hp) (fun _ => none) (by show 3 ≤ 50; decide) (by decide) (fun _ _ => rfl) (fun p hp => by cases hp) (slots (hx _ _)) (fun p hp => by cases hp) (fun p hp => by cases hp)
   refine (And.imp id (fun h2 => h2.mono fun e w' ⟨u, he, hv, hBQ⟩ => ⟨u, he, hv, hBQ⟩) (callsX (L := []) (gl := []) (Q := fun u w' => Padded w w' u (qao 0) (qaq z 0) ∧ Below w.heap.size w w') qaf (by kernel_rfl) pgp_shape start ?_) :
    (∃ fn, Tryd.prog.funcs[56]? = some fn ∧ fn.body.isSome = true ∧ (fn.name == "runtime.NumGoroutine") = false) ∧ Calls Tryd.prog 56 #[v, .int .i64 128, .int .i64 16] w fun e w' => ∃ u, e = .returned u ∧ Padded w w' u (qao 0) (qaq z 0) ∧ Below w.heap.size w w')
   refine (Tri.runX (L := []) (qaP _) qak qaf qbG (fun r hr => by cases hr) (fun r hr => by cases hr) (fun r hr => by cases hr) (fun r hr => by cases hr) hgo).weak (fun _ _ h => h) fun ex a w' h => ⟨.inr h.1, _, pg2Q, .sl 320 0 (nA 128) (.own 1), [], [], h.2, by kernel_rfl, fun ρ v _ hh ho hBQ hv => ⟨?_, below hBQ⟩⟩
   obtain ⟨pl, k1, k2⟩ := hh.blk 320 ⟨rowC .u8 nopAQ 128, 5, true⟩ (by kernel_rfl)
   cases hv
   rename_i q m c hle hq hnn hcap
   have hq : ρ 320 = some q := hq
   rw [k1] at hq
   cases hq
   have hm : m = 128 := by
    have : ((128 : Nat) : Int) = (m : Int) := hnn
    omega
   subst hm
   obtain ⟨C, t, q1, q2, q3⟩ := br_own k2 (by decide)
   refine ⟨pl.cb, pl.co, c, rfl, hle, ?_, C, t, (0, 0), q1, fun j hj => ?_⟩
   ·rcases ho pl.cb ⟨320, ⟨rowC .u8 nopAQ 128, 5, true⟩, pl, by kernel_rfl, rfl, k1, rfl⟩ with h | ⟨p, hp, _⟩
    ·exact h
    ·cases hp
   ·have hj : j < 128 := hj
    rw [q3 j hj]
    refine congrArg (fun x => some (Value.int .u8 x)) ?_
    show (nopAQ j).val _ = _
    unfold nopAQ
    by_cases h0 : j = 0
    ·subst h0
     rw [if_pos (Nat.beq_refl _), pd_eqQ rfl]
     rfl
    ·rw [if_neg (fun h => h0 (Nat.eq_of_beq_eq_true h))]
     by_cases h1 : j < 112
     ·rw [pd_midQ (by omega) (by show j < 112; exact h1)]
      rfl
     ·rw [pd_endQ (by omega) (by show 112 ≤ j; omega)]
      show (0 : Int) = lenBQ 0 _
      simp [lenBQ]
  rcases hv with rfl | ⟨a, c, rfl⟩
  ·exact emp .nsl (fun _ _ => .nsl) pgNo_nslQ
  ·exact emp (.sle false) (fun _ _ => .sle _ _ _ (fun h => by cases h)) pgNo_sleQ
 ·have hpin : BR (nuP n z) (embF (at1 64 ⟨cb, o, 0⟩)) w txP.2 ⟨cb, o, 0⟩ := by
   refine ⟨fun _ => ⟨C, ty, fz, hC, fun j c hc => by simp [txP] at hc, fun h => by cases h⟩, fun h => by exact absurd h (by decide), fun _ => ?_⟩
   unfold PinB
   rw [if_pos (by decide)]
   exact pinned_T0 hn hC hz
  have start := qa2 (N := 50) (ν := nuP n z) (L := []) (fx := []) (kp := []) (vs := #[.slice (some ⟨cb, o, none⟩) n c, .int .i64 128, .int .i64 16]) (e0 := (pg0Q slP0 [txP]).e) (H0 := [txP]) (n0 := 65) qbG (w := w) (fun p hp => by cases hp) (at1 64 ⟨cb, o, 0⟩) (by show 3 ≤ 50; decide) (by decide) (fun b hb => at1_none (by omega)) (fun p hp => by cases hp)
   (slots (H := [txP]) (.sl 64 0 _ .any ⟨cb, o, 0⟩ n c (at1_at (by decide)) lnT_val trivial hle))
   (fun p hp => by
    simp only [List.mem_cons, List.not_mem_nil, or_false] at hp
    subst hp
    exact ⟨show gmax ≤ 64 by decide, _, if_pos rfl, hpin, fun h => by cases h⟩)
   (fun p hp => by cases hp)
  refine And.imp id (fun h2 => h2.mono fun e w' ⟨u, he, hv, hBQ⟩ => ⟨u, he, hv, hBQ⟩) (callsX (L := []) (gl := []) (Q := fun u w' => Padded w w' u (qao n) (qaq z n) ∧ Below w.heap.size w w') qaf (by kernel_rfl) pgp_shape start ?_)
  have hr : n % 128 < 128 := Nat.mod_lt _ (by decide)
  have hg : pgGoQ (n % 128) = true := by
   generalize n % 128 = r at hr
   by_cases r0 : r < 16
   ·have := List.all_eq_true.1 pg_go0Q (r - 0) (List.mem_range.2 (by omega))
    rwa [show 0 + (r - 0) = r by omega] at this
   by_cases r1 : r < 32
   ·have := List.all_eq_true.1 pg_go1Q (r - 16) (List.mem_range.2 (by omega))
    rwa [show 16 + (r - 16) = r by omega] at this
   by_cases r2 : r < 48
   ·have := List.all_eq_true.1 pg_go2Q (r - 32) (List.mem_range.2 (by omega))
    rwa [show 32 + (r - 32) = r by omega] at this
   by_cases r3 : r < 64
   ·have := List.all_eq_true.1 pg_go3Q (r - 48) (List.mem_range.2 (by omega))
    rwa [show 48 + (r - 48) = r by omega] at this
   by_cases r4 : r < 80
   ·have := List.all_eq_true.1 pg_go4Q (r - 64) (List.mem_range.2 (by omega))
    rwa [show 64 + (r - 64) = r by omega] at this
   by_cases r5 : r < 96
   ·have := List.all_eq_true.1 pg_go5Q (r - 80) (List.mem_range.2 (by omega))
    rwa [show 80 + (r - 80) = r by omega] at this
   by_cases r6 : r < 112
   ·have := List.all_eq_true.1 pg_go6Q (r - 96) (List.mem_range.2 (by omega))
    rwa [show 96 + (r - 96) = r by omega] at this
   by_cases r7 : r < 128
   ·have := List.all_eq_true.1 pg_go7Q (r - 112) (List.mem_range.2 (by omega))
    rwa [show 112 + (r - 112) = r by omega] at this
   omega
  have hres : ∀ (x : AV) (H : AH), resA (trL [(6, x)]) H [.t 6] = some x := fun x H => by kernel_rfl
  refine (Tri.runX (L := []) (fP_holdQ h0 hn) qak qaf qbG (fun r hr => by cases hr) (fun r hr => by cases hr) (fun r hr => by cases hr) (fun r hr => by cases hr) hg).weak (fun _ _ h => h) fun ex a w' h => ⟨.inr h.1, _, pg1Q (n % 128), slE (pgNQ (n % 128)) T0 (17 + gapQ (n % 128)), [], [], h.2, hres _ _, fun ρ v _ hh ho hBQ hv => ⟨?_, below hBQ⟩⟩
  have hgt : (qam ((pg1Q (n % 128)).H ++ []) (pg1Q (n % 128)).n).get (pgNQ (n % 128)) = some ⟨rowC .u8 (pdAQ (n % 128)) (17 + gapQ (n % 128)), T0 + qac, true⟩ := by
   have e : ∀ b x, gmax ≤ b → b < room → (qam ([(b, x)] ++ []) (b + 1)).get b = some x := by
    intro b x hb hr
    unfold qam AH.get
    simp only [qas, Bool.false_eq_true, if_false]
    have h1 : Nat.blt b gmax = false := by rw [Bool.eq_false_iff]; simp; omega
    have h2 : Nat.blt b (b + 1) = true := by simp
    simp only [h1, h2, Bool.false_eq_true, if_false, if_true]
    show (trL [(b, x)]).get b = some x
    unfold trL
    rw [if_pos (by simpa using hr), Tr.get_put _ _ _ _ _ (by unfold room at hr; show b + 1 < 2 ^ 24; omega), if_pos rfl]
   have hg := gap_ltQ (n % 128)
   exact e _ _ (by unfold pgNQ gmax; omega) (by unfold pgNQ room; omega)
  obtain ⟨pl, k1, k2⟩ := hh.blk _ _ hgt
  have hgl := gap_ltQ (n % 128)
  cases hv
  rename_i q o' a' m c' hl hb hq hqo ha hw hlen hcap
  have hq : ρ (pgNQ (n % 128)) = some q := hq
  rw [k1] at hq
  cases hq
  have ha : nuP n z (pinA T0) = (a' : Int) := ha
  rw [nuP_A] at ha
  have ha : a' = n := by omega
  subst ha
  have hlen : (lenE atT (17 + gapQ (a' % 128))).val (nuP a' z) = (m : Int) := hlen
  rw [lenE_val atT_val (by omega) (by omega)] at hlen
  have hm : m = qao a' := by rw [gap_totQ]; omega
  subst hm
  obtain ⟨C', ty', fz', g1, g2, _⟩ := k2.cells (show T0 + qac ≠ qac by decide)
  have hpb := k2.pin (show qac < T0 + qac by decide)
  unfold PinB at hpb
  rw [if_neg (show ¬ T0 + qac ≤ qaO by decide)] at hpb
  obtain ⟨C2, ty2, fz2, o2, a2, p1, p2, p3, p4⟩ := hpb
  rw [g1] at p1
  cases p1
  have eT : (T0 + qac - qac) = T0 := Nat.add_sub_cancel _ _
  have p2 : nuP a' z (pinA (T0 + qac - qac)) = (a2 : Int) := p2
  rw [eT, nuP_A] at p2
  have e2 : a2 = a' := by omega
  subst e2
  have e3 : o2 = o' := by omega
  subst e3
  refine ⟨pl.cb, o2, c', rfl, hl, ?_, C', ty', fz', g1, fun j hj => ?_⟩
  ·rcases ho pl.cb ⟨pgNQ (a2 % 128), _, pl, hgt, rfl, k1, rfl⟩ with h | ⟨p, hp, _⟩
   ·exact h
   ·cases hp
  ·by_cases hja : j < a2
   ·have := p4 j (by
     show (j : Int) < nuP a2 z (pinL (T0 + qac - qac))
     rw [eT, nuP_L]
     omega) (.inl hja)
    have e9 : C'[o2 + j]? = some (.int (pinK T0) (nuP a2 z (pinB T0 j))) := by
     rw [← eT]
     exact this
    rw [e9, T0_K, nuP_B (by omega), pd_ltQ hja]
   ·have hj2 : j - a2 < 17 + gapQ (a2 % 128) := by rw [gap_totQ] at hj; omega
    obtain ⟨u, u1, u2⟩ := g2 (j - a2) (.i .u8 (pdAQ (a2 % 128) (j - a2))) (by simp [rowC, hj2])
    cases u2
    rw [show pl.co + (j - a2) = o2 + j by omega] at u1
    rw [u1]
    refine congrArg (fun x => some (Value.int .u8 x)) ((pdA_valQ hn hj2).trans ?_)
    rw [show a2 + (j - a2) = j by omega]
end Go.Proofs.YtheidgcgdkmmiaaDoor
