/-
  trystref01.padded: what it answers. Own work.
-/
import Derived.Test.YtjdcaipgfolgoaaDoorUa
namespace Go.Proofs.YtjdcaipgfolgoaaDoor
open Go.Sh
open Go.ChangeShapes Go.WideShapes Go.RowKit
set_option maxRecDepth 100000

/-- The names of a row: how long it is, where its window begins, its numbers. -/
def nuP (n : Nat) (z : Wd) : Nat → Int := fun k => if k = pinL T0 then (n : Int) else if k = pinA T0 then (n : Int) else if pinL T0 < k ∧ k < pinA T0 then z (k - pinL T0 - 1) else 0
theorem T0_L : pinL T0 = 2199023255552 := by decide
theorem T0_A : pinA T0 = 3298534883327 := by decide
theorem T0_B (j : Nat) : pinB T0 j = 2199023255552 + (j + 1) := by
  show (mapTag + 2 - mapTag) * 1099511627776 + (j + 1) = _
  rw [Nat.add_sub_cancel_left]
theorem nuP_L {n : Nat} {z : Wd} : nuP n z (pinL T0) = (n : Int) := if_pos rfl
theorem nuP_A {n : Nat} {z : Wd} : nuP n z (pinA T0) = (n : Int) := by
  unfold nuP
  rw [if_neg (by rw [T0_L, T0_A]; decide), if_pos rfl]
theorem nuP_B {n : Nat} {z : Wd} {j : Nat} (h : j < 1000000000000) : nuP n z (pinB T0 j) = z j := by
  unfold nuP
  rw [T0_L, T0_A, T0_B, if_neg (by omega), if_neg (by omega), if_pos (by omega), show 2199023255552 + (j + 1) - 2199023255552 - 1 = j by omega]
theorem T0_K : pinK T0 = .u8 := by decide
theorem pinned_T0 {w : World} {cb o n : Nat} {C : Array Value} {ty : TypeId} {fz : Nat × Nat} {z : Wd} (hn : n < 1000000000000) (hC : w.heap[cb]? = some (.cells C ty fz)) (hz : ∀ j, j < n → C[o + j]? = some (.int .u8 (z j))) : Sh.Pinned (nuP n z) w T0 ⟨cb, o, 0⟩ := by
  refine ⟨C, ty, fz, hC, fun j hj => ?_⟩
  rw [nuP_L] at hj
  have hj : j < n := by omega
  rw [T0_K, nuP_B (by omega)]
  exact hz j hj
theorem lnT_val {n : Nat} {z : Wd} : lnT.val (nuP n z) = (n : Int) := nuP_L
theorem atT_val {n : Nat} {z : Wd} : atT.val (nuP n z) = (n : Int) := nuP_A
theorem gap_tot (n : Nat) : tot256 n = n + 9 + gap (n % 64) := by unfold tot256 gap; omega
theorem gap_lt (r : Nat) : gap r < 64 := Nat.mod_lt _ (by decide)
theorem fP_hold {n : Nat} {z : Wd} (h0 : 0 < n) (hn : n < 1000000000000) : (fP (n % 64)).Hold (nuP n z) := by
  refine ⟨fun p hp => (by cases hp), fun p hp => ?_, fun p hp => ?_⟩
  · rcases List.mem_append.1 hp with hp | hp
    · simp only [List.mem_cons, List.not_mem_nil, or_false] at hp
      rcases hp with rfl | rfl | rfl
      · show decide (lnT.val (nuP n z) > 0) = true
        rw [lnT_val]
        exact decide_eq_true (by omega)
      · show decide (lnT.val (nuP n z) < 1099511627776) = true
        rw [lnT_val]
        exact decide_eq_true (by omega)
      · show (atT.val (nuP n z) == lnT.val (nuP n z)) = true
        rw [lnT_val, atT_val]
        exact beq_self_eq_true _
    · simp only [List.mem_map, List.mem_range] at hp
      obtain ⟨k, hk, rfl⟩ := hp
      have hg := gap_lt (n % 64)
      have hl : (lenE atT (k + 1)).val (nuP n z) = ((n + (k + 1) : Nat) : Int) := lenE_val atT_val (by omega) (by omega)
      show ((IntKind.i64.wrap ((lenE atT (k + 1)).val (nuP n z) + ((8 : Nat) : Int))).tmod ((64 : Nat) : Int) != ((0 : Nat) : Int)) = Nat.blt k (gap (n % 64))
      rw [hl, i64_small (by omega) (by omega)]
      have e : ((n + (k + 1) : Nat) : Int) + ((8 : Nat) : Int) = ((n + k + 9 : Nat) : Int) := by omega
      rw [e]
      have e2 : ((n + k + 9 : Nat) : Int).tmod ((64 : Nat) : Int) = (((n + k + 9) % 64 : Nat) : Int) := rfl
      rw [e2, Bool.eq_iff_iff, bne_iff_ne, Nat.blt_eq]
      unfold gap at hk ⊢
      omega
  · simp only [fP, List.mem_cons, List.not_mem_nil, or_false] at hp
    subst hp
    refine ⟨by show 0 ≤ nuP n z (pinL T0); rw [nuP_L]; omega, ?_⟩
    show lst (nuP n z) T0 = lst0 (nuP n z) 0 ++ [].map _ ++ lst0 (nuP n z) T0
    rw [lst0_zero, lst0_row _ (by decide)]
    rfl
theorem pdA_val {n : Nat} {z : Wd} (hn : n < 1000000000000) {j : Nat} (hj : j < 9 + gap (n % 64)) : (pdA (n % 64) j).val (nuP n z) = pd256 z n (n + j) := by
  have ht := gap_tot n
  have hg := gap_lt (n % 64)
  unfold pdA
  by_cases h0 : j = 0
  · subst h0
    rw [if_pos (Nat.beq_refl _), pd_eq (by omega)]
    rfl
  · rw [if_neg (fun h => h0 (Nat.eq_of_beq_eq_true h))]
    by_cases h1 : j ≤ gap (n % 64)
    · rw [if_pos (Nat.ble_eq_true_of_le h1), pd_mid (by omega) (by omega)]
      rfl
    · rw [if_neg (by rw [Nat.ble_eq]; exact h1), pd_end (by omega) (by omega)]
      have e8 : n8A.val (nuP n z) = ((8 * n : Nat) : Int) := by
        show IntKind.u64.wrap (IntKind.u64.wrap (lnT.val (nuP n z)) * ((8 : Nat) : Int)) = _
        rw [lnT_val, w_u64 (by omega)]
        have : ((n : Nat) : Int) * ((8 : Nat) : Int) = ((8 * n : Nat) : Int) := by push_cast; omega
        rw [this, w_u64 (by omega)]
      show IntKind.u8.wrap (arith .shr .u64 (n8A.val (nuP n z)) ((8 * (8 + gap (n % 64) - j) : Nat) : Int)) = _
      rw [e8, shrN (k := .u64) _ _ (by show 8 * (8 + gap (n % 64) - j) ≤ 64; omega), w_u8]
      unfold lenB
      have : 8 * (8 + gap (n % 64) - j) = 8 * (7 - (n + j - (tot256 n - 8))) := by omega
      rw [this]
/-- What padded answers: new memory, with what is laid behind. -/
def Padded (w w' : World) (v : Value) (N : Nat) (p : Wd) : Prop := ∃ cb o c, v = .slice (some ⟨cb, o, none⟩) N c ∧ N ≤ c ∧ w.heap.size ≤ cb ∧ CellsAt w' .u8 cb o N p
theorem padded_ok {w : World} {v : Value} {n : Nat} {z : Wd} (hv : TextAt w v n z) (hn : n < 1000000000000) :
    (∃ fn, Tryd.prog.funcs[30]? = some fn ∧ fn.body.isSome = true ∧ (fn.name == "runtime.NumGoroutine") = false) ∧
    Calls Tryd.prog 30 #[v, .int .i64 64, .int .i64 8] w fun e w' => ∃ u, e = .returned u ∧ Padded w w' u (tot256 n) (pd256 z n) ∧ Below w.heap.size w w' := by
  have below : ∀ {w' : World}, BelowL [] w w' → Below w.heap.size w w' := fun hB => ⟨hB.os, hB.tape, hB.output, hB.size, fun k hk => hB.block k hk fun p hp => by cases hp⟩
  have slots : ∀ {x : AV} {ν : Nat → Int} {ρ : Emb} {H : List (Nat × ABlk)}, VR ν ρ x v → ∀ p ∈ (pg0 x H).e, ∃ u, (#[v, .int .i64 64, .int .i64 8] : Array Value)[p.1]? = some u ∧ VR ν ρ p.2 u := by
    intro x ν ρ H hx p hp
    simp only [pg0, List.mem_cons, List.not_mem_nil, or_false] at hp
    rcases hp with rfl | rfl | rfl
    · exact ⟨_, rfl, hx⟩
    · exact ⟨_, rfl, .i _ _⟩
    · exact ⟨_, rfl, .i _ _⟩
  rcases hv with ⟨rfl, hv⟩ | ⟨h0, cb, o, c, rfl, hle, C, ty, fz, hC, hz⟩
  · have emp : ∀ x, (∀ ν ρ, VR ν ρ x v) → pgNo x = true → _ := fun x hx hgo => by
      have start := holdsX_start (N := 50) (ν := nuP 0 z) (L := []) (fx := []) (kp := []) (vs := #[v, .int .i64 64, .int .i64 8]) (e0 := (pg0 x []).e) (H0 := []) (n0 := 65) gl0_ok (w := w) (fun p hp => by cases hp) (fun _ => none) (by show 3 ≤ 50; decide) (by decide) (fun _ _ => rfl) (fun p hp => by cases hp) (slots (hx _ _)) (fun p hp => by cases hp) (fun p hp => by cases hp)
      refine (And.imp id (fun h2 => h2.mono fun e w' ⟨u, he, hv, hB⟩ => ⟨u, he, hv, hB⟩) (callsX (L := []) (gl := []) (Q := fun u w' => Padded w w' u (tot256 0) (pd256 z 0) ∧ Below w.heap.size w w') tab_ok (by kernel_rfl) pgp_shape start ?_) :
        (∃ fn, Tryd.prog.funcs[30]? = some fn ∧ fn.body.isSome = true ∧ (fn.name == "runtime.NumGoroutine") = false) ∧ Calls Tryd.prog 30 #[v, .int .i64 64, .int .i64 8] w fun e w' => ∃ u, e = .returned u ∧ Padded w w' u (tot256 0) (pd256 z 0) ∧ Below w.heap.size w w')
      refine (Tri.runX (L := []) (none_f _) mixed tab_ok gl0_ok (fun r hr => by cases hr) (fun r hr => by cases hr) (fun r hr => by cases hr) (fun r hr => by cases hr) hgo).weak (fun _ _ h => h) fun ex a w' h => ⟨.inr h.1, _, pg2, .sl 192 0 (nA 64) (.own 1), [], [], h.2, by kernel_rfl, fun ρ v _ hh ho hB hv => ⟨?_, below hB⟩⟩
      obtain ⟨pl, k1, k2⟩ := hh.blk 192 ⟨rowC .u8 nopA 64, 5, true⟩ (by kernel_rfl)
      cases hv
      rename_i q m c hle hq hnn hcap
      have hq : ρ 192 = some q := hq
      rw [k1] at hq
      cases hq
      have hm : m = 64 := by
        have : ((64 : Nat) : Int) = (m : Int) := hnn
        omega
      subst hm
      obtain ⟨C, t, q1, q2, q3⟩ := br_own k2 (by decide)
      refine ⟨pl.cb, pl.co, c, rfl, hle, ?_, C, t, (0, 0), q1, fun j hj => ?_⟩
      · rcases ho pl.cb ⟨192, ⟨rowC .u8 nopA 64, 5, true⟩, pl, by kernel_rfl, rfl, k1, rfl⟩ with h | ⟨p, hp, _⟩
        · exact h
        · cases hp
      · have hj : j < 64 := hj
        rw [q3 j hj]
        refine congrArg (fun x => some (Value.int .u8 x)) ?_
        show (nopA j).val _ = _
        unfold nopA
        by_cases h0 : j = 0
        · subst h0
          rw [if_pos (Nat.beq_refl _), pd_eq rfl]
          rfl
        · rw [if_neg (fun h => h0 (Nat.eq_of_beq_eq_true h))]
          by_cases h1 : j < 56
          · rw [pd_mid (by omega) (by show j < 56; exact h1)]
            rfl
          · rw [pd_end (by omega) (by show 56 ≤ j; omega)]
            show (0 : Int) = lenB 0 _
            simp [lenB]
    rcases hv with rfl | ⟨a, c, rfl⟩
    · exact emp .nsl (fun _ _ => .nsl) pgNo_nsl
    · exact emp (.sle false) (fun _ _ => .sle _ _ _ (fun h => by cases h)) pgNo_sle
  · have hpin : BR (nuP n z) (embF (at1 64 ⟨cb, o, 0⟩)) w txP.2 ⟨cb, o, 0⟩ := by
      refine ⟨fun _ => ⟨C, ty, fz, hC, fun j c hc => by simp [txP] at hc, fun h => by cases h⟩, fun h => by exact absurd h (by decide), fun _ => ?_⟩
      unfold PinB
      rw [if_pos (by decide)]
      exact pinned_T0 hn hC hz
    have start := holdsX_start (N := 50) (ν := nuP n z) (L := []) (fx := []) (kp := []) (vs := #[.slice (some ⟨cb, o, none⟩) n c, .int .i64 64, .int .i64 8]) (e0 := (pg0 slP0 [txP]).e) (H0 := [txP]) (n0 := 65) gl0_ok (w := w) (fun p hp => by cases hp) (at1 64 ⟨cb, o, 0⟩) (by show 3 ≤ 50; decide) (by decide) (fun b hb => at1_none (by omega)) (fun p hp => by cases hp)
      (slots (H := [txP]) (.sl 64 0 _ .any ⟨cb, o, 0⟩ n c (at1_at (by decide)) lnT_val trivial hle))
      (fun p hp => by
        simp only [List.mem_cons, List.not_mem_nil, or_false] at hp
        subst hp
        exact ⟨show gmax ≤ 64 by decide, _, if_pos rfl, hpin, fun h => by cases h⟩)
      (fun p hp => by cases hp)
    refine And.imp id (fun h2 => h2.mono fun e w' ⟨u, he, hv, hB⟩ => ⟨u, he, hv, hB⟩) (callsX (L := []) (gl := []) (Q := fun u w' => Padded w w' u (tot256 n) (pd256 z n) ∧ Below w.heap.size w w') tab_ok (by kernel_rfl) pgp_shape start ?_)
    have hr : n % 64 < 64 := Nat.mod_lt _ (by decide)
    have hg : pgGo (n % 64) = true := by
      generalize n % 64 = r at hr
      by_cases r0 : r < 16
      · have := List.all_eq_true.1 pg_go0 r (List.mem_range.2 r0)
        rwa [show 0 + r = r by omega] at this
      · by_cases r1 : r < 32
        · have := List.all_eq_true.1 pg_go1 (r - 16) (List.mem_range.2 (by omega))
          rwa [show 16 + (r - 16) = r by omega] at this
        · by_cases r2 : r < 48
          · have := List.all_eq_true.1 pg_go2 (r - 32) (List.mem_range.2 (by omega))
            rwa [show 32 + (r - 32) = r by omega] at this
          · have := List.all_eq_true.1 pg_go3 (r - 48) (List.mem_range.2 (by omega))
            rwa [show 48 + (r - 48) = r by omega] at this
    have hres : ∀ (x : AV) (H : AH), resA (trL [(6, x)]) H [.t 6] = some x := fun x H => by kernel_rfl
    refine (Tri.runX (L := []) (fP_hold h0 hn) mixed tab_ok gl0_ok (fun r hr => by cases hr) (fun r hr => by cases hr) (fun r hr => by cases hr) (fun r hr => by cases hr) hg).weak (fun _ _ h => h) fun ex a w' h => ⟨.inr h.1, _, pg1 (n % 64), slE (pgN (n % 64)) T0 (9 + gap (n % 64)), [], [], h.2, hres _ _, fun ρ v _ hh ho hB hv => ⟨?_, below hB⟩⟩
    have hgt : (heapL ((pg1 (n % 64)).H ++ []) (pg1 (n % 64)).n).get (pgN (n % 64)) = some ⟨rowC .u8 (pdA (n % 64)) (9 + gap (n % 64)), T0 + mapTag, true⟩ := by
      have e : ∀ b x, gmax ≤ b → b < room → (heapL ([(b, x)] ++ []) (b + 1)).get b = some x := by
        intro b x hb hr
        unfold heapL AH.get
        simp only [hidden, Bool.false_eq_true, if_false]
        have h1 : Nat.blt b gmax = false := by rw [Bool.eq_false_iff]; simp; omega
        have h2 : Nat.blt b (b + 1) = true := by simp
        simp only [h1, h2, Bool.false_eq_true, if_false, if_true]
        show (trL [(b, x)]).get b = some x
        unfold trL
        rw [if_pos (by simpa using hr), Tr.get_put _ _ _ _ _ (by unfold room at hr; show b + 1 < 2 ^ 24; omega), if_pos rfl]
      have hg := gap_lt (n % 64)
      exact e _ _ (by unfold pgN gmax; omega) (by unfold pgN room; omega)
    obtain ⟨pl, k1, k2⟩ := hh.blk _ _ hgt
    have hgl := gap_lt (n % 64)
    cases hv
    rename_i q o' a' m c' hl hb hq hqo ha hw hlen hcap
    have hq : ρ (pgN (n % 64)) = some q := hq
    rw [k1] at hq
    cases hq
    have ha : nuP n z (pinA T0) = (a' : Int) := ha
    rw [nuP_A] at ha
    have ha : a' = n := by omega
    subst ha
    have hlen : (lenE atT (9 + gap (a' % 64))).val (nuP a' z) = (m : Int) := hlen
    rw [lenE_val atT_val (by omega) (by omega)] at hlen
    have hm : m = tot256 a' := by rw [gap_tot]; omega
    subst hm
    obtain ⟨C', ty', fz', g1, g2, _⟩ := k2.cells (show T0 + mapTag ≠ mapTag by decide)
    have hpb := k2.pin (show mapTag < T0 + mapTag by decide)
    unfold PinB at hpb
    rw [if_neg (show ¬ T0 + mapTag ≤ winTag by decide)] at hpb
    obtain ⟨C2, ty2, fz2, o2, a2, p1, p2, p3, p4⟩ := hpb
    rw [g1] at p1
    cases p1
    have eT : (T0 + mapTag - mapTag) = T0 := Nat.add_sub_cancel _ _
    have p2 : nuP a' z (pinA (T0 + mapTag - mapTag)) = (a2 : Int) := p2
    rw [eT, nuP_A] at p2
    have e2 : a2 = a' := by omega
    subst e2
    have e3 : o2 = o' := by omega
    subst e3
    refine ⟨pl.cb, o2, c', rfl, hl, ?_, C', ty', fz', g1, fun j hj => ?_⟩
    · rcases ho pl.cb ⟨pgN (a2 % 64), _, pl, hgt, rfl, k1, rfl⟩ with h | ⟨p, hp, _⟩
      · exact h
      · cases hp
    · by_cases hja : j < a2
      · have := p4 j (by
          show (j : Int) < nuP a2 z (pinL (T0 + mapTag - mapTag))
          rw [eT, nuP_L]
          omega) (.inl hja)
        have e9 : C'[o2 + j]? = some (.int (pinK T0) (nuP a2 z (pinB T0 j))) := by
          rw [← eT]
          exact this
        rw [e9, T0_K, nuP_B (by omega), pd_lt hja]
      · have hj2 : j - a2 < 9 + gap (a2 % 64) := by rw [gap_tot] at hj; omega
        obtain ⟨u, u1, u2⟩ := g2 (j - a2) (.i .u8 (pdA (a2 % 64) (j - a2))) (by simp [rowC, hj2])
        cases u2
        rw [show pl.co + (j - a2) = o2 + j by omega] at u1
        rw [u1]
        refine congrArg (fun x => some (Value.int .u8 x)) ((pdA_val hn hj2).trans ?_)
        rw [show a2 + (j - a2) = j by omega]
end Go.Proofs.YtjdcaipgfolgoaaDoor
