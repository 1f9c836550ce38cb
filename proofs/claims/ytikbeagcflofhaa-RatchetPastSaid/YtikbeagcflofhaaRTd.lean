/-
  RATCHET: keys in memory, copies of them, Check, turn, usable. Own work.
-/
import Derived.Test.YtikbeagcflofhaaKMe
import Derived.Test.YtikbeagcflofhaaSQc
namespace Go.Proofs.Ytikbeagcflofhaa
open Go.ChangeShapes Go.WideShapes Go.ChangeAt Go.RowKit Go.Maps
set_option maxRecDepth 100000
attribute [local go_sem ↓] Go.wp_at_zero Go.wp_at_succ
abbrev Ky := Int × Int
def kyC (k : Ky) : List Value := [.int .i64 k.1, .int .i64 k.2]
def flatK (sk : List Ky) : List Value := sk.flatMap kyC
theorem flatK_len (sk : List Ky) : (flatK sk).length = sk.length * 2 := by
  unfold flatK
  induction sk with
  | nil => rfl
  | cons a T ih =>
    simp only [List.flatMap_cons, List.length_append, ih, List.length_cons, kyC, List.length_nil]
    omega
theorem flatK_get : ∀ (sk : List Ky) (i : Nat) (k : Ky), sk[i]? = some k → (flatK sk)[i * 2]? = some (.int .i64 k.1) ∧ (flatK sk)[i * 2 + 1]? = some (.int .i64 k.2) := by
  unfold flatK
  intro sk
  induction sk with
  | nil => intro i k h; cases h
  | cons a T ih =>
    intro i k h
    cases i with
    | zero => cases h; simp [List.flatMap_cons, kyC]
    | succ i =>
      have h' := ih i k (by simpa using h)
      have e0 : (i + 1) * 2 = (kyC a).length + i * 2 := by simp [kyC]; omega
      have e1 : (i + 1) * 2 + 1 = (kyC a).length + (i * 2 + 1) := by simp [kyC]; omega
      rw [List.flatMap_cons, e1, e0]
      simp only [List.getElem?_append_right (Nat.le_add_right _ _), Nat.add_sub_cancel_left]
      exact h'
theorem flatK_app (a b : List Ky) : flatK (a ++ b) = flatK a ++ flatK b := by simp [flatK]
theorem flatK_one (sk : List Ky) : ∀ u ∈ flatK sk, u.oneCell' = true := by
  intro u hu
  obtain ⟨k, _, hu⟩ := List.mem_flatMap.1 hu
  simp only [kyC, List.mem_cons, List.not_mem_nil, or_false] at hu
  rcases hu with rfl | rfl <;> rfl
/-- Keys in memory. -/
def RdK (w : World) (v : Value) (sk : List Ky) : Prop :=
  ∃ p c, v = .slice p sk.length c ∧ (sk = [] ∨ ∃ b o, p = some ⟨b, o, none⟩ ∧ b < w.heap.size ∧ ∀ t u, (flatK sk)[t]? = some u → w.cell? ⟨b, o + t, none⟩ = some u)
theorem RdK.keeps {F : Nat → Prop} {w w' : World} {v : Value} {sk : List Ky} (h : RdK w v sk) (hK : Keeps F w w') (hn : sk ≠ [] → ∀ k, v.ownBlock = some k → ¬ F k) : RdK w' v sk := by
  obtain ⟨p, c, rfl, h | ⟨b, o, rfl, hb, hc⟩⟩ := h
  · exact ⟨p, c, rfl, .inl h⟩
  · by_cases hs : sk = []
    · exact ⟨_, c, rfl, .inl hs⟩
    · exact ⟨_, c, rfl, .inr ⟨b, o, rfl, Nat.lt_of_lt_of_le hb hK.size, fun t u hu => (hK.cell (p := ⟨b, o + t, none⟩) hb (hn hs b rfl)).trans (hc t u hu)⟩⟩
theorem RdK.below {w w' : World} {v : Value} {sk : List Ky} (h : RdK w v sk) (hB : Below w.heap.size w w') : RdK w' v sk := h.keeps (Keeps.of_below (F := fun _ => False) hB) (fun _ _ _ h => h)
theorem RdK.alloc {w : World} {v : Value} {sk : List Ky} (h : RdK w v sk) (o : Obj) : RdK (w.alloc o) v sk := h.below ((Below.refl _ w).alloc (Nat.le_refl _) o)
theorem rdk_row {w : World} {base n : Nat} {v : Value} {sk : List Ky} (h : w.ownsRow base 87 2 v n (flatK sk)) : RdK w v sk := by
  have hl := h.1
  rw [flatK_len] at hl
  obtain rfl : n = sk.length := by omega
  rcases h.2 with ⟨rfl, h0⟩ | ⟨g, cap, cur, rfl, hb, hg, _⟩
  · exact ⟨none, 0, by rw [h0], .inl (List.eq_nil_of_length_eq_zero h0)⟩
  · refine ⟨_, cap, rfl, .inr ⟨g, 0, rfl, (Array.getElem?_eq_some_iff.1 hg).1, fun t u hu => ?_⟩⟩
    have := World.ownsRow.cells h rfl t u hu
    rw [add_plain] at this
    simpa using this
theorem rdk_nth {w : World} {p : Option Addr} {n c t : Nat} {sk : List Ky} {k : Ky} (h : RdK w (.slice p n c) sk) (ht : sk[t]? = some k) : ∃ b o, p = some ⟨b, o, none⟩ ∧ b < w.heap.size ∧ w.cell? ⟨b, o + t * 2, none⟩ = some (.int .i64 k.1) ∧ w.cell? ⟨b, o + t * 2 + 1, none⟩ = some (.int .i64 k.2) := by
  obtain ⟨p', c', e, rfl | ⟨b, o, rfl, hb, hc⟩⟩ := h
  · cases ht
  · cases e
    obtain ⟨h1, h2⟩ := flatK_get sk t k ht
    exact ⟨b, o, rfl, hb, hc _ _ h1, hc _ _ h2⟩
theorem rdk_form {w : World} {p : Option Addr} {n c : Nat} {sk : List Ky} (h : RdK w (.slice p n c) sk) : n = sk.length := by
  obtain ⟨p', c', e, _⟩ := h
  cases e
  rfl
/-! slices.Clone -/
set_option maxHeartbeats 1000000 in
theorem clonek_some (ad : Addr) (n c : Nat) (sk : List Ky) (w : World) (hl : sk.length = n) (h4 : n ≤ 1000) (hc : Hid (∀ j u, (flatK sk)[j]? = some u → w.cell? (ad.add j) = some u)) : Calls Try.prog 79 #[.slice (some ad) n c] w fun e w' => ∃ v, e = .returned v ∧ w'.ownsRow w.heap.size 87 2 v n (flatK sk) ∧ Below w.heap.size w w' := by
  obtain ⟨i0, hi, hz0, hz1, hz2⟩ := info_parts (P := Try.prog) (e := 87) (z := .agg #[.int .i64 0, .int .i64 0]) (size := 2) (bytes := 16) (by kernel_rfl)
  have heq := fun w => run_eql_slice_nil (P := Try.prog) w 68 87 (some ad) n c Try.underlying68
  go_enter Try.func79, Try.ntmps79
  go_wp2_with (at_builtin; refine wpList_append_own _ rfl (.tmp 5) (.tmp 6) 68 rfl w.heap.size 87 i0 (.agg #[.int .i64 0, .int .i64 0]) 2 16 Try.underlying68 hi hz0 hz1 hz2 rfl (by decide) (.slice (some ⟨w.heap.size, 0, none⟩) 0 0) 0 [] rfl (World.ownsRow_made w #[] 0 (Nat.le_refl _) (by decide) rfl) ad n c (flatK sk) rfl (by rw [flatK_len, hl]) (fun j u h => (((Below.refl _ w).alloc (Nat.le_refl _) _).cell (World.block_lt_of_cell? w _ (hc.out j u h))).trans (hc.out j u h)) (flatK_one sk) (by unfold maxLen; omega) (by omega) (by simp) ?_; intro v' w1 hown1 hgrow1 _)
  go_ret
  exact ⟨v', rfl, by simpa using hown1, ((Below.refl _ _).alloc (Nat.le_refl _) _).grown hgrow1 (by simp) (fun _ hk => by simp [Value.ownBlock] at hk; omega)⟩
set_option maxHeartbeats 1000000 in
theorem clonek_nil (c : Nat) (w : World) : Calls Try.prog 79 #[.slice none 0 c] w fun e w' => e = .returned (.slice none 0 0) ∧ w' = w := by
  have heq := fun w => run_eql_slice_nil (P := Try.prog) w 68 87 none 0 c Try.underlying68
  go_enter Try.func79, Try.ntmps79
  go_wp2
  go_ret
  exact ⟨rfl, rfl⟩
theorem clonek_ok {w : World} {v : Value} {sk : List Ky} (h : RdK w v sk) (h4 : sk.length ≤ 1000) : Calls Try.prog 79 #[v] w fun e w' => ∃ p c, e = .returned (.slice p sk.length c) ∧ w'.ownsRow w.heap.size 87 2 (.slice p sk.length c) sk.length (flatK sk) ∧ Below w.heap.size w w' := by
  have fin : ∀ (ad : Addr) (c : Nat), (∀ j u, (flatK sk)[j]? = some u → w.cell? (ad.add j) = some u) → Calls Try.prog 79 #[.slice (some ad) sk.length c] w fun e w' => ∃ p c, e = .returned (.slice p sk.length c) ∧ w'.ownsRow w.heap.size 87 2 (.slice p sk.length c) sk.length (flatK sk) ∧ Below w.heap.size w w' := by
    intro ad c hc
    refine (clonek_some ad _ c sk w rfl h4 hc).mono ?_
    rintro e w' ⟨v, rfl, hown, hB⟩
    obtain ⟨p, c, rfl⟩ := row_slice hown
    exact ⟨p, c, rfl, hown, hB⟩
  obtain ⟨p, c, rfl, rfl | ⟨b, o, rfl, hb, hc⟩⟩ := h
  · cases p with
    | none =>
      refine (clonek_nil c w).mono ?_
      rintro e w' ⟨rfl, rfl⟩
      exact ⟨none, 0, rfl, World.ownsRow_nil _ _ _ _, Below.refl _ _⟩
    | some ad => exact fin ad c (fun j u h => by simp [flatK] at h)
  · exact fin _ c (fun j u hj => by rw [add_plain]; exact hc j u hj)
/-! Check -/
structure RightK (next : Int) (sk : List Ky) : Prop where
  n0 : 0 ≤ next
  nM : next ≤ 1073741824
  len : sk.length ≤ 16
  up : ∀ (i : Nat) (k l : Ky), sk[i]? = some k → sk[i + 1]? = some l → k.1 < l.1
  lo : ∀ k ∈ sk, 0 ≤ k.1
  hi : ∀ k ∈ sk, k.1 < next
theorem at_mem {sk : List Ky} {i : Nat} {k : Ky} (h : sk[i]? = some k) : k ∈ sk := List.mem_of_getElem? h
def lastN (sk : List Ky) (j : Nat) : Int := if j = 0 then -1 else (sk.getD (j - 1) (0, 0)).1
set_option maxHeartbeats 4000000 in
theorem check_low (chain next : Int) (p : Option Addr) (n c : Nat) (sk : List Ky) (ws : World) (hn : sk.length = n) (R : Hid (RightK next sk)) (RK : Hid (RdK ws (.slice p n c) sk)) : Calls Try.prog 44 #[.agg #[.int .i64 chain, .int .i64 next, .slice p n c]] ws fun e w' => e = .returned (.int .i64 0) ∧ Below ws.heap.size ws w' := by
  have h1 := R.out.n0
  have h2 := R.out.nM
  have h3 := R.out.len
  have h4 : ¬ next < 0 := by omega
  have h5 : ¬ (1073741824 : Int) < next := by omega
  have h6 : ¬ (16 : Int) < n := by omega
  go_enter Try.func44, Try.ntmps44
  go_wp2
  go_loopw [3, 23] (fun l i wq => ∃ j : Nat, i = .int .i64 j ∧ j ≤ n ∧ l = .int .i64 (lastN sk j) ∧ Below (ws.heap.size + 1) (ws.alloc (.cells #[.int .i64 chain, .int .i64 next, .slice p n c] 70)) wq) (fun _ i _ => n - (intOf i).toNat)
  case atStart => exact ⟨0, rfl, by omega, rfl, Below.refl _ _⟩
  case round =>
    obtain ⟨j, rfl, hj, rfl, hB⟩ := hrel
    have hB' : Below (ws.alloc (.cells #[.int .i64 chain, .int .i64 next, .slice p n c] 70)).heap.size (ws.alloc (.cells #[.int .i64 chain, .int .i64 next, .slice p n c] 70)) wr := by simpa using hB
    have r1 : wr.cell? ⟨ws.heap.size, 1, none⟩ = some (.int .i64 next) := (hB'.cell (p := ⟨ws.heap.size, 1, none⟩) (by simp)).trans (by simp [go_sem])
    by_cases hlt : j < n
    · obtain ⟨k, hk⟩ : ∃ k, sk[j]? = some k := ⟨_, List.getElem?_eq_getElem (by omega)⟩
      obtain ⟨b, o, rfl, hb, c0, c1⟩ := rdk_nth ((RK.out.alloc _).below hB') hk
      have e1 : lastN sk j < k.1 := by
        unfold lastN
        split
        · have := R.out.lo k (at_mem hk)
          omega
        · obtain ⟨l, hl⟩ : ∃ l, sk[j - 1]? = some l := ⟨_, List.getElem?_eq_getElem (by omega)⟩
          have := R.out.up (j - 1) l k hl (by rw [show j - 1 + 1 = j by omega]; exact hk)
          rw [List.getD_eq_getElem?_getD, hl]
          exact this
      have e2 := R.out.hi k (at_mem hk)
      have e3 : lastN sk (j + 1) = k.1 := by
        unfold lastN
        rw [if_neg (by omega), Nat.add_sub_cancel, List.getD_eq_getElem?_getD, hk]
        rfl
      have HE := (show Hid _ from e3)
      have d1 : ¬ k.1 ≤ lastN sk j := by omega
      have d2 : ¬ next ≤ k.1 := by omega
      have hjI : (j : Int) < n := by omega
      obtain ⟨kn, ks⟩ := k
      simp only at c0 c1 d1 d2 e1 e2 HE
      generalize hl0 : lastN sk j = l0 at d1 e1
      clear e3 hk hl0
      have hs := hB'.size
      have hsw : ws.heap.size < wr.heap.size := by simp at hs; omega
      have r2 := (((Below.refl _ wr).alloc (Nat.le_refl _) (.cells #[.int .i64 kn, .int .i64 ks] 87)).cell (p := ⟨ws.heap.size, 1, none⟩) hsw).trans r1
      go_wp2
      exact ⟨⟨j + 1, by simp, by omega, by rw [HE.out], (hB.alloc (by simpa using hs) _)⟩, by simp [intOf]; omega⟩
    · go_wp2
      go_ret
      have hs := hB'.size
      exact ⟨rfl, ((Below.refl _ ws).alloc (Nat.le_refl _) _).trans (hB.mono (by omega))⟩
theorem check_yes {chain next : Int} {v : Value} {sk : List Ky} {ws : World} (R : RightK next sk) (RK : RdK ws v sk) : Calls Try.prog 44 #[.agg #[.int .i64 chain, .int .i64 next, v]] ws fun e w' => e = .returned (.int .i64 0) ∧ Below ws.heap.size ws w' := by
  have RK' := RK
  obtain ⟨p, c, rfl, _⟩ := RK
  exact check_low chain next p _ c sk ws rfl R RK'
/-! turn -/
section
variable {w wr w' : World} {aa : Nat} {L L1 L2 : List Tm} {G : Nat → Prop}
set_option maxHeartbeats 2000000 in
theorem turn_on (T : Hid (On w wr aa L G)) (c k c' : Nat) (K1 : Hid (put L (4, 1, [(c : Int)]) = ((k : Int), 0, L1))) (K2 : Hid (put L1 (4, 2, [(c : Int)]) = ((c' : Int), 0, L2))) : Calls Try.prog 78 #[.pointer (some ⟨aa, 0, none⟩), .int .i64 c] wr fun e w' => e = .returned (.tuple #[.int .i64 k, .int .i64 c', .int .i64 0]) ∧ On w w' aa L2 G ∧ Stay G wr w' := by
  go_enter Try.func78, Try.ntmps78
  go_wp2_with (first
    | (go_at_call 14; refine (make_on (T.out.alloc _) 4 1 (xs := [(c : Int)]) (reads_lit [(c : Int)] rfl rfl _) (by omega) K1.out).mono ?_; rintro ev w1 ⟨rfl, T1, S1⟩; clear T)
    | (go_at_call 14; refine (make_on (T1.alloc _) 4 2 (xs := [(c : Int)]) (reads_lit [(c : Int)] rfl rfl _) (by omega) K2.out).mono ?_; rintro ev w2 ⟨rfl, T2, S2⟩; clear T1))
  refine bodyPost_ret (v := .tuple #[.int .i64 (k : Int), .int .i64 (c' : Int), .int .i64 0]) (by simp [results, Try.results78, go_sem]) rfl ⟨rfl, T2, ?_⟩
  have a1 : Stay G wr (wr.alloc (.cells #[.int .i64 (c : Int)] 3)) := stay_below ((Below.refl _ wr).alloc (Nat.le_refl _) _)
  have a2 : Stay G w1 (w1.alloc (.cells #[.int .i64 (c : Int)] 3)) := stay_below ((Below.refl _ w1).alloc (Nat.le_refl _) _)
  exact a1.trans (S1.trans (a2.trans S2))
set_option maxHeartbeats 4000000 in
theorem usable_low (T : Hid (On w wr aa L G)) (chain : Nat) (next : Int) (p : Option Addr) (n c : Nat) (sk : List Ky) (hn : sk.length = n) (R : Hid (RightK next sk)) (RK : Hid (RdK wr (.slice p n c) sk)) (hc : chain < L.length) (HS : Hid (∀ k ∈ sk, 0 ≤ k.2 ∧ k.2 < (L.length : Int))) : Calls Try.prog 75 #[.pointer (some ⟨aa, 0, none⟩), .agg #[.int .i64 chain, .int .i64 next, .slice p n c]] wr fun e w' => e = .returned (.int .i64 0) ∧ Below wr.heap.size wr w' := by
  obtain ⟨i0, hi', hz0, hz1, hz2⟩ := info_parts (P := Try.prog) (e := 3) (z := .int .i64 0) (size := 1) (bytes := 8) (by kernel_rfl)
  have h16 := R.out.len
  obtain ⟨ws, hws⟩ : ∃ ws, ws = wr := ⟨_, rfl⟩
  subst hws
  go_enter Try.func75, Try.ntmps75
  go_wp2_with (go_at_call 44; refine (check_yes R.out (RK.out.alloc _)).mono ?_; rintro ev w1 ⟨rfl, B1⟩
               have B1' : Below ws.heap.size ws w1 := ((Below.refl _ ws).alloc (Nat.le_refl _) _).trans (B1.mono (by simp))
               have r0 : w1.cell? ⟨ws.heap.size, 0, none⟩ = some (.int .i64 chain) := (B1.cell (p := ⟨ws.heap.size, 0, none⟩) (by simp)).trans (by simp [go_sem])
               have r2 : w1.cell? ⟨ws.heap.size, 2, none⟩ = some (.slice p n c) := (B1.cell (p := ⟨ws.heap.size, 2, none⟩) (by simp)).trans (by simp [go_sem])
               have hs1 : ws.heap.size < w1.heap.size := by have := B1.size; simp at this; omega)
  have hB2 : Below ws.heap.size ws (w1.alloc (.cells #[.int .i64 chain] 3)) := B1'.alloc B1'.size _
  have hrow := World.ownsRow_lit (base := ws.heap.size) (e := 3) (size := 1) w1 #[.int .i64 (chain : Int)] 1 (by omega) (by unfold maxLen; omega) rfl
  have HR0 := (show Hid ((w1.alloc (.cells #[.int .i64 chain] 3)).ownsRow ws.heap.size 3 1 (.slice (some ⟨w1.heap.size, 0, none⟩) 1 1) 1 (((chain : Int) :: (sk.take 0).map Prod.snd).map (Value.int .i64))) from hrow)
  clear hrow r0 r2
  go_loopw [6, 20] (fun v i wq => ∃ (j : Nat) (p' : Option Addr) (c' : Nat), i = .int .i64 j ∧ j ≤ n ∧ v = .slice p' (j + 1) c' ∧ wq.ownsRow ws.heap.size 3 1 (.slice p' (j + 1) c') (j + 1) (((chain : Int) :: (sk.take j).map Prod.snd).map (Value.int .i64)) ∧ Below ws.heap.size ws wq) (fun _ i _ => n - (intOf i).toNat)
  case atStart => exact ⟨0, _, 1, rfl, by omega, rfl, HR0.out, hB2⟩
  case round =>
    clear HR0
    obtain ⟨j, p', c', rfl, hj, rfl, hrow, hB⟩ := hrel
    have HR := (show Hid (wr.ownsRow ws.heap.size 3 1 (.slice p' (j + 1) c') (j + 1) (((chain : Int) :: (sk.take j).map Prod.snd).map (Value.int .i64))) from hrow)
    clear hrow
    by_cases hlt : j < n
    · obtain ⟨k, hk⟩ : ∃ k, sk[j]? = some k := ⟨_, List.getElem?_eq_getElem (by omega)⟩
      obtain ⟨b, o, rfl, hb, c0, c1⟩ := rdk_nth (RK.out.below hB) hk
      obtain ⟨kn, ks⟩ := k
      simp only at c0 c1
      have hsn : ((chain : Int) :: (sk.take (j + 1)).map Prod.snd).map (Value.int .i64) = ((chain : Int) :: (sk.take j).map Prod.snd).map (Value.int .i64) ++ [.int .i64 ks] := by
        rw [List.take_add_one, hk]
        simp
      have HSN := (show Hid _ from hsn)
      have hjI : (j : Int) < n := by omega
      have hsz := hB.size
      clear hsn hk
      go_wp2_with (at_builtin; refine wpList_append_own _ rfl (.tmp 24) (.tmp 27) 22 rfl ws.heap.size 3 i0 (.int .i64 0) 1 8 Try.underlying22 hi' hz0 hz1 hz2 rfl (by decide) (.slice p' (j + 1) c') (j + 1) _ rfl ((HR.out.alloc _).alloc _) ⟨wr.heap.size + 1, 0, none⟩ 1 1 [.int .i64 ks] rfl rfl (by have := news1 (wr.alloc (.cells #[.int .i64 kn, .int .i64 ks] 87)) (.int .i64 ks) 3; simpa using this) (fun u hu => by simp at hu; subst hu; rfl) (by unfold maxLen; omega) (by omega) (by simp; omega) ?_; intro v7 w7 hown7 hgrow7 _)
      obtain ⟨p7, c7, rfl⟩ := row_slice hown7
      refine ⟨⟨j + 1, p7, c7, by simp, by omega, rfl, ?_, ((hB.alloc hB.size _).alloc (by simp; omega) _).grown hgrow7 (by simp; omega) (fun k hk => (row_base HR.out hk).1)⟩, by simp [intOf]; omega⟩
      rw [HSN.out]
      exact hown7
    · obtain rfl : j = n := by omega
      have hr := HR.out
      rw [List.take_of_length_le (by omega)] at hr
      have HRD := (show Hid (RdW wr (.slice p' (j + 1) c') ((chain : Int) :: sk.map Prod.snd)) from (irow_of hr).reads.rdw)
      have HD := (show Hid (decide (allIn L ((chain : Int) :: sk.map Prod.snd)) = true) from decide_eq_true (fun x hx => by
        rcases List.mem_cons.1 hx with rfl | hx
        · omega
        · obtain ⟨k, hk, rfl⟩ := List.mem_map.1 hx
          exact HS.out k hk))
      clear hr HR
      go_wp2_with (go_at_call 59; refine (are_on (T.out.step hB) HRD.out (by simp; omega)).mono ?_; rintro ev w2 ⟨rfl, rfl⟩; rw [HD.out])
      go_ret
      exact ⟨rfl, hB⟩
theorem usable_yes (T : On w wr aa L G) {chain : Nat} {next : Int} {v : Value} {sk : List Ky} (R : RightK next sk) (RK : RdK wr v sk) (hc : chain < L.length) (HS : ∀ k ∈ sk, 0 ≤ k.2 ∧ k.2 < (L.length : Int)) : Calls Try.prog 75 #[.pointer (some ⟨aa, 0, none⟩), .agg #[.int .i64 chain, .int .i64 next, v]] wr fun e w' => e = .returned (.int .i64 0) ∧ Below wr.heap.size wr w' := by
  have RK' := RK
  obtain ⟨p, c, rfl, _⟩ := RK
  exact usable_low T chain next p _ c sk rfl R RK' hc HS
end
end Go.Proofs.Ytikbeagcflofhaa
namespace Go.Proofs.Ytikbeagcflofhaa
open Go.ChangeShapes Go.WideShapes Go.ChangeAt Go.RowKit Go.Maps
set_option maxRecDepth 100000
attribute [local go_sem ↓] Go.wp_at_zero Go.wp_at_succ
/-! the chain of a secret: its places, its keys -/
inductive Pos (L : List Tm) (c0 : Nat) : Nat → Nat → Prop
  | zero : c0 < L.length → Pos L c0 0 c0
  | succ (i c c' : Nat) : Pos L c0 i c → L[c']? = some (4, 2, [(c : Int)]) → Pos L c0 (i + 1) c'
def KeyAt (L : List Tm) (c0 i k : Nat) : Prop := ∃ c, Pos L c0 i c ∧ L[k]? = some (4, 1, [(c : Int)])
theorem len_keep {L L' : List Tm} (hm : ∀ (j : Nat) (u : Tm), L[j]? = some u → L'[j]? = some u) {i : Nat} (h : i < L.length) : i < L'.length := (List.getElem?_eq_some_iff.1 (hm i _ (List.getElem?_eq_getElem h))).1
theorem Pos.keep {L L' : List Tm} {c0 i c : Nat} (h : Pos L c0 i c) (hm : ∀ (j : Nat) (u : Tm), L[j]? = some u → L'[j]? = some u) : Pos L' c0 i c := by
  induction h with
  | zero h => exact .zero (len_keep hm h)
  | succ i c c' _ h2 ih => exact .succ i c c' ih (hm _ _ h2)
theorem KeyAt.keep {L L' : List Tm} {c0 i k : Nat} (h : KeyAt L c0 i k) (hm : ∀ (j : Nat) (u : Tm), L[j]? = some u → L'[j]? = some u) : KeyAt L' c0 i k := by
  obtain ⟨c, h1, h2⟩ := h
  exact ⟨c, h1.keep hm, hm _ _ h2⟩
theorem Pos.lt {L : List Tm} {c0 i c : Nat} (h : Pos L c0 i c) : c < L.length := by
  cases h with
  | zero h => exact h
  | succ i c c' _ h2 => exact (List.getElem?_eq_some_iff.1 h2).1
theorem KeyAt.lt {L : List Tm} {c0 i k : Nat} (h : KeyAt L c0 i k) : k < L.length := by
  obtain ⟨c, _, h2⟩ := h
  exact (List.getElem?_eq_some_iff.1 h2).1
theorem wf_one {L : List Tm} (hW : Wf L) {i j : Nat} {t : Tm} (h1 : L[i]? = some t) (h2 : L[j]? = some t) : i = j := (idx_at hW h1).2.symm.trans (idx_at hW h2).2
theorem Pos.one {L : List Tm} (hW : Wf L) {c0 i c : Nat} (h : Pos L c0 i c) : ∀ d, Pos L c0 i d → c = d := by
  induction h with
  | zero h =>
    intro d hd
    cases hd
    rfl
  | succ i c c' _ h2 ih =>
    intro d hd
    cases hd with
    | succ _ b _ hb h3 =>
      obtain rfl := ih b hb
      exact wf_one hW h2 h3
theorem KeyAt.one {L : List Tm} (hW : Wf L) {c0 i k l : Nat} (h : KeyAt L c0 i k) (h' : KeyAt L c0 i l) : k = l := by
  obtain ⟨c, h1, h2⟩ := h
  obtain ⟨d, h3, h4⟩ := h'
  obtain rfl := h1.one hW d h3
  exact wf_one hW h2 h4
/-- A right ratchet of the chain of c0. -/
structure RtOk (L : List Tm) (c0 c : Nat) (next : Nat) (sk : List Ky) : Prop where
  right : RightK next sk
  pos : Pos L c0 next c
  keys : ∀ k ∈ sk, ∃ i s : Nat, k = ((i : Int), (s : Int)) ∧ KeyAt L c0 i s
theorem RtOk.sec {L : List Tm} {c0 c next : Nat} {sk : List Ky} (h : RtOk L c0 c next sk) : ∀ k ∈ sk, 0 ≤ k.2 ∧ k.2 < (L.length : Int) := by
  intro k hk
  obtain ⟨i, s, rfl, h1⟩ := h.keys k hk
  have := h1.lt
  simp only
  omega
theorem RtOk.keep {L L' : List Tm} {c0 c next : Nat} {sk : List Ky} (h : RtOk L c0 c next sk) (hm : ∀ (j : Nat) (u : Tm), L[j]? = some u → L'[j]? = some u) : RtOk L' c0 c next sk := ⟨h.right, h.pos.keep hm, fun k hk => by
  obtain ⟨i, s, e, h1⟩ := h.keys k hk
  exact ⟨i, s, e, h1.keep hm⟩⟩
theorem RtOk.new {L : List Tm} {c : Nat} (h : c < L.length) : RtOk L c c 0 [] := ⟨⟨by omega, by omega, by simp, fun i k l h => by simp at h, fun k h => by simp at h, fun k h => by simp at h⟩, .zero h, fun k h => by simp at h⟩
theorem RtOk.sent {L L1 L2 : List Tm} {c0 c next k c' : Nat} {sk : List Ky} (h : RtOk L c0 c next sk) (hM : next < 1073741824) (K1 : MkT L (4, 1, [(c : Int)]) k L1) (K2 : MkT L1 (4, 2, [(c : Int)]) c' L2) : RtOk L2 c0 c' (next + 1) sk ∧ KeyAt L2 c0 next k := by
  have hm : ∀ (j : Nat) (u : Tm), L[j]? = some u → L2[j]? = some u := fun j u hu => K2.keep j u (K1.keep j u hu)
  have h2 := h.keep hm
  refine ⟨⟨⟨by omega, by omega, h.right.len, h.right.up, h.right.lo, fun k hk => by have := h.right.hi k hk; omega⟩, .succ next c c' h2.pos K2.at', h2.keys⟩, ⟨c, h2.pos, K2.keep _ _ K1.at'⟩⟩
theorem turn_mk {L : List Tm} {c : Nat} (hc : c < L.length) (hr : L.length + 2 < 1048576) : ∃ k L1 c' L2, MkT L (4, 1, [(c : Int)]) k L1 ∧ MkT L1 (4, 2, [(c : Int)]) c' L2 := by
  obtain ⟨k, L1, K1⟩ := mk_ex (L := L) (t := (4, 1, [(c : Int)])) (sh_kdf _ _ (by omega)) (fun y hy => by simp at hy; omega) (by omega)
  have h1 := K1.le
  have h2 := K1.le1
  obtain ⟨c', L2, K2⟩ := mk_ex (L := L1) (t := (4, 2, [(c : Int)])) (sh_kdf _ _ (by omega)) (fun y hy => by simp at hy; omega) (by omega)
  exact ⟨k, L1, c', L2, K1, K2⟩
/-! New -/
set_option maxHeartbeats 1000000 in
theorem rnew_ok (c : Int) (ws : World) : Calls Try.prog 47 #[.int .i64 c] ws fun e w' => e = .returned (.agg #[.int .i64 c, .int .i64 0, .slice none 0 0]) ∧ Below ws.heap.size ws w' := by
  go_enter Try.func47, Try.ntmps47
  go_wp2
  refine bodyPost_ret (v := .agg #[.int .i64 c, .int .i64 0, .slice none 0 0]) (by simp [results, Try.results47, go_sem]) rfl ⟨rfl, ?_⟩
  exact (Below.refl _ ws).alloc (Nat.le_refl _) _
/-! Send -/
section
variable {w wr w' : World} {aa : Nat} {L L1 L2 : List Tm} {G : Nat → Prop}
theorem keeps_set3 (w : World) (b : Nat) (u0 u1 u2 : Value) : Keeps (fun j => j = b) w (((w.setCell ⟨b, 0, none⟩ u0).setCell ⟨b, 1, none⟩ u1).setCell ⟨b, 2, none⟩ u2) := by
  have h : ∀ (v : World) (i : Nat) (u : Value), Keeps (fun j => j = b) v (v.setCell ⟨b, i, none⟩ u) := fun v i u => Keeps.of_grown (put_grown v ⟨b, i, none⟩ u) (fun k hk => by cases hk; rfl)
  exact Keeps.trans (Keeps.trans (h w 0 u0) (h _ 1 u1) (fun _ _ h => h)) (h _ 2 u2) (fun _ _ h => h)
/-- Two blocks made beside. -/
def Loc (wr : World) (G : Nat → Prop) (j : Nat) : Prop := G j ∨ (j = wr.heap.size ∨ j = wr.heap.size + 1)
theorem loc_below (wr : World) (o1 o2 : Obj) : Below wr.heap.size wr ((wr.alloc o1).alloc o2) := ((Below.refl _ wr).alloc (Nat.le_refl _) o1).alloc (by simp) o2
theorem loc_on (T : On w wr aa L G) (o1 o2 : Obj) : On w ((wr.alloc o1).alloc o2) aa L (Loc wr G) := T.add (loc_below wr o1 o2) (P := fun j => j = wr.heap.size ∨ j = wr.heap.size + 1) (fun j hj => by simp; omega)
theorem loc_cell {w1 : World} {o1 o2 : Obj} (S : Stay (Loc wr G) ((wr.alloc o1).alloc o2) w1) {b i : Nat} {u : Value} (hb : b = wr.heap.size ∨ b = wr.heap.size + 1) (h : ((wr.alloc o1).alloc o2).cell? ⟨b, i, none⟩ = some u) : w1.cell? ⟨b, i, none⟩ = some u := (S.cell (p := ⟨b, i, none⟩) (by simp; omega) (fun hn => hn (.inr hb))).trans h
theorem loc_frozen {w1 : World} {o1 o2 : Obj} (S : Stay (Loc wr G) ((wr.alloc o1).alloc o2) w1) {b i : Nat} (hb : b = wr.heap.size ∨ b = wr.heap.size + 1) (h : ((wr.alloc o1).alloc o2).frozen? ⟨b, i, none⟩ = false) : w1.frozen? ⟨b, i, none⟩ = false := (S.frozen (p := ⟨b, i, none⟩) (by simp; omega) (fun hn => hn (.inr hb))).trans h
set_option maxHeartbeats 4000000 in
theorem send_low (T : Hid (On w wr aa L G)) (c k c' : Nat) (next : Int) (K1 : Hid (put L (4, 1, [(c : Int)]) = ((k : Int), 0, L1))) (K2 : Hid (put L1 (4, 2, [(c : Int)]) = ((c' : Int), 0, L2))) (p : Option Addr) (n cc : Nat) (sk : List Ky) (hn : sk.length = n) (R : Hid (RightK next sk)) (RK : Hid (RdK wr (.slice p n cc) sk)) (hv : Hid (sk ≠ [] → ∀ j, (Value.slice p n cc).ownBlock = some j → G j)) (hc : c < L.length) (HS : Hid (∀ k ∈ sk, 0 ≤ k.2 ∧ k.2 < (L.length : Int))) (hMI : ¬ 1073741824 ≤ next) : Calls Try.prog 49 #[.pointer (some ⟨aa, 0, none⟩), .agg #[.int .i64 c, .int .i64 next, .slice p n cc]] wr fun e w' => ∃ q d, e = .returned (.tuple #[.int .i64 k, .int .i64 next, .agg #[.int .i64 c', .int .i64 (next + 1), .slice q n d], .int .i64 0]) ∧ On w w' aa L2 (fun j => G j ∨ (Value.slice q n d).ownBlock = some j) ∧ w'.ownsRow wr.heap.size 87 2 (.slice q n d) n (flatK sk) ∧ Stay G wr w' := by
  have h16 := R.out.len
  have hn0 := R.out.n0
  have hw2 : IntKind.i64.wrap (next + 1) = next + 1 := IntWalk.i64_in _ (by omega)
  go_enter Try.func49, Try.ntmps49
  go_wp2_with (first
    | (go_at_call 75; refine (usable_yes (loc_on T.out _ _) R.out ((RK.out.alloc _).alloc _) hc HS.out).mono ?_; rintro ev w1 ⟨rfl, B1⟩
       have S1 := stay_below (G := Loc wr G) B1
       have r1 : w1.cell? ⟨wr.heap.size, 1, none⟩ = some (.int .i64 next) := loc_cell S1 (.inl rfl) (by simp [go_sem])
       have r0 : w1.cell? ⟨wr.heap.size, 0, none⟩ = some (.int .i64 c) := loc_cell S1 (.inl rfl) (by simp [go_sem])
       have HT1 := (show Hid (On w w1 aa L (Loc wr G)) from (loc_on T.out _ _).step B1)
       clear B1)
    | (go_at_call 78; refine (turn_on HT1 c k c' K1 K2).mono ?_; rintro ev w2 ⟨rfl, T2, S2⟩
       have S12 := S1.trans S2
       have x1 : w2.cell? ⟨wr.heap.size, 1, none⟩ = some (.int .i64 next) := loc_cell S12 (.inl rfl) (by simp [go_sem])
       have x2 : w2.cell? ⟨wr.heap.size, 2, none⟩ = some (.slice p n cc) := loc_cell S12 (.inl rfl) (by simp [go_sem])
       have HSW := (show Hid (Stay G wr w2) from (stay_below (loc_below wr _ _)).trans (S12.mono (fun j hj => .inl hj)))
       have RK2 := (show Hid (RdK w2 (.slice p n cc) sk) from RK.out.keeps HSW.out (fun hs j hj hn => hn (hv.out hs j hj)))
       have HT2 := (show Hid (On w w2 aa L2 (Loc wr G)) from T2)
       have hsz2 : wr.heap.size + 2 ≤ w2.heap.size := by have := S12.size; simpa using this
       clear r0 r1 S1 S2 T2 HT1)
    | (go_at_call 79; refine (clonek_ok RK2.out (by omega)).mono ?_; rintro ev w3 ⟨q, d, rfl, hown3, B3⟩
       have S13 := S12.trans (stay_below B3)
       have d0 : w3.cell? ⟨wr.heap.size + 1, 0, none⟩ = some (.int .i64 0) := loc_cell S13 (.inr rfl) (by simp [go_sem])
       have d1 : w3.cell? ⟨wr.heap.size + 1, 1, none⟩ = some (.int .i64 0) := loc_cell S13 (.inr rfl) (by simp [go_sem])
       have d2 : w3.cell? ⟨wr.heap.size + 1, 2, none⟩ = some (.slice none 0 0) := loc_cell S13 (.inr rfl) (by simp [go_sem])
       have q0 : w3.frozen? ⟨wr.heap.size + 1, 0, none⟩ = false := loc_frozen S13 (.inr rfl) (by simp [go_sem])
       have q1 : w3.frozen? ⟨wr.heap.size + 1, 1, none⟩ = false := loc_frozen S13 (.inr rfl) (by simp [go_sem])
       have q2 : w3.frozen? ⟨wr.heap.size + 1, 2, none⟩ = false := loc_frozen S13 (.inr rfl) (by simp [go_sem])
       have HO3 := (show Hid (w3.ownsRow w2.heap.size 87 2 (.slice q sk.length d) sk.length (flatK sk)) from hown3)
       have HB3 := (show Hid (Below w2.heap.size w2 w3) from B3)
       clear hown3 B3 S13))
  refine bodyPost_ret (v := .tuple #[.int .i64 (k : Int), .int .i64 next, .agg #[.int .i64 (c' : Int), .int .i64 (next + 1), .slice q n d], .int .i64 0]) (by simp [results, Try.results49, go_sem, d0, d1, d2, q0, q1, q2]) rfl ?_
  subst hn
  have hK := keeps_set3 w3 (wr.heap.size + 1) (.int .i64 (c' : Int)) (.int .i64 (next + 1)) (.slice q sk.length d)
  have T3 := HT2.out.add HB3.out (P := fun j => (Value.slice q sk.length d).ownBlock = some j) (fun j hj => row_base HO3.out hj)
  have hbs := T.out.below.size
  have T6 := T3.own hK (fun j hj => .inl ⟨.inl (.inr (.inr hj)), by omega⟩)
  refine ⟨q, d, rfl, T6.mono (fun j hj => hj.elim (fun h => .inl (.inl h)) .inr), row_lower (row_keeps HO3.out hK (fun j hj he => ?_)) (by omega), HSW.out.trans ((stay_below HB3.out).trans (hK.mono (fun j _ hj hg => ?_)))⟩
  · have := (row_base HO3.out hj).1
    omega
  · have := T.out.lt j hg
    omega
theorem send_on (T : On w wr aa L G) {c0 c k c' next : Nat} {v : Value} {sk : List Ky} (K1 : MkT L (4, 1, [(c : Int)]) k L1) (K2 : MkT L1 (4, 2, [(c : Int)]) c' L2) (R : RtOk L c0 c next sk) (RK : RdK wr v sk) (hv : sk ≠ [] → ∀ j, v.ownBlock = some j → G j) (hM : ¬ (1073741824 : Int) ≤ next) : Calls Try.prog 49 #[.pointer (some ⟨aa, 0, none⟩), .agg #[.int .i64 c, .int .i64 next, v]] wr fun e w' => ∃ q d, e = .returned (.tuple #[.int .i64 k, .int .i64 next, .agg #[.int .i64 c', .int .i64 ((next : Int) + 1), .slice q sk.length d], .int .i64 0]) ∧ On w w' aa L2 (fun j => G j ∨ (Value.slice q sk.length d).ownBlock = some j) ∧ w'.ownsRow wr.heap.size 87 2 (.slice q sk.length d) sk.length (flatK sk) ∧ Stay G wr w' := by
  have RK' := RK
  obtain ⟨p, cc, rfl, _⟩ := RK
  exact send_low T c k c' next K1.put K2.put p _ cc sk rfl R.right RK' hv R.pos.lt R.sec hM
end
end Go.Proofs.Ytikbeagcflofhaa
namespace Go.Proofs.Ytikbeagcflofhaa
open Go.ChangeShapes Go.WideShapes Go.ChangeAt Go.RowKit Go.Maps
set_option maxRecDepth 100000
attribute [local go_sem ↓] Go.wp_at_zero Go.wp_at_succ
section
variable {w wr w' : World} {aa : Nat} {L L1 L2 : List Tm} {G : Nat → Prop}
theorem on_grow {v v' : Value} (T : On w wr aa L (fun j => G j ∨ v.ownBlock = some j)) (o : Obj) (hb : ∀ j, v.ownBlock = some j → w.heap.size ≤ j) (hg : (wr.alloc o).grownBy w' v.ownBlock) (hat : v'.ownBlock = v.ownBlock ∨ v'.ownBlock = some (wr.alloc o).heap.size) (hlt : ∀ j, v'.ownBlock = some j → j < w'.heap.size) : On w w' aa L (fun j => G j ∨ v'.ownBlock = some j) := by
  have T1 := T.alloc o
  have hK : Keeps (fun k => v.ownBlock = some k) (wr.alloc o) w' := Keeps.of_grown hg (fun k hk => hk)
  have T2 := T1.more (P := fun k => k = (wr.alloc o).heap.size ∧ k < w'.heap.size) hK (fun k hk => .inl ⟨.inr hk, hb k hk⟩) (fun k hk => ⟨by omega, hk.2⟩)
  refine T2.mono (fun j hj => ?_)
  rcases hj with h | h
  · exact .inl (.inl h)
  · rcases hat with e | e
    · exact .inl (.inr (by rw [← e]; exact h))
    · refine .inr ⟨?_, hlt j h⟩
      rw [e] at h
      cases h
      rfl
theorem rdk_drop {w : World} {b o n c f : Nat} {sk : List Ky} (h : RdK w (.slice (some ⟨b, o, none⟩) n c) sk) (hf : f ≤ sk.length) (c' : Nat) : RdK w (.slice (some ⟨b, o + f * 2, none⟩) (n - f) c') (sk.drop f) := by
  obtain ⟨p', cc, e, h0 | ⟨b', o', hp, hb, hc⟩⟩ := h
  · cases e
    subst h0
    exact ⟨_, c', by rw [List.length_drop], .inl (by simp)⟩
  · cases e
    cases hp
    refine ⟨_, c', by rw [List.length_drop], .inr ⟨b, o + f * 2, rfl, hb, fun t u hu => ?_⟩⟩
    have e1 : flatK sk = flatK (sk.take f) ++ flatK (sk.drop f) := by rw [← flatK_app, List.take_append_drop]
    have e2 : (flatK (sk.take f)).length = f * 2 := by rw [flatK_len, List.length_take]; omega
    have := hc (f * 2 + t) u (by rw [e1, List.getElem?_append_right (by omega), e2, Nat.add_sub_cancel_left]; exact hu)
    rwa [← Nat.add_assoc] at this
/-- The keys that were skipped on the way: numbers next, next + 1, .. -/
structure Skip (L : List Tm) (c0 next : Nat) (zs : List Ky) : Prop where
  at' : ∀ (t : Nat) (k : Ky), zs[t]? = some k → ∃ s : Nat, k = (((next + t : Nat) : Int), (s : Int)) ∧ KeyAt L c0 (next + t) s
theorem Skip.keep {L L' : List Tm} {c0 next : Nat} {zs : List Ky} (h : Skip L c0 next zs) (hm : ∀ (j : Nat) (u : Tm), L[j]? = some u → L'[j]? = some u) : Skip L' c0 next zs := ⟨fun t k hk => by
  obtain ⟨s, e, h1⟩ := h.at' t k hk
  exact ⟨s, e, h1.keep hm⟩⟩
theorem Skip.snoc {L : List Tm} {c0 next s : Nat} {zs : List Ky} (h : Skip L c0 next zs) (hk : KeyAt L c0 (next + zs.length) s) : Skip L c0 next (zs ++ [(((next + zs.length : Nat) : Int), (s : Int))]) := ⟨fun t k ht => by
  rcases Nat.lt_or_ge t zs.length with h1 | h1
  · rw [List.getElem?_append_left h1] at ht
    exact h.at' t k ht
  · have hl := (List.getElem?_eq_some_iff.1 ht).1
    simp only [List.length_append, List.length_cons, List.length_nil] at hl
    obtain rfl : t = zs.length := by omega
    rw [List.getElem?_append_right (Nat.le_refl _), Nat.sub_self] at ht
    cases ht
    exact ⟨s, rfl, hk⟩⟩
/-- All that is there: the chain's secret, what is derived from its places. -/
def Cov (c0 : Nat) (L : List Tm) : Prop := ∀ x, x < L.length → x = c0 ∨ ∃ i c, Pos L c0 i c ∧ (L[x]? = some (4, 1, [(c : Int)]) ∨ L[x]? = some (4, 2, [(c : Int)]))
theorem Cov.turn {c0 i c k c' : Nat} {L L1 L2 : List Tm} (h : Cov c0 L) (hp : Pos L c0 i c) (K1 : MkT L (4, 1, [(c : Int)]) k L1) (K2 : MkT L1 (4, 2, [(c : Int)]) c' L2) : Cov c0 L2 := by
  have hm : ∀ (j : Nat) (u : Tm), L[j]? = some u → L2[j]? = some u := fun j u hu => K2.keep j u (K1.keep j u hu)
  intro x hx
  rcases K2.cov x hx with h1 | rfl
  · rcases K1.cov x h1 with h2 | rfl
    · rcases h x h2 with h3 | ⟨q, e, h4, h5⟩
      · exact .inl h3
      · exact .inr ⟨q, e, h4.keep hm, h5.elim (fun h => .inl (hm _ _ h)) (fun h => .inr (hm _ _ h))⟩
    · exact .inr ⟨i, c, hp.keep hm, .inl (K2.keep _ _ K1.at')⟩
  · exact .inr ⟨i, c, hp.keep hm, .inr K2.at'⟩
/-- What the loop holds: i turns are done, j keys are skipped. -/
structure Ahd (w wr : World) (aa : Nat) (L0 : List Tm) (G : Nat → Prop) (c0 next : Nat) (sk : List Ky) (p : Option Addr) (n cc : Nat) (wq : World) (i j : Nat) (L : List Tm) (c : Nat) (zs : List Ky) (v : Value) : Prop where
  on : On w wq aa L (fun k => Loc wr G k ∨ v.ownBlock = some k)
  row : wq.ownsRow (wr.heap.size + 2) 87 2 v (sk.length + j) (flatK (sk ++ zs))
  c0' : wq.cell? ⟨wr.heap.size, 0, none⟩ = some (.int .i64 (c : Int))
  c1 : wq.cell? ⟨wr.heap.size, 1, none⟩ = some (.int .i64 ((next + i : Nat) : Int))
  c2 : wq.cell? ⟨wr.heap.size, 2, none⟩ = some (.slice p n cc)
  f : ∀ i, wq.frozen? ⟨wr.heap.size, i, none⟩ = false
  ob : ∃ o1 : Obj, Stay (fun k => G k ∨ k = wr.heap.size + 1) ((wr.alloc o1).alloc (.cells #[.int .i64 0, .int .i64 0, .slice none 0 0] 70)) wq
  pos : Pos L c0 (next + i) c
  skip : Skip L c0 next zs
  zl : zs.length = j
  le : L.length ≤ L0.length + 2 * i
  keep : ∀ (i : Nat) (u : Tm), L0[i]? = some u → L[i]? = some u
  cv : Cov c0 L0 → Cov c0 L
theorem ahd_start {c0 c next n cc : Nat} {sk : List Ky} {p q : Option Addr} {d : Nat} {w1 : World} (T : On w wr aa L G) (R : RtOk L c0 c next sk) (hown1 : w1.ownsRow ((wr.alloc (.cells #[.int .i64 (c : Int), .int .i64 (next : Int), .slice p n cc] 70)).alloc (.cells #[.int .i64 0, .int .i64 0, .slice none 0 0] 70)).heap.size 87 2 (.slice q sk.length d) sk.length (flatK sk)) (B1 : Below ((wr.alloc (.cells #[.int .i64 (c : Int), .int .i64 (next : Int), .slice p n cc] 70)).alloc (.cells #[.int .i64 0, .int .i64 0, .slice none 0 0] 70)).heap.size ((wr.alloc (.cells #[.int .i64 (c : Int), .int .i64 (next : Int), .slice p n cc] 70)).alloc (.cells #[.int .i64 0, .int .i64 0, .slice none 0 0] 70)) w1) : Ahd w wr aa L G c0 next sk p n cc w1 0 0 L c [] (.slice q (sk.length + 0) d) := by
  have S1 := stay_below (G := Loc wr G) B1
  refine ⟨(loc_on T _ _).add B1 (P := fun j => (Value.slice q sk.length d).ownBlock = some j) (fun j hj => row_base hown1 hj), ?_, loc_cell S1 (.inl rfl) (by simp [go_sem]), loc_cell S1 (.inl rfl) (by simp [go_sem]), loc_cell S1 (.inl rfl) (by simp [go_sem]), fun i => loc_frozen S1 (.inl rfl) (by simp [go_sem]), ⟨_, S1.mono (fun k hk => hk.elim .inl (fun h => .inr (.inr h)))⟩, R.pos, ⟨fun t k h => by simp at h⟩, rfl, by omega, fun i u h => h, fun h => h⟩
  rw [List.append_nil]
  simpa using hown1
section
variable {L0 Lj : List Tm} {wq w2 : World} {c0 c next n cc i j k c' : Nat} {sk zs : List Ky} {p : Option Addr} {v : Value}
theorem Ahd.hb (A : Ahd w wr aa L0 G c0 next sk p n cc wq i j Lj c zs v) : wr.heap.size < wq.heap.size ∧ wr.heap.size + 1 < wq.heap.size := ⟨A.on.lt _ (.inl (.inr (.inl rfl))), A.on.lt _ (.inl (.inr (.inr rfl)))⟩
/-- Behind the call of turn. -/
theorem Ahd.turned (A : Ahd w wr aa L0 G c0 next sk p n cc wq i j Lj c zs v) (hG : ∀ k, G k → k < wr.heap.size) (hw : w.heap.size ≤ wr.heap.size) (T2 : On w w2 aa L2 (fun k => Loc wr G k ∨ v.ownBlock = some k)) (S2 : Stay (fun k => Loc wr G k ∨ v.ownBlock = some k) wq w2) (K1 : MkT Lj (4, 1, [(c : Int)]) k L1) (K2 : MkT L1 (4, 2, [(c : Int)]) c' L2) :
    Ahd w wr aa L0 G c0 next sk p n cc ((w2.setCell ⟨wr.heap.size, 0, none⟩ (.int .i64 (c' : Int))).setCell ⟨wr.heap.size, 1, none⟩ (.int .i64 ((next + (i + 1) : Nat) : Int))) (i + 1) j L2 c' zs v ∧ KeyAt L2 c0 (next + i) k := by
  have hb := A.hb
  have hm : ∀ (j : Nat) (u : Tm), Lj[j]? = some u → L2[j]? = some u := fun j u hu => K2.keep j u (K1.keep j u hu)
  have hs2 := S2.size
  have h1 : ∀ (x : World) (t : Nat) (u : Value), Keeps (fun j => j = wr.heap.size) x (x.setCell ⟨wr.heap.size, t, none⟩ u) := fun x t u => Keeps.of_grown (put_grown x ⟨wr.heap.size, t, none⟩ u) (fun k hk => by cases hk; rfl)
  have hK : Keeps (fun j => j = wr.heap.size) w2 ((w2.setCell ⟨wr.heap.size, 0, none⟩ (.int .i64 (c' : Int))).setCell ⟨wr.heap.size, 1, none⟩ (.int .i64 ((next + (i + 1) : Nat) : Int))) := Keeps.trans (h1 _ _ _) (h1 _ _ _) (fun _ _ h => h)
  have hrow2 := row_keeps A.row S2 (fun k hk hn => hn (.inr hk))
  have z0 := (S2.cell (p := ⟨wr.heap.size, 0, none⟩) hb.1 (fun hn => hn (.inl (.inr (.inl rfl))))).trans A.c0'
  have z1 := (S2.cell (p := ⟨wr.heap.size, 1, none⟩) hb.1 (fun hn => hn (.inl (.inr (.inl rfl))))).trans A.c1
  have z2 := (S2.cell (p := ⟨wr.heap.size, 2, none⟩) hb.1 (fun hn => hn (.inl (.inr (.inl rfl))))).trans A.c2
  have zf := fun t => (S2.frozen (p := ⟨wr.heap.size, t, none⟩) hb.1 (fun hn => hn (.inl (.inr (.inl rfl))))).trans (A.f t)
  refine ⟨⟨T2.own hK (fun k hk => .inl ⟨.inl (.inr (.inl hk)), by omega⟩), row_keeps hrow2 hK (fun k hk he => by have := (row_base A.row hk).1; omega), ?_, ?_, ?_, ?_, ?_, .succ _ _ _ (A.pos.keep hm) K2.at', A.skip.keep hm, A.zl, by have := A.le; have := K1.le1; have := K2.le1; omega, fun t u h => hm t u (A.keep t u h), fun h => (A.cv h).turn A.pos K1 K2⟩, ⟨c, A.pos.keep hm, K2.keep _ _ K1.at'⟩⟩
  · simp [go_sem, z0, z1]
  · simp [go_sem, z0, z1]
  · simp [go_sem, z0, z1, z2]
  · intro t
    simp [go_sem, zf]
  · obtain ⟨o1, hS⟩ := A.ob
    refine ⟨o1, hS.trans ((S2.mono (fun k hk => ?_)).trans (hK.mono (fun k _ hk hg => ?_)))⟩
    · rcases hk with h | h
      · exact .inl (.inl h)
      · exact .inl (.inr (.inr h))
    · rcases hg with h | h
      · have := hG k h; omega
      · omega
/-- One more is skipped. -/
theorem Ahd.more {w7 : World} {v7 : Value} {o : Obj} (A : Ahd w wr aa L0 G c0 next sk p n cc wq (j + 1) j Lj c zs v) (hw : w.heap.size ≤ wr.heap.size) (hG : ∀ k, G k → k < wr.heap.size) (hk : KeyAt Lj c0 (next + j) k) (hown : w7.ownsRow (wr.heap.size + 2) 87 2 v7 (sk.length + j + 1) (flatK (sk ++ zs) ++ [.int .i64 ((next + j : Nat) : Int), .int .i64 (k : Int)])) (hg : (wq.alloc o).grownBy w7 v.ownBlock) (hat : v7.ownBlock = v.ownBlock ∨ v7.ownBlock = some (wq.alloc o).heap.size) :
    Ahd w wr aa L0 G c0 next sk p n cc w7 (j + 1) (j + 1) Lj c (zs ++ [(((next + j : Nat) : Int), (k : Int))]) v7 := by
  have hb := A.hb
  have hK : Keeps (fun k => v.ownBlock = some k) (wq.alloc o) w7 := Keeps.of_grown hg (fun k hk => hk)
  have hKa : Keeps (fun k => v.ownBlock = some k) wq w7 := Keeps.trans (Keeps.of_below (F := fun k => v.ownBlock = some k) ((Below.refl _ wq).alloc (Nat.le_refl _) o)) hK (fun _ _ h => h)
  have hfar : ∀ k, k < wr.heap.size + 2 → ¬ v.ownBlock = some k := fun k hk h => by have := (row_base A.row h).1; omega
  have e1 : flatK (sk ++ (zs ++ [(((next + j : Nat) : Int), (k : Int))])) = flatK (sk ++ zs) ++ [.int .i64 ((next + j : Nat) : Int), .int .i64 (k : Int)] := by
    rw [← List.append_assoc, flatK_app (sk ++ zs)]
    rfl
  refine ⟨on_grow A.on o (fun j hj => by have := (row_base A.row hj).1; omega) hg hat (fun j hj => (row_base hown hj).2), by rw [e1]; exact hown, (hKa.cell (p := ⟨wr.heap.size, 0, none⟩) hb.1 (hfar _ (by simp))).trans A.c0', (hKa.cell (p := ⟨wr.heap.size, 1, none⟩) hb.1 (hfar _ (by simp))).trans A.c1, (hKa.cell (p := ⟨wr.heap.size, 2, none⟩) hb.1 (hfar _ (by simp))).trans A.c2, fun t => (hKa.frozen (p := ⟨wr.heap.size, t, none⟩) hb.1 (hfar _ (by simp))).trans (A.f t), ?_, A.pos, ?_, by simp [A.zl], A.le, A.keep, A.cv⟩
  · obtain ⟨o1, hS⟩ := A.ob
    refine ⟨o1, hS.trans (hKa.mono (fun k _ hk hg => ?_))⟩
    rcases hg with h | h
    · exact hfar k (by have := hG k h; omega) hk
    · exact hfar k (by omega) hk
  · have := A.skip.snoc (s := k) (by rw [A.zl]; exact hk)
    rwa [A.zl] at this
end
end
end Go.Proofs.Ytikbeagcflofhaa
namespace Go.Proofs.Ytikbeagcflofhaa
open Go.ChangeShapes Go.WideShapes Go.ChangeAt Go.RowKit Go.Maps
set_option maxRecDepth 100000
attribute [local go_sem ↓] Go.wp_at_zero Go.wp_at_succ
section
variable {w wr w' : World} {aa : Nat} {L L1 L2 : List Tm} {G : Nat → Prop}
theorem news2 (w : World) (x y : Value) (t : TypeId) : ∀ j u, [x, y][j]? = some u → (w.alloc (.cells #[x, y] t)).cell? ((⟨w.heap.size, 0, none⟩ : Addr).add j) = some u := by
  intro j u hj
  rw [add_plain]
  match j, hj with
  | 0, hj => cases hj; simp [go_sem]
  | 1, hj => cases hj; simp [go_sem]
theorem Ahd.clone {L0 : List Tm} {w4 w5 : World} {c0 c next n cc i j m : Nat} {sk zs : List Ky} {p : Option Addr} {v v5 : Value} {ys : List Value} (A : Ahd w wr aa L0 G c0 next sk p n cc w4 i j L c zs v) (hown : w5.ownsRow w4.heap.size 87 2 v5 m ys) (B : Below w4.heap.size w4 w5) :
    (w5.cell? ⟨wr.heap.size, 0, none⟩ = some (.int .i64 (c : Int)) ∧ w5.cell? ⟨wr.heap.size, 1, none⟩ = some (.int .i64 ((next + i : Nat) : Int)) ∧ w5.cell? ⟨wr.heap.size, 2, none⟩ = some (.slice p n cc) ∧ ∀ t, w5.frozen? ⟨wr.heap.size, t, none⟩ = false) ∧
    (w5.cell? ⟨wr.heap.size + 1, 0, none⟩ = some (.int .i64 0) ∧ w5.cell? ⟨wr.heap.size + 1, 1, none⟩ = some (.int .i64 0) ∧ w5.cell? ⟨wr.heap.size + 1, 2, none⟩ = some (.slice none 0 0) ∧ ∀ t, w5.frozen? ⟨wr.heap.size + 1, t, none⟩ = false) ∧
    On w w5 aa L (fun k => Loc wr G k ∨ v5.ownBlock = some k) ∧ Stay G wr w5 := by
  have hb := A.hb
  obtain ⟨o1, hS⟩ := A.ob
  have hS5 := hS.trans (stay_below B)
  have hz : ((wr.alloc o1).alloc (.cells #[.int .i64 0, .int .i64 0, .slice none 0 0] 70)).heap.size = wr.heap.size + 2 := by simp
  have hh : ∀ k, k = wr.heap.size + 1 → ¬ ¬ (G k ∨ k = wr.heap.size + 1) := fun k hk h => h (.inr hk)
  refine ⟨⟨(B.cell (p := ⟨wr.heap.size, 0, none⟩) hb.1).trans A.c0', (B.cell (p := ⟨wr.heap.size, 1, none⟩) hb.1).trans A.c1, (B.cell (p := ⟨wr.heap.size, 2, none⟩) hb.1).trans A.c2, fun t => (B.frozen (p := ⟨wr.heap.size, t, none⟩) hb.1).trans (A.f t)⟩, ⟨?_, ?_, ?_, fun t => ?_⟩, ?_, ?_⟩
  · exact (hS5.cell (p := ⟨wr.heap.size + 1, 0, none⟩) (by rw [hz]; simp) (hh _ rfl)).trans (by simp [go_sem])
  · exact (hS5.cell (p := ⟨wr.heap.size + 1, 1, none⟩) (by rw [hz]; simp) (hh _ rfl)).trans (by simp [go_sem])
  · exact (hS5.cell (p := ⟨wr.heap.size + 1, 2, none⟩) (by rw [hz]; simp) (hh _ rfl)).trans (by simp [go_sem])
  · exact (hS5.frozen (p := ⟨wr.heap.size + 1, t, none⟩) (by rw [hz]; simp) (hh _ rfl)).trans (by simp [go_sem])
  · exact (A.on.add B (P := fun j => v5.ownBlock = some j) (fun j hj => row_base hown hj)).mono (fun k hk => hk.elim (fun h => .inl (.inl h)) .inr)
  · exact (stay_below (loc_below wr _ _)).trans (hS5.mono (fun k hk => .inl hk))
theorem fin_on {w5 w7 : World} {base m : Nat} {v5 : Value} {ys : List Value} (hG : ∀ k, G k → k < wr.heap.size) (hw : w.heap.size ≤ wr.heap.size) (T5 : On w w5 aa L (fun k => Loc wr G k ∨ v5.ownBlock = some k)) (hown : w5.ownsRow base 87 2 v5 m ys) (hbase : wr.heap.size + 2 ≤ base) (S5 : Stay G wr w5) (hK : Keeps (fun k => k = wr.heap.size ∨ k = wr.heap.size + 1) w5 w7) : On w w7 aa L (fun k => G k ∨ v5.ownBlock = some k) ∧ w7.ownsRow wr.heap.size 87 2 v5 m ys ∧ Stay G wr w7 := by
  refine ⟨(T5.own hK (fun k hk => .inl ⟨.inl (.inr hk), by omega⟩)).mono (fun k hk => hk.elim (fun h => .inl (.inl h)) .inr), row_lower (row_keeps hown hK (fun k hk he => ?_)) (by omega), S5.trans (hK.mono (fun k _ hk hg => ?_))⟩
  · have := (row_base hown hk).1
    omega
  · have := hG k hg
    omega
theorem keeps_fin (w5 : World) (hb : Nat) (v5 v6 u0 u1 : Value) : Keeps (fun k => k = hb ∨ k = hb + 1) w5 (((((w5.setCell ⟨hb, 2, none⟩ v5).setCell ⟨hb + 1, 0, none⟩ u0).setCell ⟨hb + 1, 1, none⟩ u1).setCell ⟨hb + 1, 2, none⟩ v6).drew) := by
  have h1 : Keeps (fun k => k = hb ∨ k = hb + 1) w5 (w5.setCell ⟨hb, 2, none⟩ v5) := Keeps.of_grown (put_grown _ _ _) (fun k hk => by cases hk; exact .inl rfl)
  have h2 : ∀ (x : World) (t : Nat) (u : Value), Keeps (fun k => k = hb ∨ k = hb + 1) x (x.setCell ⟨hb + 1, t, none⟩ u) := fun x t u => Keeps.of_grown (put_grown _ _ _) (fun k hk => by cases hk; exact .inr rfl)
  have h3 : ∀ x : World, Keeps (fun k => k = hb ∨ k = hb + 1) x x.drew := fun x => ⟨rfl, rfl, rfl, Nat.le_refl _, fun _ _ _ => rfl⟩
  have tr : ∀ {a b c : World}, Keeps (fun k => k = hb ∨ k = hb + 1) a b → Keeps (fun k => k = hb ∨ k = hb + 1) b c → Keeps (fun k => k = hb ∨ k = hb + 1) a c := fun h h' => Keeps.trans h h' (fun _ _ h => h)
  exact tr (tr (tr (tr h1 (h2 _ _ _)) (h2 _ _ _)) (h2 _ _ _)) (h3 _)
set_option maxHeartbeats 8000000 in
theorem ahead_low (T : Hid (On w wr aa L G)) (c0 c next D : Nat) (m : Int) (p : Option Addr) (cc : Nat) (sk : List Ky) (R : Hid (RtOk L c0 c next sk)) (RK : Hid (RdK wr (.slice p sk.length cc) sk)) (hm : Hid (m = (next + D : Nat))) (hM : m < 1073741824) (hD : D ≤ 200) (hL : L.length ≤ 900) : Calls Try.prog 77 #[.pointer (some ⟨aa, 0, none⟩), .agg #[.int .i64 c, .int .i64 next, .slice p sk.length cc], .int .i64 m] wr fun e w' => ∃ (L' : List Tm) (k c' : Nat) (zs : List Ky) (q : Option Addr) (d : Nat), e = .returned (.tuple #[.int .i64 k, .agg #[.int .i64 c', .int .i64 (m + 1), .slice q ((sk ++ zs).drop ((sk ++ zs).length - 16)).length d], .int .i64 0]) ∧ On w w' aa L' (fun j => G j ∨ (Value.slice q ((sk ++ zs).drop ((sk ++ zs).length - 16)).length d).ownBlock = some j) ∧ w'.ownsRow wr.heap.size 87 2 (.slice q ((sk ++ zs).drop ((sk ++ zs).length - 16)).length d) ((sk ++ zs).drop ((sk ++ zs).length - 16)).length (flatK ((sk ++ zs).drop ((sk ++ zs).length - 16))) ∧ Stay G wr w' ∧ KeyAt L' c0 (next + D) k ∧ Pos L' c0 (next + D + 1) c' ∧ Skip L' c0 next zs ∧ zs.length = D ∧ L'.length ≤ L.length + 2 * (D + 1) ∧ (∀ (i : Nat) (u : Tm), L[i]? = some u → L'[i]? = some u) ∧ (Cov c0 L → Cov c0 L') := by
  obtain ⟨i0, hi', hz0, hz1, hz2⟩ := info_parts (P := Try.prog) (e := 87) (z := .agg #[.int .i64 0, .int .i64 0]) (size := 2) (bytes := 16) (by kernel_rfl)
  have h16 := R.out.right.len
  have hG := (show Hid (∀ k, G k → k < wr.heap.size) from T.out.lt)
  have hw0 := (show Hid (w.heap.size ≤ wr.heap.size) from T.out.below.size)
  obtain ⟨ws, hws⟩ : ∃ ws, ws = wr := ⟨_, rfl⟩
  subst hws
  go_enter Try.func77, Try.ntmps77
  go_wp2_with (first
    | (go_at_call 79; refine (clonek_ok ((RK.out.alloc _).alloc _) (by omega)).mono ?_; rintro ev w1 ⟨q, d, rfl, hown1, B1⟩
       have HA := (show Hid (Ahd w ws aa L G c0 next sk p sk.length cc w1 0 0 L c [] (.slice q (sk.length + 0) d)) from ahd_start T.out R.out hown1 B1)
       clear hown1 B1))
  go_loopw [9] (fun v wq => ∃ (j : Nat) (Lj : List Tm) (cj : Nat) (zs : List Ky) (q : Option Addr) (d : Nat), v = .slice q (sk.length + j) d ∧ j ≤ D ∧ Ahd w ws aa L G c0 next sk p sk.length cc wq j j Lj cj zs (.slice q (sk.length + j) d)) (fun v _ => match v with | .slice _ k _ => sk.length + D - k | _ => 0)
  case atStart => exact ⟨0, L, c, [], q, d, by simp, by omega, HA.out⟩
  case round =>
    clear HA
    obtain ⟨j, Lj, cj, zs, q, d, rfl, hj, HA⟩ := hrel
    have A := (show Hid (Ahd w ws aa L G c0 next sk p sk.length cc wr j j Lj cj zs (.slice q (sk.length + j) d)) from HA)
    clear HA
    have x0 := A.out.c0'
    have x1 := A.out.c1
    have hle := A.out.le
    have hmm := hm.out
    obtain ⟨k, L1, c', L2, K1, K2⟩ := turn_mk (L := Lj) (c := cj) A.out.pos.lt (by omega)
    have P1 := (show Hid _ from K1.put)
    have P2 := (show Hid _ from K2.put)
    have M1 := (show Hid (MkT Lj (4, 1, [(cj : Int)]) k L1) from K1)
    have M2 := (show Hid (MkT L1 (4, 2, [(cj : Int)]) c' L2) from K2)
    obtain ⟨at0, hat⟩ : ∃ at0, at0 = ((next + j : Nat) : Int) := ⟨_, rfl⟩
    have hw2 : IntKind.i64.wrap (at0 + 1) = at0 + 1 := IntWalk.i64_in _ (by omega)
    have HT := (show Hid (On w wr aa Lj (fun k => Loc ws G k ∨ (Value.slice q (sk.length + j) d).ownBlock = some k)) from A.out.on)
    have HAT := (show Hid (at0 = ((next + j : Nat) : Int)) from hat)
    have hnext : (((next + (j + 1) : Nat) : Nat) : Int) = at0 + 1 := by omega
    have HNX := (show Hid _ from hnext)
    rw [← hat] at x1
    by_cases hend : j = D
    · have hatm : at0 = m := by omega
      subst hend
      rw [hatm] at hw2 x1 HAT HNX
      clear hatm hat hnext hmm hle K1 K2 at0
      rcases (show (q = none ∧ sk.length + j = 0) ∨ (∃ g, q = some ⟨g, 0, none⟩ ∧ sk.length + j ≤ 16 ∧ sk.length + j ≤ d) ∨ (∃ g, q = some ⟨g, 0, none⟩ ∧ 16 < sk.length + j ∧ sk.length + j ≤ d) from by
          have hr := A.out.row
          rcases hr.2 with ⟨h1, h2⟩ | ⟨g, cap, cur, h1, _, _, h3, _⟩
          · simp only [Value.slice.injEq] at h1
            exact .inl ⟨h1.1, by omega⟩
          · simp only [Value.slice.injEq] at h1
            obtain ⟨rfl, _, rfl⟩ := h1
            rcases Nat.lt_or_ge 16 (sk.length + j) with h | h
            · exact .inr (.inr ⟨g, rfl, h, by omega⟩)
            · exact .inr (.inl ⟨g, rfl, h, by omega⟩)) with ⟨rfl, hz⟩ | ⟨g, rfl, hz, hzd⟩ | ⟨g, rfl, hz, hzd⟩
      · have hc1 : (sk.length : Int) + j - 16 ≤ 0 := by omega
        go_wp2_with (first
          | (go_at_call 78; refine (turn_on HT cj k c' P1 P2).mono ?_; rintro ev w2 ⟨rfl, T2, S2⟩
             have y1 : w2.cell? ⟨ws.heap.size, 1, none⟩ = some (.int .i64 m) := (S2.cell (p := ⟨ws.heap.size, 1, none⟩) A.out.hb.1 (fun hn => hn (.inl (.inr (.inl rfl))))).trans x1
             have y0 : w2.cell? ⟨ws.heap.size, 0, none⟩ = some (.int .i64 cj) := (S2.cell (p := ⟨ws.heap.size, 0, none⟩) A.out.hb.1 (fun hn => hn (.inl (.inr (.inl rfl))))).trans x0
             have f0 : w2.frozen? ⟨ws.heap.size, 0, none⟩ = false := (S2.frozen (p := ⟨ws.heap.size, 0, none⟩) A.out.hb.1 (fun hn => hn (.inl (.inr (.inl rfl))))).trans (A.out.f 0)
             have f1 : w2.frozen? ⟨ws.heap.size, 1, none⟩ = false := (S2.frozen (p := ⟨ws.heap.size, 1, none⟩) A.out.hb.1 (fun hn => hn (.inl (.inr (.inl rfl))))).trans (A.out.f 1)
             have at1 := A.out.turned hG.out hw0.out T2 S2 M1.out M2.out
             rw [HNX.out] at at1
             have A4 := (show Hid (Ahd w ws aa L G c0 next sk p sk.length cc ((w2.setCell ⟨ws.heap.size, 0, none⟩ (.int .i64 (c' : Int))).setCell ⟨ws.heap.size, 1, none⟩ (.int .i64 (m + 1))) (j + 1) j L2 c' zs (.slice none (sk.length + j) d)) from at1.1)
             have HKY := (show Hid (KeyAt L2 c0 (next + j) k) from at1.2)
             clear T2 S2 x0 x1 at1)
          | (go_at_call 79
             have hz4 := A4.out.hb.2
             have hzl : (sk ++ zs).length = sk.length + j := by rw [List.length_append, A4.out.zl]
             generalize ((w2.setCell ⟨ws.heap.size, 0, none⟩ (.int .i64 (c' : Int))).setCell ⟨ws.heap.size, 1, none⟩ (.int .i64 (m + 1))) = w4 at *
             refine (clonek_ok (sk := (sk ++ zs).drop ((sk ++ zs).length - 16)) (show RdK w4 _ _ from by have h := rdk_row A4.out.row; rw [hz] at h; rw [show (sk ++ zs).length - 16 = 0 by omega, List.drop_zero]; exact h) (by simp; omega)).mono ?_; rintro ev w5 ⟨q5, d5, rfl, hown5, B5⟩
             obtain ⟨⟨u0, u1, u2, uf⟩, ⟨o0, o1, o2, of⟩, T5, S5⟩ := A4.out.clone hown5 B5
             rw [HNX.out] at u1
             have uf2 := uf 2
             have of0 := of 0
             have of1 := of 1
             have of2 := of 2
             have HT5 := (show Hid (On w w5 aa L2 (fun k => Loc ws G k ∨ (Value.slice q5 ((sk ++ zs).drop ((sk ++ zs).length - 16)).length d5).ownBlock = some k)) from T5)
             have HS5 := (show Hid (Stay G ws w5) from S5)
             have HO5 := (show Hid (w5.ownsRow w4.heap.size 87 2 (.slice q5 ((sk ++ zs).drop ((sk ++ zs).length - 16)).length d5) ((sk ++ zs).drop ((sk ++ zs).length - 16)).length (flatK ((sk ++ zs).drop ((sk ++ zs).length - 16)))) from hown5)
             clear T5 S5 hown5 B5 uf of y0 y1 f0 f1 HT))
        go_region
        go_wp2
        have hKl : ((sk ++ zs).drop ((sk ++ zs).length - 16)).length = 0 := by simp only [List.length_drop, hzl]; try omega
        refine bodyPost_ret (v := .tuple #[.int .i64 (k : Int), .agg #[.int .i64 (c' : Int), .int .i64 (m + 1), .slice q5 0 d5], .int .i64 0]) (by simp [results, Try.results77, go_sem, u0, u1, u2, uf2, o0, o1, o2, of0, of1, of2]) rfl ?_
        obtain ⟨r1, r2, r3⟩ := fin_on hG.out hw0.out HT5.out HO5.out (by omega) HS5.out (keeps_fin w5 ws.heap.size (.slice q5 0 d5) (.slice q5 0 d5) (.int .i64 (c' : Int)) (.int .i64 (m + 1)))
        exact ⟨L2, k, c', zs, q5, d5, by rw [hKl], r1, r2, r3, HKY.out, A4.out.pos, A4.out.skip, A4.out.zl, A4.out.le, A4.out.keep, A4.out.cv⟩
      · have hc1 : (sk.length : Int) + j - 16 ≤ 0 := by omega
        go_wp2_with (first
          | (go_at_call 78; refine (turn_on HT cj k c' P1 P2).mono ?_; rintro ev w2 ⟨rfl, T2, S2⟩
             have y1 : w2.cell? ⟨ws.heap.size, 1, none⟩ = some (.int .i64 m) := (S2.cell (p := ⟨ws.heap.size, 1, none⟩) A.out.hb.1 (fun hn => hn (.inl (.inr (.inl rfl))))).trans x1
             have y0 : w2.cell? ⟨ws.heap.size, 0, none⟩ = some (.int .i64 cj) := (S2.cell (p := ⟨ws.heap.size, 0, none⟩) A.out.hb.1 (fun hn => hn (.inl (.inr (.inl rfl))))).trans x0
             have f0 : w2.frozen? ⟨ws.heap.size, 0, none⟩ = false := (S2.frozen (p := ⟨ws.heap.size, 0, none⟩) A.out.hb.1 (fun hn => hn (.inl (.inr (.inl rfl))))).trans (A.out.f 0)
             have f1 : w2.frozen? ⟨ws.heap.size, 1, none⟩ = false := (S2.frozen (p := ⟨ws.heap.size, 1, none⟩) A.out.hb.1 (fun hn => hn (.inl (.inr (.inl rfl))))).trans (A.out.f 1)
             have at1 := A.out.turned hG.out hw0.out T2 S2 M1.out M2.out
             rw [HNX.out] at at1
             have A4 := (show Hid (Ahd w ws aa L G c0 next sk p sk.length cc ((w2.setCell ⟨ws.heap.size, 0, none⟩ (.int .i64 (c' : Int))).setCell ⟨ws.heap.size, 1, none⟩ (.int .i64 (m + 1))) (j + 1) j L2 c' zs (.slice (some ⟨g, 0, none⟩) (sk.length + j) d)) from at1.1)
             have HKY := (show Hid (KeyAt L2 c0 (next + j) k) from at1.2)
             clear T2 S2 x0 x1 at1)
          | (go_at_call 79
             have hz4 := A4.out.hb.2
             have hzl : (sk ++ zs).length = sk.length + j := by rw [List.length_append, A4.out.zl]
             generalize ((w2.setCell ⟨ws.heap.size, 0, none⟩ (.int .i64 (c' : Int))).setCell ⟨ws.heap.size, 1, none⟩ (.int .i64 (m + 1))) = w4 at *
             refine (clonek_ok (sk := (sk ++ zs).drop ((sk ++ zs).length - 16)) (show RdK w4 _ _ from by have h := rdk_row A4.out.row; rw [show (sk ++ zs).length - 16 = 0 by omega, List.drop_zero]; exact h) (by simp; omega)).mono ?_; rintro ev w5 ⟨q5, d5, rfl, hown5, B5⟩
             obtain ⟨⟨u0, u1, u2, uf⟩, ⟨o0, o1, o2, of⟩, T5, S5⟩ := A4.out.clone hown5 B5
             rw [HNX.out] at u1
             have uf2 := uf 2
             have of0 := of 0
             have of1 := of 1
             have of2 := of 2
             have HT5 := (show Hid (On w w5 aa L2 (fun k => Loc ws G k ∨ (Value.slice q5 ((sk ++ zs).drop ((sk ++ zs).length - 16)).length d5).ownBlock = some k)) from T5)
             have HS5 := (show Hid (Stay G ws w5) from S5)
             have HO5 := (show Hid (w5.ownsRow w4.heap.size 87 2 (.slice q5 ((sk ++ zs).drop ((sk ++ zs).length - 16)).length d5) ((sk ++ zs).drop ((sk ++ zs).length - 16)).length (flatK ((sk ++ zs).drop ((sk ++ zs).length - 16)))) from hown5)
             clear T5 S5 hown5 B5 uf of y0 y1 f0 f1 HT))
        go_region
        go_wp2
        have hKl : ((sk ++ zs).drop ((sk ++ zs).length - 16)).length = (sk.length + j) := by simp only [List.length_drop, hzl]; try omega
        refine bodyPost_ret (v := .tuple #[.int .i64 (k : Int), .agg #[.int .i64 (c' : Int), .int .i64 (m + 1), .slice q5 (sk.length + j) d5], .int .i64 0]) (by simp [results, Try.results77, go_sem, u0, u1, u2, uf2, o0, o1, o2, of0, of1, of2]) rfl ?_
        obtain ⟨r1, r2, r3⟩ := fin_on hG.out hw0.out HT5.out HO5.out (by omega) HS5.out (keeps_fin w5 ws.heap.size (.slice q5 (sk.length + j) d5) (.slice q5 (sk.length + j) d5) (.int .i64 (c' : Int)) (.int .i64 (m + 1)))
        exact ⟨L2, k, c', zs, q5, d5, by rw [hKl], r1, r2, r3, HKY.out, A4.out.pos, A4.out.skip, A4.out.zl, A4.out.le, A4.out.keep, A4.out.cv⟩
      · have hc1 : ¬ (sk.length : Int) + j - 16 ≤ 0 := by omega
        have hc2 : (0 : Int) ≤ (sk.length : Int) + j - 16 := by omega
        go_wp2_with (first
          | (go_at_call 78; refine (turn_on HT cj k c' P1 P2).mono ?_; rintro ev w2 ⟨rfl, T2, S2⟩
             have y1 : w2.cell? ⟨ws.heap.size, 1, none⟩ = some (.int .i64 m) := (S2.cell (p := ⟨ws.heap.size, 1, none⟩) A.out.hb.1 (fun hn => hn (.inl (.inr (.inl rfl))))).trans x1
             have y0 : w2.cell? ⟨ws.heap.size, 0, none⟩ = some (.int .i64 cj) := (S2.cell (p := ⟨ws.heap.size, 0, none⟩) A.out.hb.1 (fun hn => hn (.inl (.inr (.inl rfl))))).trans x0
             have f0 : w2.frozen? ⟨ws.heap.size, 0, none⟩ = false := (S2.frozen (p := ⟨ws.heap.size, 0, none⟩) A.out.hb.1 (fun hn => hn (.inl (.inr (.inl rfl))))).trans (A.out.f 0)
             have f1 : w2.frozen? ⟨ws.heap.size, 1, none⟩ = false := (S2.frozen (p := ⟨ws.heap.size, 1, none⟩) A.out.hb.1 (fun hn => hn (.inl (.inr (.inl rfl))))).trans (A.out.f 1)
             have at1 := A.out.turned hG.out hw0.out T2 S2 M1.out M2.out
             rw [HNX.out] at at1
             have A4 := (show Hid (Ahd w ws aa L G c0 next sk p sk.length cc ((w2.setCell ⟨ws.heap.size, 0, none⟩ (.int .i64 (c' : Int))).setCell ⟨ws.heap.size, 1, none⟩ (.int .i64 (m + 1))) (j + 1) j L2 c' zs (.slice (some ⟨g, 0, none⟩) (sk.length + j) d)) from at1.1)
             have HKY := (show Hid (KeyAt L2 c0 (next + j) k) from at1.2)
             clear T2 S2 x0 x1 at1)
          | (go_at_call 79
             have hz4 := A4.out.hb.2
             have hzl : (sk ++ zs).length = sk.length + j := by rw [List.length_append, A4.out.zl]
             generalize ((w2.setCell ⟨ws.heap.size, 0, none⟩ (.int .i64 (c' : Int))).setCell ⟨ws.heap.size, 1, none⟩ (.int .i64 (m + 1))) = w4 at *
             refine (clonek_ok (sk := (sk ++ zs).drop ((sk ++ zs).length - 16)) (show RdK w4 _ _ from by have h := rdk_drop (rdk_row A4.out.row) (f := sk.length + j - 16) (by omega) (d - (sk.length + j - 16)); rw [show (sk ++ zs).length - 16 = sk.length + j - 16 by omega]; simpa using h) (by simp; omega)).mono ?_; rintro ev w5 ⟨q5, d5, rfl, hown5, B5⟩
             obtain ⟨⟨u0, u1, u2, uf⟩, ⟨o0, o1, o2, of⟩, T5, S5⟩ := A4.out.clone hown5 B5
             rw [HNX.out] at u1
             have uf2 := uf 2
             have of0 := of 0
             have of1 := of 1
             have of2 := of 2
             have HT5 := (show Hid (On w w5 aa L2 (fun k => Loc ws G k ∨ (Value.slice q5 ((sk ++ zs).drop ((sk ++ zs).length - 16)).length d5).ownBlock = some k)) from T5)
             have HS5 := (show Hid (Stay G ws w5) from S5)
             have HO5 := (show Hid (w5.ownsRow w4.heap.size 87 2 (.slice q5 ((sk ++ zs).drop ((sk ++ zs).length - 16)).length d5) ((sk ++ zs).drop ((sk ++ zs).length - 16)).length (flatK ((sk ++ zs).drop ((sk ++ zs).length - 16)))) from hown5)
             clear T5 S5 hown5 B5 uf of y0 y1 f0 f1 HT))
        go_region
        go_wp2
        have hKl : ((sk ++ zs).drop ((sk ++ zs).length - 16)).length = (sk.length + j - (sk.length + j - 16)) := by simp only [List.length_drop, hzl]; try omega
        refine bodyPost_ret (v := .tuple #[.int .i64 (k : Int), .agg #[.int .i64 (c' : Int), .int .i64 (m + 1), .slice q5 (sk.length + j - (sk.length + j - 16)) d5], .int .i64 0]) (by simp [results, Try.results77, go_sem, u0, u1, u2, uf2, o0, o1, o2, of0, of1, of2]) rfl ?_
        obtain ⟨r1, r2, r3⟩ := fin_on hG.out hw0.out HT5.out HO5.out (by omega) HS5.out (keeps_fin w5 ws.heap.size (.slice q5 (sk.length + j - (sk.length + j - 16)) d5) (.slice q5 (sk.length + j - (sk.length + j - 16)) d5) (.int .i64 (c' : Int)) (.int .i64 (m + 1)))
        exact ⟨L2, k, c', zs, q5, d5, by rw [hKl], r1, r2, r3, HKY.out, A4.out.pos, A4.out.skip, A4.out.zl, A4.out.le, A4.out.keep, A4.out.cv⟩
    · have hne : ¬ at0 = m := by omega
      clear hat hnext hmm K1 K2
      have hbs := A.out.hb.2
      go_wp2_with (first
        | (go_at_call 78; refine (turn_on HT cj k c' P1 P2).mono ?_; rintro ev w2 ⟨rfl, T2, S2⟩
           have y1 : w2.cell? ⟨ws.heap.size, 1, none⟩ = some (.int .i64 at0) := (S2.cell (p := ⟨ws.heap.size, 1, none⟩) A.out.hb.1 (fun hn => hn (.inl (.inr (.inl rfl))))).trans x1
           have y0 : w2.cell? ⟨ws.heap.size, 0, none⟩ = some (.int .i64 cj) := (S2.cell (p := ⟨ws.heap.size, 0, none⟩) A.out.hb.1 (fun hn => hn (.inl (.inr (.inl rfl))))).trans x0
           have f0 : w2.frozen? ⟨ws.heap.size, 0, none⟩ = false := (S2.frozen (p := ⟨ws.heap.size, 0, none⟩) A.out.hb.1 (fun hn => hn (.inl (.inr (.inl rfl))))).trans (A.out.f 0)
           have f1 : w2.frozen? ⟨ws.heap.size, 1, none⟩ = false := (S2.frozen (p := ⟨ws.heap.size, 1, none⟩) A.out.hb.1 (fun hn => hn (.inl (.inr (.inl rfl))))).trans (A.out.f 1)
           have at1 := A.out.turned hG.out hw0.out T2 S2 M1.out M2.out
           rw [HNX.out] at at1
           have A4 := (show Hid (Ahd w ws aa L G c0 next sk p sk.length cc ((w2.setCell ⟨ws.heap.size, 0, none⟩ (.int .i64 (c' : Int))).setCell ⟨ws.heap.size, 1, none⟩ (.int .i64 (at0 + 1))) (j + 1) j L2 c' zs (.slice q (sk.length + j) d)) from at1.1)
           have HKY := (show Hid (KeyAt L2 c0 (next + j) k) from at1.2)
           clear T2 S2 x0 x1 at1)
        | (at_builtin
           have hb4 := A4.out.hb.2
           have hn2 := news2 ((w2.setCell ⟨ws.heap.size, 0, none⟩ (.int .i64 (c' : Int))).setCell ⟨ws.heap.size, 1, none⟩ (.int .i64 (at0 + 1))) (.int .i64 at0) (.int .i64 (k : Int)) 87
           rw [show ((w2.setCell ⟨ws.heap.size, 0, none⟩ (.int .i64 (c' : Int))).setCell ⟨ws.heap.size, 1, none⟩ (.int .i64 (at0 + 1))).heap.size = w2.heap.size by simp] at hn2
           simp at hb4
           refine wpList_append_own_at _ rfl (.tmp 51) (.tmp 55) 68 rfl (ws.heap.size + 2) 87 i0 (.agg #[.int .i64 0, .int .i64 0]) 2 16 Try.underlying68 hi' hz0 hz1 hz2 rfl (by decide) (.slice q (sk.length + j) d) (sk.length + j) _ rfl (A4.out.row.alloc _) ⟨w2.heap.size, 0, none⟩ 1 1 [.int .i64 at0, .int .i64 (k : Int)] rfl rfl hn2 (fun u hu => by simp at hu; rcases hu with rfl | rfl <;> rfl) (by unfold maxLen; omega) (by omega) (by simp; omega) ?_; intro v7 w7 hown7 hgrow7 _ hat7))
      obtain ⟨p7, c7, rfl⟩ := row_slice hown7
      have hm4 := HAT.out
      subst hm4
      exact ⟨⟨j + 1, L2, c', _, p7, c7, rfl, by omega, A4.out.more hw0.out hG.out HKY.out hown7 hgrow7 hat7⟩, by simp; omega⟩
end
end Go.Proofs.Ytikbeagcflofhaa
