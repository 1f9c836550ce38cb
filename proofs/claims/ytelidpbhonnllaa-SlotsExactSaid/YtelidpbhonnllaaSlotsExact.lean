/-
  SlotsExact: for all its arguments the law returns true. Conditions: none.
-/
import Derived.Test.YtelidpbhonnllaaEb
import Derived.Test.YtelidpbhonnllaaEc
import Derived.Test.YtelidpbhonnllaaEd
import Derived.Test.YtelidpbhonnllaaEf
namespace Go.Proofs.Ytelidpbhonnllaa
open Go.Sh
open Go.ChangeShapes Go.WideShapes Go.ChangeAt Go.RowKit
set_option maxRecDepth 100000

def nuX (l : List Int) (round me : Int) (len : Nat) : Nat → Int := fun k => if k = 1 then round else if k = 2 then me else if k = 3 then (len : Int) else l.getD (k - 10) 0
theorem nuX_n (l : List Int) (round me : Int) (len i : Nat) : nuX l round me len (10 + i) = l.getD i 0 := by
  show (if 10 + i = 1 then round else if 10 + i = 2 then me else if 10 + i = 3 then (len : Int) else l.getD (10 + i - 10) 0) = _
  rw [if_neg (by omega), if_neg (by omega), if_neg (by omega), Nat.add_sub_cancel_left]
def CmOk (ν : Nat → Int) (p : Cm) : Prop := compare p.1 (p.2.1.val ν) (p.2.2.1.val ν) = p.2.2.2
def Good (l : List Int) (i : Nat) : Prop := 0 ≤ l.getD i 0 ∧ l.getD i 0 < 8 ∧ (i = 0 ∨ l.getD (i - 1) 0 < l.getD i 0)
section
variable {l : List Int} {round me : Int} {len : Nat}
theorem refl_ok (n : Nat) : ∀ p ∈ refl n, CmOk (nuX l round me len) p := by
  intro p hp
  simp only [refl, List.mem_map, List.mem_range] at hp
  obtain ⟨i, _, rfl⟩ := hp
  show (nuX l round me len (10 + i) != nuX l round me len (10 + i)) = false
  simp
theorem lastI_val (i : Nat) : (lastI i).val (nuX l round me len) = if i = 0 then -1 else l.getD (i - 1) 0 := by
  cases i with
  | zero => rfl
  | succ i =>
    show nuX l round me len (10 + i) = _
    rw [nuX_n, if_neg (by omega)]
    rfl
theorem pre_ok {k : Nat} (h : ∀ i, i < k → Good l i) : ∀ p ∈ pre k, CmOk (nuX l round me len) p := by
  intro p hp
  simp only [pre, List.mem_flatMap, List.mem_range, goodF, List.mem_cons, List.not_mem_nil, or_false] at hp
  obtain ⟨i, hi, hp⟩ := hp
  obtain ⟨h1, h2, h3⟩ := h i hi
  have e := nuX_n l round me len i
  rcases hp with rfl | rfl | rfl
  · show decide (nuX l round me len (10 + i) ≤ (lastI i).val (nuX l round me len)) = false
    rw [e, lastI_val]
    refine decide_eq_false ?_
    split
    · omega
    · omega
  · show decide (nuX l round me len (10 + i) ≥ 8) = false
    rw [e]; exact decide_eq_false (by omega)
  · show decide (nuX l round me len (10 + i) < 0) = false
    rw [e]; exact decide_eq_false (by omega)
theorem bad_ok {k d : Nat} (h : ∀ i, i < k → Good l i) (hd : (d = 0 ∧ l.getD k 0 < 0) ∨ (d = 1 ∧ 0 ≤ l.getD k 0 ∧ l.getD k 0 < 8 ∧ 0 < k ∧ l.getD k 0 ≤ l.getD (k - 1) 0) ∨ (d = 2 ∧ 8 ≤ l.getD k 0)) : ∀ p ∈ badF k d, CmOk (nuX l round me len) p := by
  intro p hp
  simp only [badF, List.mem_cons, List.not_mem_nil, or_false] at hp
  have e := nuX_n l round me len k
  have hl : k = 0 ∨ Good l (k - 1) := by
    by_cases hk : k = 0
    · exact .inl hk
    · exact .inr (h (k - 1) (by omega))
  have a1 : compare .leq (l.getD k 0) (if k = 0 then -1 else l.getD (k - 1) 0) = !(Nat.beq d 2) ∧ compare .geq (l.getD k 0) 8 = Nat.beq d 2 ∧ compare .lss (l.getD k 0) 0 = Nat.beq d 0 := by
    show decide (_ ≤ _) = _ ∧ decide (_ ≥ _) = _ ∧ decide (_ < _) = _
    rcases hd with ⟨rfl, h1⟩ | ⟨rfl, h1, h2, h3, h4⟩ | ⟨rfl, h1⟩
    · refine ⟨decide_eq_true ?_, decide_eq_false (by omega), decide_eq_true h1⟩
      split
      · omega
      · rcases hl with hl | hl
        · omega
        · have := hl.1; omega
    · refine ⟨decide_eq_true ?_, decide_eq_false (by omega), decide_eq_false (by omega)⟩
      rw [if_neg (by omega)]
      exact h4
    · refine ⟨decide_eq_false ?_, decide_eq_true h1, decide_eq_false (by omega)⟩
      split
      · omega
      · rcases hl with hl | hl
        · omega
        · have := hl.2.1; omega
  rcases hp with rfl | rfl | rfl
  · show compare .leq (nuX l round me len (10 + k)) ((lastI k).val (nuX l round me len)) = _
    rw [e, lastI_val]; exact a1.1
  · show compare .geq (nuX l round me len (10 + k)) 8 = _
    rw [e]; exact a1.2.1
  · show compare .lss (nuX l round me len (10 + k)) 0 = _
    rw [e]; exact a1.2.2
theorem eqs_ok {n j : Nat} (h : ∀ i, i < n → ((me = l.getD i 0) ↔ i = j)) : ∀ p ∈ eqs n j, CmOk (nuX l round me len) p := by
  intro p hp
  simp only [eqs, List.mem_flatMap, List.mem_range, List.mem_cons, List.not_mem_nil, or_false] at hp
  obtain ⟨i, hi, hp⟩ := hp
  have e := nuX_n l round me len i
  have hb : Nat.beq i j = decide (i = j) := by
    by_cases hij : i = j
    · subst hij; simp
    · rw [decide_eq_false hij]
      cases hq : Nat.beq i j with
      | false => rfl
      | true => exact (hij (Nat.eq_of_beq_eq_true hq)).elim
  have hd : decide (me = l.getD i 0) = decide (i = j) := decide_eq_decide.2 (h i hi)
  rcases hp with rfl | rfl | rfl
  · show (me == nuX l round me len (10 + i)) = Nat.beq i j
    rw [e, hb, ← hd]
    rfl
  · show (nuX l round me len (10 + i) == me) = Nat.beq i j
    rw [e, hb, ← hd]
    exact decide_eq_decide.2 ⟨Eq.symm, Eq.symm⟩
  · show (nuX l round me len (10 + i) == nuX l round me len (10 + i)) = true
    simp
theorem par_ok : ∀ p ∈ par (round.tmod 2 == 0), CmOk (nuX l round me len) p := by
  intro p hp
  simp only [par, List.mem_cons, List.not_mem_nil, or_false] at hp
  subst hp
  rfl
theorem rn_ok {b : Bool} (h : decide (round < 0) = b) : ∀ p ∈ rnF b, CmOk (nuX l round me len) p := by
  intro p hp
  simp only [rnF, List.mem_cons, List.not_mem_nil, or_false] at hp
  subst hp
  exact h
theorem app_ok {ν : Nat → Int} {a b : List Cm} (ha : ∀ p ∈ a, CmOk ν p) (hb : ∀ p ∈ b, CmOk ν p) : ∀ p ∈ a ++ b, CmOk ν p := fun p hp => (List.mem_append.1 hp).elim (ha p) (hb p)
theorem hold_of {ν : Nat → Int} {c : List Cm} (h : ∀ p ∈ c, CmOk ν p) : (⟨[], c⟩ : Facts).Hold ν := ⟨fun p hp => (by cases hp), h⟩
end
theorem least {p : Nat → Prop} : ∀ n, (∃ k, k < n ∧ ¬ p k) → ∃ k, k < n ∧ ¬ p k ∧ ∀ i, i < k → p i
  | 0, ⟨k, hk, _⟩ => by omega
  | n + 1, h => by
    by_cases h1 : ∃ k, k < n ∧ ¬ p k
    · obtain ⟨k, a, b, c⟩ := least n h1
      exact ⟨k, by omega, b, c⟩
    · obtain ⟨k, hk, hp⟩ := h
      have hkn : k = n := by
        by_cases e : k = n
        · exact e
        · exact (h1 ⟨k, by omega, hp⟩).elim
      subst hkn
      exact ⟨k, by omega, hp, fun i hi => Classical.byContradiction fun hn => h1 ⟨i, hi, hn⟩⟩
theorem rises {l : List Int} {n : Nat} (h : ∀ i, i < n → Good l i) : ∀ j i, i < j → j < n → l.getD i 0 < l.getD j 0
  | 0, i, hi, _ => by omega
  | j + 1, i, hi, hj => by
    have h1 := (h (j + 1) hj).2.2
    have h2 : l.getD j 0 < l.getD (j + 1) 0 := by
      rcases h1 with h1 | h1
      · omega
      · exact h1
    by_cases e : i = j
    · subst e; exact h2
    · have := rises h j i (by omega) (by omega)
      omega
theorem gl0 : GlOk [] := fun p hp => by cases hp
theorem laid0 (W : World) : Laid [] W := fun p hp => by cases hp
theorem blk_ok {W : World} {b o n : Nat} {zs : List Int} {round me : Int} {m : Nat} (hm : m ≤ n) (h0 : 0 < m) (hc : ∀ i, i < n → W.cell? ⟨b, o + i, none⟩ = some (.int .i64 (zs.getD i 0))) : ∀ q ∈ ([(64, ⟨cellsX m, 3, true⟩)] : Gl), ∃ pl, embF (at1 64 ⟨b, o, 0⟩) q.1 = some pl ∧ BR (nuX zs round me n) (embF (at1 64 ⟨b, o, 0⟩)) W q.2.shut pl := by
  intro q hq
  simp only [List.mem_cons, List.not_mem_nil, or_false] at hq
  subst hq
  have hlen : (cellsX m).length = m := by simp [cellsX]
  refine ⟨⟨b, o, 0⟩, at1_at (by decide), reads_br hc (fun j cc hj => ?_) (fun hh => by rw [hh] at hlen; simp at hlen; omega) (by decide) 0⟩
  simp only [cellsX, List.getElem?_map, Option.map_eq_some_iff] at hj
  obtain ⟨k, hk, rfl⟩ := hj
  obtain ⟨hj1, hj2⟩ := List.getElem?_eq_some_iff.1 hk
  have hjn : j < m := by simpa using hj1
  have hkj : j = k := by simpa using hj2
  subst hkj
  refine ⟨by omega, ?_⟩
  show some (Value.int .i64 (nuX zs round me n (10 + j))) = _
  rw [nuX_n]
theorem args_lr {ν : Nat → Int} {ρ : Emb} {a : AV} {v : Value} {me round : Int} (h : VR ν ρ a v) (h1 : ν 2 = me) (h2 : ν 1 = round) : LR ν ρ [a, iS 2, iS 1] #[v, .int .i64 me, .int .i64 round] :=
  lr_of (vs := [v, .int .i64 me, .int .i64 round]) ⟨h, by rw [← h1]; exact .i .i64 (.s 2), by rw [← h2]; exact .i .i64 (.s 1), trivial⟩
theorem se_run {W : World} {b o n c : Nat} {zs : List Int} {me round : Int} (hc : n ≤ c) (h0 : 0 < n) (hcell : ∀ i, i < n → W.cell? ⟨b, o + i, none⟩ = some (.int .i64 (zs.getD i 0))) {F : Facts} (hF : F.Hold (nuX zs round me n)) (hgo : goX F n (slX n) = true) :
    Calls Try.prog 3 #[.slice (some ⟨b, o, none⟩) n c, .int .i64 me, .int .i64 round] W fun e W' => e = .returned (.bool true) ∧ Below W.heap.size W W' :=
  memG_of (ν := nuX zs round me n) (g := at1 64 ⟨b, o, 0⟩) (u := .bool true) hF mixed tab_ok gl0 (wkR_ok _) (fun r hr => by cases hr) hgo (by decide) (fun k hk => at1_none (by omega)) (laid0 W) (blk_ok (Nat.le_refl n) h0 hcell)
    (args_lr (.sl 64 0 _ .any ⟨b, o, 0⟩ n c (at1_at (by decide)) rfl trivial hc) rfl rfl) rfl
theorem out_all (n : Nat) (h1 : 9 ≤ n) (h2 : n ≤ 50) : go2 (fOut n) n = true := by
  by_cases h : n < 30
  · have := List.all_eq_true.1 e_out0 (n - 9) (List.mem_range.2 (by omega))
    rwa [show 9 + (n - 9) = n by omega] at this
  · have := List.all_eq_true.1 e_out1 (n - 30) (List.mem_range.2 (by omega))
    rwa [show 30 + (n - 30) = n by omega] at this
theorem bad_all0 : ∀ n, 1 ≤ n → n ≤ 8 → badAll n = true
  | 0, h, _ => by omega
  | 1, _, _ => e_bad1
  | 2, _, _ => e_bad2
  | 3, _, _ => e_bad3
  | 4, _, _ => e_bad4
  | 5, _, _ => e_bad5
  | 6, _, _ => e_bad6
  | 7, _, _ => e_bad7
  | 8, _, _ => e_bad8
  | n + 9, _, h => by omega
theorem neg_all : ∀ n, 1 ≤ n → n ≤ 8 → go2 (fNeg n) n = true
  | 0, h, _ => by omega
  | 1, _, _ => e_neg1
  | 2, _, _ => e_neg2
  | 3, _, _ => e_neg3
  | 4, _, _ => e_neg4
  | 5, _, _ => e_neg5
  | 6, _, _ => e_neg6
  | 7, _, _ => e_neg7
  | 8, _, _ => e_neg8
  | n + 9, _, h => by omega
theorem none_all : ∀ n, 1 ≤ n → n ≤ 8 → go2 (fNone n) n = true
  | 0, h, _ => by omega
  | 1, _, _ => e_none1
  | 2, _, _ => e_none2
  | 3, _, _ => e_none3
  | 4, _, _ => e_none4
  | 5, _, _ => e_none5
  | 6, _, _ => e_none6
  | 7, _, _ => e_none7
  | 8, _, _ => e_none8
  | n + 9, _, h => by omega
theorem at_all0 : ∀ n, 1 ≤ n → n ≤ 8 → (List.range n).all (fun j => (List.range (lastOf n)).all fun r => go2 (fAt n j r) n) = true
  | 0, h, _ => by omega
  | 1, _, _ => e_at1
  | 2, _, _ => e_at2
  | 3, _, _ => e_at3
  | 4, _, _ => e_at4
  | 5, _, _ => e_at5
  | 6, _, _ => e_at6
  | 7, _, _ => e_at7
  | 8, _, _ => e_at8
  | n + 9, _, h => by omega
theorem bad_all {n k d : Nat} (h1 : 1 ≤ n) (h2 : n ≤ 8) (hk : k < n) (hd : d < 3) (hn : ¬ (k = 0 ∧ d = 1)) : go2 (fBad n k d) n = true := by
  have h := List.all_eq_true.1 (List.all_eq_true.1 (bad_all0 n h1 h2) k (List.mem_range.2 hk)) d (List.mem_range.2 hd)
  rw [Bool.or_eq_true] at h
  rcases h with h | h
  · rw [Bool.and_eq_true] at h
    exact (hn ⟨Nat.eq_of_beq_eq_true h.1, Nat.eq_of_beq_eq_true h.2⟩).elim
  · exact h
theorem at_all {n j r : Nat} (h1 : 1 ≤ n) (h2 : n ≤ 8) (hj : j < n) (hr : r < lastOf n) : go2 (fAt n j r) n = true :=
  List.all_eq_true.1 (List.all_eq_true.1 (at_all0 n h1 h2) j (List.mem_range.2 hj)) r (List.mem_range.2 hr)
theorem slotsExact_law {W : World} {v : Value} {zs : List Int} (hv : ReadsAs W .i64 v zs) (_ : ∀ z ∈ zs, (Lit.int .i64 z).wf = true) (me round : Int) (_ : (Lit.int .i64 me).wf = true) (_ : (Lit.int .i64 round).wf = true) :
    Calls Try.prog 3 #[v, .int .i64 me, .int .i64 round] W fun e W' => e = .returned (.bool true) ∧ Below W.heap.size W W' := by
  rcases hv with ⟨rfl, _⟩ | ⟨a, c, rfl, _⟩ | ⟨b, o, n, c, rfl, hc, hn, h0, hcell⟩
  · exact memG_of (ν := nuX [] round me 0) (g := fun _ => none) (u := .bool true) (hold_of (app_ok par_ok (refl_ok 0))) mixed tab_ok gl0 (wkR_ok _) (fun r hr => by cases hr) (e_nil _) (by decide) (fun _ _ => rfl) (laid0 W) (fun q hq => by cases hq) (args_lr .nsl rfl rfl) rfl
  · exact memG_of (ν := nuX [] round me 0) (g := fun _ => none) (u := .bool true) (hold_of (app_ok par_ok (refl_ok 0))) mixed tab_ok gl0 (wkR_ok _) (fun r hr => by cases hr) (e_sle _) (by decide) (fun _ _ => rfl) (laid0 W) (fun q hq => by cases hq) (args_lr (.sle false a c (fun h => by cases h)) rfl rfl) rfl
  by_cases h50 : 50 < n
  · refine memG_of (ν := nuX zs round me n) (g := at1 64 ⟨b, o, 0⟩) (u := .bool true) (hold_of fun p hp => ?_) mixed tab_ok gl0 (wkR_ok _) (fun r hr => by cases hr) e_long (by decide) (fun k hk => at1_none (by omega)) (laid0 W) (blk_ok (m := 1) (by omega) (by decide) hcell)
      (args_lr (.sl 64 0 _ .any ⟨b, o, 0⟩ n c (at1_at (by decide)) rfl trivial hc) rfl rfl) rfl
    simp only [List.mem_cons, List.not_mem_nil, or_false] at hp
    subst hp
    show decide ((n : Int) > 50) = true
    exact decide_eq_true (by omega)
  by_cases h9 : 9 ≤ n
  · exact se_run hc h0 hcell (hold_of (app_ok par_ok (refl_ok n))) (go2_at (out_all n h9 (by omega)) _)
  have h8 : n ≤ 8 := by omega
  by_cases hall : ∀ i, i < n → Good zs i
  · by_cases hr : round < 0
    · exact se_run hc h0 hcell (hold_of (app_ok par_ok (app_ok (rn_ok (decide_eq_true hr)) (app_ok (pre_ok hall) (refl_ok n))))) (go2_at (neg_all n h0 h8) _)
    · by_cases hme : ∃ j, j < n ∧ me = zs.getD j 0
      · obtain ⟨j, hj, he⟩ := hme
        have huniq : ∀ i, i < n → ((me = zs.getD i 0) ↔ i = j) := by
          intro i hi
          constructor
          · intro h
            rcases Nat.lt_trichotomy i j with h1 | h1 | h1
            · have := rises hall j i h1 hj; omega
            · exact h1
            · have := rises hall i j h1 hi; omega
          · rintro rfl
            exact he
        have hl : 0 < lastOf n := by unfold lastOf; omega
        obtain ⟨R, rfl⟩ : ∃ R : Nat, round = (R : Int) := ⟨round.toNat, by omega⟩
        have hF : (fAt n j (R % lastOf n) ((R : Int).tmod 2 == 0)).Hold (nuX zs (R : Int) me n) := by
          refine ⟨fun p hp => ?_, app_ok par_ok (app_ok (rn_ok (decide_eq_false hr)) (app_ok (eqs_ok huniq) (app_ok (pre_ok hall) (refl_ok n))))⟩
          simp only [fAt, List.mem_cons, List.not_mem_nil, or_false] at hp
          subst hp
          rfl
        exact se_run hc h0 hcell hF (go2_at (at_all (r := R % lastOf n) h0 h8 hj (Nat.mod_lt _ hl)) _)
      · have hno : ∀ i, i < n → ((me = zs.getD i 0) ↔ i = 100) := fun i hi => ⟨fun h => (hme ⟨i, hi, h⟩).elim, fun h => by omega⟩
        exact se_run hc h0 hcell (hold_of (app_ok par_ok (app_ok (rn_ok (decide_eq_false hr)) (app_ok (eqs_ok hno) (app_ok (pre_ok hall) (refl_ok n)))))) (go2_at (none_all n h0 h8) _)
  · have hex : ∃ k, k < n ∧ ¬ Good zs k := Classical.byContradiction fun hn => hall fun i hi => Classical.byContradiction fun hg => hn ⟨i, hi, hg⟩
    obtain ⟨k, hk, hng, hpre⟩ := least n hex
    have hd : ∃ d, d < 3 ∧ ¬ (k = 0 ∧ d = 1) ∧ ((d = 0 ∧ zs.getD k 0 < 0) ∨ (d = 1 ∧ 0 ≤ zs.getD k 0 ∧ zs.getD k 0 < 8 ∧ 0 < k ∧ zs.getD k 0 ≤ zs.getD (k - 1) 0) ∨ (d = 2 ∧ 8 ≤ zs.getD k 0)) := by
      by_cases h1 : zs.getD k 0 < 0
      · exact ⟨0, by decide, by omega, .inl ⟨rfl, h1⟩⟩
      · by_cases h2 : 8 ≤ zs.getD k 0
        · exact ⟨2, by decide, by omega, .inr (.inr ⟨rfl, h2⟩)⟩
        · have h3 : ¬ (k = 0 ∨ zs.getD (k - 1) 0 < zs.getD k 0) := fun h => hng ⟨by omega, by omega, h⟩
          have h4 : ¬ k = 0 := fun h => h3 (.inl h)
          have h5 : ¬ zs.getD (k - 1) 0 < zs.getD k 0 := fun h => h3 (.inr h)
          exact ⟨1, by decide, by omega, .inr (.inl ⟨rfl, by omega, by omega, by omega, by omega⟩)⟩
    obtain ⟨d, hd3, hdk, hdd⟩ := hd
    exact se_run hc h0 hcell (hold_of (app_ok par_ok (app_ok (bad_ok hpre hdd) (app_ok (pre_ok hpre) (refl_ok n))))) (go2_at (bad_all h0 h8 hk hd3 hdk) _)
theorem own : ownKnob Try.prog.godebug = none := by kernel_rfl
theorem cellsI : Try.prog.cellsOf 3 = 1 := by kernel_rfl
theorem laidOut : laidOutB Try.prog = true := by kernel_rfl

theorem slotsExact_lifted (os : Os) (started : os.Started) (H : Type) (enc : TypeId × Value → H) :
    ReturnsInHanded {} Try.checked os 3 .any (Rows.slotsExactSpec.pre6 enc Try.prog Try.f3 Rows.slotsExactRow.domain false) (Rows.slotsExactSpec.post enc Try.prog Try.f3 false true false false) := by
  refine returnsInHanded_of_change (C := Try.checked) own started (by kernel_rfl) Try.func3
    (ChangeSpec.witness6 (enc := enc) (C := Try.checked) false ⟨#[], #[.slice none 0 0, .int .i64 0, .int .i64 0], []⟩ 8 (by kernel_rfl) (by kernel_rfl) (by kernel_rfl) (by kernel_rfl)) ?_
  intro W base args ds gs before hval0 hW hcnd _
  have hval : ∀ (j : Nat) t v, Try.f3.params[j]? = some t → args[j]? = some v → Value.okWide Try.prog W .any base t v := hval0
  have hW' := hW
  obtain ⟨p, q, hA0, hV, rfl, hfz, hnd⟩ := hW
  have hA : DataW.TrodAll enc Try.prog W 0 (fun _ => true) true Try.f3.params.toList args.toList ds p := hA0
  rw [Try.params3] at hA hval
  obtain ⟨v0, vs0, d0, ds0, p0, q0, hargs, rfl, rfl, h0, r0⟩ := trodAll_cons hA
  obtain ⟨v1, vs1, d1, ds1, p1, q1, rfl, rfl, rfl, h1, r1⟩ := trodAll_cons r0
  obtain ⟨v2, vs2, d2, ds2, p2, q2, rfl, rfl, rfl, h2, r2⟩ := trodAll_cons r1
  obtain ⟨rfl, rfl, rfl⟩ := trodAll_nil r2
  obtain rfl : args = #[v0, v1, v2] := by cases args; simp_all
  obtain ⟨rfl, rfl⟩ := trodVars_none hV
  obtain ⟨z0, k0, w0, _⟩ := reads_open Try.underlying22 Try.underlying3 cellsI (hval 0 _ v0 rfl rfl) h0
  obtain ⟨a1, rfl, rfl, rfl, b1⟩ := open_int Try.underlying3 (hval 1 _ v1 rfl rfl) h1
  have s1 := plain_int (H := H) Try.underlying3 b1
  obtain ⟨a2, rfl, rfl, rfl, b2⟩ := open_int Try.underlying3 (hval 2 _ v2 rfl rfl) h2
  have s2 := plain_int (H := H) Try.underlying3 b2
  clear hA0 hval0
  simp only [List.append_nil] at hW'
  have hlt : ∀ x ∈ p0, x.block < W.heap.size := fun x hx => hW'.lt x hx
  refine (slotsExact_law k0 w0 a1 a2 b1 b2).mono fun e W' ⟨he, hg⟩ => ?_
  subst he
  exact ⟨_, rfl, post_below (pa := p0) (pv := []) hW' (fun _ _ _ => trodAll_cons_mk (shut_bool Try.underlying4 _) trodAll_mk0) (fun sp hsp => (by have hh := (trodAll_cons_mk (kept_arg laidOut (by kernel_rfl) (of_decide_eq_true (by kernel_rfl)) h0 hg (fun x hx => hlt x (by simp [hx])) (fun x hx => hsp x (by simp [hx]))) (trodAll_cons_mk (s1 _ _ _ _ _) (trodAll_cons_mk (s2 _ _ _ _ _) trodAll_mk0))); simp only [List.append_nil] at hh; exact hh)) (fun _ _ => rfl) (by simp)
    hg (ok_one (by kernel_rfl) rfl (okWide_bool_mk Try.underlying4 _))⟩

/-- THE STATEMENT. -/
theorem slotsExact_holds : Rows.SlotsExactSaid :=
  OpenClaim.holds_of_wide 3 Try.f3 rfl rfl rfl rfl rfl rfl rfl ⟨rfl, rfl, rfl, rfl, rfl⟩ rfl rfl rfl rfl rfl (by kernel_rfl) Try.func3 (by kernel_rfl)
    (of_decide_eq_true (by kernel_rfl)) (by unfold Func.isWrapper; first | (rw [if_pos (by decide +kernel)]; kernel_rfl) | (rw [if_neg (by decide +kernel)]; exact ⟨rfl, rfl⟩))
    (fun os started H enc _ => slotsExact_lifted os started H enc)
#print axioms slotsExact_holds

end Go.Proofs.Ytelidpbhonnllaa
