/-
  LogsBegin: for all its arguments the law returns true. Conditions: none.
-/
import Derived.Test.YtkicmmpdfhbjaaaLBb
import Derived.Test.YtkicmmpdfhbjaaaLBc
namespace Go.Proofs.Ytkicmmpdfhbjaaa
open Go.Sh
open Go.ChangeShapes Go.WideShapes Go.ChangeAt Go.RowKit
set_option maxRecDepth 100000

theorem main_all : ∀ c d, c < 8 → d < 3 → goX (fMain c d) cells8 sl8 = true
  | 0, 0, _, _ => l_0_0
  | 0, 1, _, _ => l_0_1
  | 0, 2, _, _ => l_0_2
  | 0, n + 3, _, h => by omega
  | 1, 0, _, _ => l_1_0
  | 1, 1, _, _ => l_1_1
  | 1, 2, _, _ => l_1_2
  | 1, n + 3, _, h => by omega
  | 2, 0, _, _ => l_2_0
  | 2, 1, _, _ => l_2_1
  | 2, 2, _, _ => l_2_2
  | 2, n + 3, _, h => by omega
  | 3, 0, _, _ => l_3_0
  | 3, 1, _, _ => l_3_1
  | 3, 2, _, _ => l_3_2
  | 3, n + 3, _, h => by omega
  | 4, 0, _, _ => l_4_0
  | 4, 1, _, _ => l_4_1
  | 4, 2, _, _ => l_4_2
  | 4, n + 3, _, h => by omega
  | 5, 0, _, _ => l_5_0
  | 5, 1, _, _ => l_5_1
  | 5, 2, _, _ => l_5_2
  | 5, n + 3, _, h => by omega
  | 6, 0, _, _ => l_6_0
  | 6, 1, _, _ => l_6_1
  | 6, 2, _, _ => l_6_2
  | 6, n + 3, _, h => by omega
  | 7, 0, _, _ => l_7_0
  | 7, 1, _, _ => l_7_1
  | 7, 2, _, _ => l_7_2
  | 7, n + 3, _, h => by omega
  | n + 8, _, h, _ => by omega
def nuX (l : List Int) (c body : Int) (len : Nat) : Nat → Int := fun k => if k = 2 then c else if k = 3 then body else if k = 4 then (len : Int) else l.getD (k - 10) 0
theorem nuX_n (l : List Int) (c body : Int) (len i : Nat) : nuX l c body len (10 + i) = l.getD i 0 := by
  show (if 10 + i = 2 then c else if 10 + i = 3 then body else if 10 + i = 4 then (len : Int) else l.getD (10 + i - 10) 0) = _
  rw [if_neg (by omega), if_neg (by omega), if_neg (by omega), Nat.add_sub_cancel_left]
def CmOk (ν : Nat → Int) (p : Cm) : Prop := compare p.1 (p.2.1.val ν) (p.2.2.1.val ν) = p.2.2.2
def Good (l : List Int) (i : Nat) : Prop := 0 ≤ l.getD i 0 ∧ l.getD i 0 ≤ 1073741824
theorem wrapI (n : Int) (h : -9223372036854775808 ≤ n ∧ n ≤ 9223372036854775807) : IntKind.i64.wrap n = n := by rw [IntWalk.i64_left]; exact IntWalk.wrap64_in n h
theorem ad_val {ν : Nat → Int} {x : AI} {z : Int} (k : Nat) (h : x.val ν = z) (h1 : 0 ≤ z) (h2 : z ≤ 2000000000) (hk : k < 10) : (ad x k).val ν = z + k := by
  show IntKind.i64.wrap (x.val ν + (k : Int)) = _
  rw [h]
  exact wrapI _ (by omega)
theorem beq_t {a b : Int} (h : a = b) : (a == b) = true := by rw [h]; simp
theorem beq_f {a b : Int} (h : a ≠ b) : (a == b) = false := by simpa using h
theorem bne_f {a b : Int} (h : a = b) : (a != b) = false := by rw [h]; simp
section
variable {l : List Int} {c body : Int} {len : Nat}
theorem all_ok {n : Nat} (h : ∀ i, i < n → Good l i) : ∀ p ∈ allF n, CmOk (nuX l c body len) p := by
  intro p hp
  simp only [allF, List.mem_flatMap, List.mem_range] at hp
  obtain ⟨i, hi, hp⟩ := hp
  obtain ⟨h1, h2⟩ := h i hi
  have e : (hI i).val (nuX l c body len) = l.getD i 0 := nuX_n l c body len i
  have e0 := ad_val 0 e h1 (by omega) (by decide)
  generalize l.getD i 0 = z at *
  simp only [inF, List.mem_cons, List.not_mem_nil, or_false] at hp
  unfold CmOk
  rcases hp with rfl | rfl | rfl | rfl | rfl | rfl | rfl | rfl
  · show decide ((hI i).val _ < 0) = false
    rw [e]; exact decide_eq_false (by omega)
  · show decide ((hI i).val _ > 1073741824) = false
    rw [e]; exact decide_eq_false (by omega)
  · show decide ((hI i).val _ ≥ 0) = true
    rw [e]; exact decide_eq_true (by omega)
  · show decide ((hI i).val _ ≤ (hI i).val _) = true
    rw [e]; exact decide_eq_true (by omega)
  · show decide ((hI i).val _ < (ad (hI i) 0).val _) = false
    rw [e, e0]; exact decide_eq_false (by omega)
  · show ((ad (hI i) 0).val _ != (hI i).val _) = false
    rw [e, e0]; exact bne_f (by omega)
  · show ((hI i).val _ != (hI i).val _) = false
    rw [e]; exact bne_f rfl
  · show decide ((hI i).val _ ≤ (ad (hI i) 0).val _) = true
    rw [e, e0]; exact decide_eq_true (by omega)
theorem c_ok {k d : Nat} (h : Good l k) (hd : (d = 0 ∧ l.getD k 0 = 0) ∨ (d = 1 ∧ 0 < l.getD k 0 ∧ l.getD k 0 < 1073741824) ∨ (d = 2 ∧ l.getD k 0 = 1073741824)) : ∀ p ∈ cF k d, CmOk (nuX l c body len) p := by
  intro p hp
  obtain ⟨h1, h2⟩ := h
  have e : (hI k).val (nuX l c body len) = l.getD k 0 := nuX_n l c body len k
  have e0 := ad_val 0 e h1 (by omega) (by decide)
  have e1 := ad_val 1 e h1 (by omega) (by decide)
  have e2 := ad_val 2 e h1 (by omega) (by decide)
  have e01 := ad_val 1 e0 (by omega) (by omega) (by decide)
  generalize l.getD k 0 = z at *
  have f1 : (z == 1073741824) = Nat.beq d 2 ∧ decide (z > 0) = !(Nat.beq d 0) ∧ decide (z < 1) = Nat.beq d 0 := by
    rcases hd with ⟨rfl, h⟩ | ⟨rfl, h, h'⟩ | ⟨rfl, h⟩
    · exact ⟨beq_f (by omega), decide_eq_false (by omega), decide_eq_true (by omega)⟩
    · exact ⟨beq_f (by omega), decide_eq_true (by omega), decide_eq_false (by omega)⟩
    · exact ⟨beq_t h, decide_eq_true (by omega), decide_eq_false (by omega)⟩
  simp only [cF, List.mem_cons, List.not_mem_nil, or_false] at hp
  unfold CmOk
  rcases hp with rfl | rfl | rfl | rfl | rfl | rfl | rfl | rfl | rfl | rfl | rfl | rfl
  · show ((hI k).val _ == 1073741824) = _
    rw [e]; exact f1.1
  · show decide ((hI k).val _ > 0) = _
    rw [e]; exact f1.2.1
  · show decide ((hI k).val _ < 1) = _
    rw [e]; exact f1.2.2
  · show ((ad (hI k) 1).val _ == (ad (hI k) 1).val _) = true
    exact beq_t rfl
  · show ((ad (hI k) 1).val _ != (ad (hI k) 1).val _) = false
    exact bne_f rfl
  · show decide ((ad (hI k) 1).val _ < 1) = false
    rw [e1]; exact decide_eq_false (by omega)
  · show decide ((ad (hI k) 2).val _ < 1) = false
    rw [e2]; exact decide_eq_false (by omega)
  · show decide ((ad (hI k) 1).val _ ≤ (ad (hI k) 0).val _) = false
    rw [e1, e0]; exact decide_eq_false (by omega)
  · show decide ((ad (hI k) 2).val _ ≤ (ad (hI k) 0).val _) = false
    rw [e2, e0]; exact decide_eq_false (by omega)
  · show decide ((ad (hI k) 1).val _ > (ad (ad (hI k) 0) 1).val _) = false
    rw [e1, e01]; exact decide_eq_false (by omega)
  · show decide ((ad (hI k) 2).val _ > (ad (ad (hI k) 0) 1).val _) = true
    rw [e2, e01]; exact decide_eq_true (by omega)
  · show decide ((hI k).val _ < (ad (hI k) 1).val _) = true
    rw [e, e1]; exact decide_eq_true (by omega)
theorem u64_nat (x : Int) : ∃ n : Nat, IntKind.u64.wrap x = (n : Int) := by
  rw [Sh.wrap64]
  exact ⟨(x % 18446744073709551616).toNat, by have := Int.emod_nonneg x (show (18446744073709551616 : Int) ≠ 0 by decide); omega⟩
theorem bod_ok : ∀ p ∈ bodF, CmOk (nuX l c body len) p := by
  obtain ⟨n, hn⟩ := u64_nat body
  have e : bodE.val (nuX l c body len) = ((n % 1048577 : Nat) : Int) := by
    show IntKind.i64.wrap ((IntKind.u64.wrap body).tmod 1048577) = _
    rw [hn, show ((n : Int).tmod 1048577) = ((n % 1048577 : Nat) : Int) from rfl]
    exact wrapI _ (by omega)
  have hl : n % 1048577 < 1048577 := Nat.mod_lt _ (by decide)
  generalize n % 1048577 = m at *
  intro p hp
  simp only [bodF, List.mem_cons, List.not_mem_nil, or_false] at hp
  unfold CmOk
  rcases hp with rfl | rfl | rfl | rfl | rfl
  · show (bodE.val _ == bodE.val _) = true
    exact beq_t rfl
  · show decide (bodE.val _ ≥ 0) = true
    rw [e]; exact decide_eq_true (by omega)
  · show decide (bodE.val _ ≤ 1048576) = true
    rw [e]; exact decide_eq_true (by omega)
  · show decide (bodE.val _ < 0) = false
    rw [e]; exact decide_eq_false (by omega)
  · show decide (bodE.val _ > 1048576) = false
    rw [e]; exact decide_eq_false (by omega)
theorem app_ok {ν : Nat → Int} {a b : List Cm} (ha : ∀ p ∈ a, CmOk ν p) (hb : ∀ p ∈ b, CmOk ν p) : ∀ p ∈ a ++ b, CmOk ν p := fun p hp => (List.mem_append.1 hp).elim (ha p) (hb p)
end
theorem least {p : Nat → Prop} : ∀ n, (∃ k, k < n ∧ ¬ p k) → ∃ k, k < n ∧ ¬ p k ∧ ∀ i, i < k → p i
  | 0, ⟨k, hk, _⟩ => by omega
  | n + 1, h => by
    by_cases h1 : ∃ k, k < n ∧ ¬ p k
    · obtain ⟨k, a, b, c⟩ := least n h1
      exact ⟨k, by omega, b, c⟩
    · obtain ⟨k, hk, hp⟩ := h
      have hkn : k = n := by
        by_cases e : k = n
        · exact e
        · exact (h1 ⟨k, by omega, hp⟩).elim
      subst hkn
      exact ⟨k, by omega, hp, fun i hi => Classical.byContradiction fun hn => h1 ⟨i, hi, hn⟩⟩
theorem gl0 : GlOk [] := fun p hp => by cases hp
theorem laid0 (W : World) : Laid [] W := fun p hp => by cases hp
theorem blk_ok {W : World} {b o n : Nat} {zs : List Int} {c body : Int} (m : Nat) (hm : m ≤ n) (h0 : 0 < m) (hc : ∀ i, i < n → W.cell? ⟨b, o + i, none⟩ = some (.int .i64 (zs.getD i 0))) : ∀ q ∈ ([(64, ⟨(List.range m).map fun i => iS (10 + i), 3, true⟩)] : Gl), ∃ pl, embF (at1 64 ⟨b, o, 0⟩) q.1 = some pl ∧ BR (nuX zs c body n) (embF (at1 64 ⟨b, o, 0⟩)) W q.2.shut pl := by
  intro q hq
  simp only [List.mem_cons, List.not_mem_nil, or_false] at hq
  subst hq
  have hlen : ((List.range m).map fun i => iS (10 + i)).length = m := by simp
  refine ⟨⟨b, o, 0⟩, at1_at (by decide), reads_br hc (fun j cc hj => ?_) (fun hh => by rw [hh] at hlen; simp at hlen; omega) (by decide) 0⟩
  simp only [List.getElem?_map, Option.map_eq_some_iff] at hj
  obtain ⟨k, hk, rfl⟩ := hj
  obtain ⟨hj1, hj2⟩ := List.getElem?_eq_some_iff.1 hk
  have hjn : j < m := by simpa using hj1
  have hkj : j = k := by simpa using hj2
  subst hkj
  refine ⟨by omega, ?_⟩
  show some (Value.int .i64 (nuX zs c body n (10 + j))) = _
  rw [nuX_n]
theorem args_lr {ν : Nat → Int} {ρ : Emb} {a : AV} {v : Value} {c body : Int} (h : VR ν ρ a v) (h1 : ν 2 = c) (h2 : ν 3 = body) : LR ν ρ [a, iS 2, iS 3] #[v, .int .i64 c, .int .i64 body] :=
  lr_of (vs := [v, .int .i64 c, .int .i64 body]) ⟨h, by rw [← h1]; exact .i .i64 (.s 2), by rw [← h2]; exact .i .i64 (.s 3), trivial⟩
theorem lb_run {W : World} {b o cp : Nat} {zs : List Int} {c body : Int} (hc : 8 ≤ cp) (hcell : ∀ i, i < 8 → W.cell? ⟨b, o + i, none⟩ = some (.int .i64 (zs.getD i 0))) {F : Facts} (hF : F.Hold (nuX zs c body 8)) (hgo : goX F cells8 sl8 = true) :
    Calls Try.prog 3 #[.slice (some ⟨b, o, none⟩) 8 cp, .int .i64 c, .int .i64 body] W fun e W' => e = .returned (.bool true) ∧ Below W.heap.size W W' :=
  memG_of (ν := nuX zs c body 8) (g := at1 64 ⟨b, o, 0⟩) (u := .bool true) hF mixed tab_ok gl0 (wkR_ok _) (fun r hr => by cases hr) hgo (by decide) (fun k hk => at1_none (by omega)) (laid0 W) (blk_ok 8 (Nat.le_refl 8) (by decide) hcell)
    (args_lr (.sl 64 0 _ .any ⟨b, o, 0⟩ 8 cp (at1_at (by decide)) rfl trivial hc) rfl rfl) rfl
theorem logsBegin_law {W : World} {v : Value} {zs : List Int} (hv : ReadsAs W .i64 v zs) (_ : ∀ z ∈ zs, (Lit.int .i64 z).wf = true) (c body : Int) (_ : (Lit.int .i64 c).wf = true) (_ : (Lit.int .i64 body).wf = true) :
    Calls Try.prog 3 #[v, .int .i64 c, .int .i64 body] W fun e W' => e = .returned (.bool true) ∧ Below W.heap.size W W' := by
  rcases hv with ⟨rfl, _⟩ | ⟨a, cp, rfl, _⟩ | ⟨b, o, n, cp, rfl, hc, hn, h0, hcell⟩
  · exact memG_of (ν := nuX [] c body 0) (g := fun _ => none) (u := .bool true) (noFacts_hold _) mixed tab_ok gl0 (wkR_ok _) (fun r hr => by cases hr) l_nil (by decide) (fun _ _ => rfl) (laid0 W) (fun q hq => by cases hq) (args_lr .nsl rfl rfl) rfl
  · exact memG_of (ν := nuX [] c body 0) (g := fun _ => none) (u := .bool true) (noFacts_hold _) mixed tab_ok gl0 (wkR_ok _) (fun r hr => by cases hr) l_sle (by decide) (fun _ _ => rfl) (laid0 W) (fun q hq => by cases hq) (args_lr (.sle false a cp (fun h => by cases h)) rfl rfl) rfl
  by_cases h8 : n = 8
  · subst h8
    by_cases hall : ∀ i, i < 8 → Good zs i
    · obtain ⟨m, hm⟩ := u64_nat c
      have hl : m % 8 < 8 := Nat.mod_lt _ (by decide)
      have hce : cE.val (nuX zs c body 8) = ((m % 8 : Nat) : Int) := by
        show (IntKind.u64.wrap c).tmod 8 = _
        rw [hm]
        rfl
      generalize m % 8 = k at hl hce
      have hg := hall k hl
      obtain ⟨d, hd, hdd⟩ : ∃ d, d < 3 ∧ ((d = 0 ∧ zs.getD k 0 = 0) ∨ (d = 1 ∧ 0 < zs.getD k 0 ∧ zs.getD k 0 < 1073741824) ∨ (d = 2 ∧ zs.getD k 0 = 1073741824)) := by
        have h1 := hg.1
        have h2 := hg.2
        by_cases e0 : zs.getD k 0 = 0
        · exact ⟨0, by decide, .inl ⟨rfl, e0⟩⟩
        · by_cases e2 : zs.getD k 0 = 1073741824
          · exact ⟨2, by decide, .inr (.inr ⟨rfl, e2⟩)⟩
          · exact ⟨1, by decide, .inr (.inl ⟨rfl, by omega, by omega⟩)⟩
      have hF : (fMain k d).Hold (nuX zs c body 8) := by
        refine ⟨fun p hp => ?_, app_ok (c_ok hg hdd) (app_ok bod_ok (all_ok hall))⟩
        simp only [fMain, List.mem_cons, List.not_mem_nil, or_false] at hp
        rcases hp with rfl | rfl
        · exact hce
        · show IntKind.i64.wrap ((hI k).val _ - (hI k).val _) = 0
          rw [Int.sub_self]
          rfl
      exact lb_run hc hcell hF (main_all k d hl hd)
    · have hex : ∃ k, k < 8 ∧ ¬ Good zs k := Classical.byContradiction fun hn => hall fun i hi => Classical.byContradiction fun hg => hn ⟨i, hi, hg⟩
      obtain ⟨k, hk, hng, hpre⟩ := least 8 hex
      have hb : bad2 k = true := List.all_eq_true.1 l_bad k (List.mem_range.2 hk)
      simp only [bad2, Bool.and_eq_true] at hb
      have e : (hI k).val (nuX zs c body 8) = zs.getD k 0 := nuX_n zs c body 8 k
      have hF : (fBad k (decide (zs.getD k 0 < 0))).Hold (nuX zs c body 8) := by
        refine ⟨fun p hp => (by cases hp), app_ok (fun p hp => ?_) (all_ok hpre)⟩
        simp only [List.mem_cons, List.not_mem_nil, or_false] at hp
        unfold CmOk
        rcases hp with rfl | rfl
        · show decide ((hI k).val _ < 0) = _
          rw [e]
        · show decide ((hI k).val _ > 1073741824) = !(decide (zs.getD k 0 < 0))
          rw [e]
          by_cases h : zs.getD k 0 < 0
          · rw [decide_eq_true h, decide_eq_false (by omega)]
            rfl
          · rw [decide_eq_false h, decide_eq_true (show zs.getD k 0 > 1073741824 from Int.lt_of_not_ge fun hh => hng ⟨by omega, hh⟩)]
            rfl
      cases ht : decide (zs.getD k 0 < 0) with
      | true => rw [ht] at hF; exact lb_run hc hcell hF hb.1
      | false => rw [ht] at hF; exact lb_run hc hcell hF hb.2
  · by_cases h50 : 50 < n
    · refine memG_of (ν := nuX zs c body n) (F := fLong) (g := at1 64 ⟨b, o, 0⟩) (u := .bool true) ⟨fun p hp => (by cases hp), fun p hp => ?_⟩ mixed tab_ok gl0 (wkR_ok _) (fun r hr => by cases hr) l_long (by decide) (fun k hk => at1_none (by omega)) (laid0 W) (blk_ok 1 (by omega) (by decide) hcell)
        (args_lr (.sl 64 0 _ .any ⟨b, o, 0⟩ n cp (at1_at (by decide)) rfl trivial hc) rfl rfl) rfl
      simp only [fLong, List.mem_cons, List.not_mem_nil, or_false] at hp
      subst hp
      show decide ((n : Int) > 50) = true
      exact decide_eq_true (by omega)
    · refine memG_of (ν := nuX zs c body n) (F := fOther) (g := at1 64 ⟨b, o, 0⟩) (u := .bool true) ⟨fun p hp => (by cases hp), fun p hp => ?_⟩ mixed tab_ok gl0 (wkR_ok _) (fun r hr => by cases hr) l_other (by decide) (fun k hk => at1_none (by omega)) (laid0 W) (blk_ok 1 (by omega) (by decide) hcell)
        (args_lr (.sl 64 0 _ .any ⟨b, o, 0⟩ n cp (at1_at (by decide)) rfl trivial hc) rfl rfl) rfl
      simp only [fOther, List.mem_cons, List.not_mem_nil, or_false] at hp
      rcases hp with rfl | rfl
      · show decide ((n : Int) > 50) = false
        exact decide_eq_false (by omega)
      · show ((n : Int) != 8) = true
        simpa using (show ¬ ((n : Int) = 8) by omega)
theorem own : ownKnob Try.prog.godebug = none := by kernel_rfl
theorem cellsI : Try.prog.cellsOf 3 = 1 := by kernel_rfl
theorem laidOut : laidOutB Try.prog = true := by kernel_rfl

theorem logsBegin_lifted (os : Os) (started : os.Started) (H : Type) (enc : TypeId × Value → H) :
    ReturnsInHanded {} Try.checked os 3 .any (Rows.logsBeginSpec.pre6 enc Try.prog Try.f3 Rows.logsBeginRow.domain false) (Rows.logsBeginSpec.post enc Try.prog Try.f3 false true false false) := by
  refine returnsInHanded_of_change (C := Try.checked) own started (by kernel_rfl) Try.func3
    (ChangeSpec.witness6 (enc := enc) (C := Try.checked) false ⟨#[], #[.slice none 0 0, .int .i64 0, .int .i64 0], []⟩ 8 (by kernel_rfl) (by kernel_rfl) (by kernel_rfl) (by kernel_rfl)) ?_
  intro W base args ds gs before hval0 hW hcnd _
  have hval : ∀ (j : Nat) t v, Try.f3.params[j]? = some t → args[j]? = some v → Value.okWide Try.prog W .any base t v := hval0
  have hW' := hW
  obtain ⟨p, q, hA0, hV, rfl, hfz, hnd⟩ := hW
  have hA : DataW.TrodAll enc Try.prog W 0 (fun _ => true) true Try.f3.params.toList args.toList ds p := hA0
  rw [Try.params3] at hA hval
  obtain ⟨v0, vs0, d0, ds0, p0, q0, hargs, rfl, rfl, h0, r0⟩ := trodAll_cons hA
  obtain ⟨v1, vs1, d1, ds1, p1, q1, rfl, rfl, rfl, h1, r1⟩ := trodAll_cons r0
  obtain ⟨v2, vs2, d2, ds2, p2, q2, rfl, rfl, rfl, h2, r2⟩ := trodAll_cons r1
  obtain ⟨rfl, rfl, rfl⟩ := trodAll_nil r2
  obtain rfl : args = #[v0, v1, v2] := by cases args; simp_all
  obtain ⟨rfl, rfl⟩ := trodVars_none hV
  obtain ⟨z0, k0, w0, _⟩ := reads_open Try.underlying22 Try.underlying3 cellsI (hval 0 _ v0 rfl rfl) h0
  obtain ⟨a1, rfl, rfl, rfl, b1⟩ := open_int Try.underlying3 (hval 1 _ v1 rfl rfl) h1
  have s1 := plain_int (H := H) Try.underlying3 b1
  obtain ⟨a2, rfl, rfl, rfl, b2⟩ := open_int Try.underlying3 (hval 2 _ v2 rfl rfl) h2
  have s2 := plain_int (H := H) Try.underlying3 b2
  clear hA0 hval0
  simp only [List.append_nil] at hW'
  have hlt : ∀ x ∈ p0, x.block < W.heap.size := fun x hx => hW'.lt x hx
  refine (logsBegin_law k0 w0 a1 a2 b1 b2).mono fun e W' ⟨he, hg⟩ => ?_
  subst he
  exact ⟨_, rfl, post_below (pa := p0) (pv := []) hW' (fun _ _ _ => trodAll_cons_mk (shut_bool Try.underlying4 _) trodAll_mk0) (fun sp hsp => (by have hh := (trodAll_cons_mk (kept_arg laidOut (by kernel_rfl) (of_decide_eq_true (by kernel_rfl)) h0 hg (fun x hx => hlt x (by simp [hx])) (fun x hx => hsp x (by simp [hx]))) (trodAll_cons_mk (s1 _ _ _ _ _) (trodAll_cons_mk (s2 _ _ _ _ _) trodAll_mk0))); simp only [List.append_nil] at hh; exact hh)) (fun _ _ => rfl) (by simp)
    hg (ok_one (by kernel_rfl) rfl (okWide_bool_mk Try.underlying4 _))⟩

/-- THE STATEMENT. -/
theorem logsBegin_holds : Rows.LogsBeginSaid :=
  OpenClaim.holds_of_wide 3 Try.f3 rfl rfl rfl rfl rfl rfl rfl ⟨rfl, rfl, rfl, rfl, rfl⟩ rfl rfl rfl rfl rfl (by kernel_rfl) Try.func3 (by kernel_rfl)
    (of_decide_eq_true (by kernel_rfl)) (by unfold Func.isWrapper; first | (rw [if_pos (by decide +kernel)]; kernel_rfl) | (rw [if_neg (by decide +kernel)]; exact ⟨rfl, rfl⟩))
    (fun os started H enc _ => logsBegin_lifted os started H enc)
#print axioms logsBegin_holds

end Go.Proofs.Ytkicmmpdfhbjaaa
