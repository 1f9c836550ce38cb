/-
  sha.Sum256: what it answers: a text's sum. Own work.
-/
import Derived.Test.YtjdcaipgfolgoaaDoorSf
namespace Go.Proofs.YtjdcaipgfolgoaaDoor
open Go.Sh
open Go.ChangeShapes Go.WideShapes Go.RowKit
set_option maxRecDepth 100000

theorem whA_val {ν : Nat → Int} {n q r : Nat} (h : ν 201 = (n : Int)) (hq : n = 64 * q + r) (hr : r < 64) (hn : n < 1099511627776) : whA.val ν = ((64 * q : Nat) : Int) := by
  show IntKind.i64.wrap (ν 201 - (ν 201).tmod ((64 : Nat) : Int)) = _
  rw [h]
  have e : ((n : Nat) : Int).tmod ((64 : Nat) : Int) = ((n % 64 : Nat) : Int) := rfl
  rw [e]
  have e2 : n % 64 = r := by omega
  rw [e2, i64_small (by omega) (by omega)]
  omega
theorem sumI_out {h : Wd} {ν : Nat → Int} (hh : ∀ j, j < 8 → ν (308 + j) = h j) : conc2 ν (.ag (rowC .u8 outA 32)) = some (aggI .u8 32 (out256 h)) := by
  rw [conc2_row]
  exact congrArg some (aggI_congr fun j hj => outA_val hh hj)
/-- WHAT IT ANSWERS. -/
theorem Sum256_ok {w : World} {v : Value} {n : Nat} {z : Wd} (hw : Laid gl256 w) (hv : TextAt w v n z) (hn : n < 1099511627776) :
    (∃ fn, Tryd.prog.funcs[14]? = some fn ∧ fn.body.isSome = true ∧ (fn.name == "runtime.NumGoroutine") = false) ∧
    Calls Tryd.prog 14 #[v] w fun e w' => e = .returned (aggI .u8 32 (sum256 z n)) ∧ Below w.heap.size w w' := by
  have below : ∀ {w' : World}, BelowL [] w w' → Below w.heap.size w w' := fun hB => ⟨hB.os, hB.tape, hB.output, hB.size, fun k hk => hB.block k hk fun p hp => by cases hp⟩
  rcases hv with ⟨rfl, hv⟩ | ⟨h0, cb, o, c, rfl, hle, C, ty, fz, hC, hz⟩
  · -- of nothing
    have emp : ∀ x, (∀ ν ρ, VR ν ρ x v) → suNo x = true → _ := fun x hx hgo => by
      let h2 : Wd := cp256 (fun j => pd256 z 0 (64 * 0 + j)) H256
      have start := holdsX_start (N := 46) (ν := nuS H256 H256 0 0 0 H256 h2) (L := []) (fx := []) (kp := []) (vs := #[v]) (e0 := [(0, x)]) (H0 := []) (n0 := 65) gl256_ok (w := w) hw (fun _ => none) (by show 1 ≤ 46; decide) (by decide) (fun _ _ => rfl) (fun p hp => by cases hp)
        (fun p hp => by
          simp only [List.mem_cons, List.not_mem_nil, or_false] at hp
          subst hp
          exact ⟨_, rfl, hx _ _⟩) (fun p hp => by cases hp) (fun p hp => by cases hp)
      refine (And.imp id (fun h2 => h2.mono fun e w' ⟨v, he, hv, hB⟩ => ⟨by rw [he, hv], hB⟩) (callsX (L := []) (gl := gl256) (Q := fun v w' => v = aggI .u8 32 (sum256 z 0) ∧ Below w.heap.size w w') tab_ok (by kernel_rfl) su_shape start ?_) :
        (∃ fn, Tryd.prog.funcs[14]? = some fn ∧ fn.body.isSome = true ∧ (fn.name == "runtime.NumGoroutine") = false) ∧ Calls Tryd.prog 14 #[v] w fun e w' => e = .returned (aggI .u8 32 (sum256 z 0)) ∧ Below w.heap.size w w')
      refine (Tri.runX (L := []) (none_f _) mixed tab_ok gl256_ok (fun r hr => by cases hr) (fun r hr => by cases hr) (fun r hr => by cases hr) (fun rr hrr => ?_) hgo).weak (fun _ _ h => h) fun ex a w' h => ⟨.inr h.1, _, suH1, .ag (rowC .u8 outA 32), [], [], h.2, by kernel_rfl, fun ρ v _ _ _ hB hv => ⟨?_, below hB⟩⟩
      · simp only [List.mem_cons, List.not_mem_nil, or_false] at hrr
        subst hrr
        refine rowU_turn (by decide) fun j hj => nuS_2.trans ?_
        have e : ∀ j, j < 64 → pd256 z 0 (64 * 0 + j) = (reA 0 j).val (nuS H256 H256 0 0 0 H256 h2) := fun j hj => by
          rw [Nat.mul_zero, Nat.zero_add]
          rcases Nat.eq_zero_or_pos j with h0 | h0
          · subst h0
            rw [reA_eq, pd_eq rfl]
            rfl
          · rw [reA_gt h0]
            by_cases h1 : j < 56
            · rw [pd_mid h0 (by show j < 56; exact h1)]
              rfl
            · rw [pd_end h0 (by show 56 ≤ j; omega)]
              show lenB 0 _ = 0
              simp [lenB]
        exact congrFun (cp256_congr (h := H256) e) j
      · exact (conc2_vr (sumI_out (h := h2) fun j _ => nuS_2)).2 v hv
    rcases hv with rfl | ⟨a, c, rfl⟩
    · exact emp .nsl (fun _ _ => .nsl) suNo_nsl
    · exact emp (.sle false) (fun _ _ => .sle _ _ _ (fun h => by cases h)) suNo_sle
  · -- of some
    obtain ⟨q, r, hq, hr⟩ : ∃ q r, n = 64 * q + r ∧ r < 64 := ⟨n / 64, n % 64, by omega, by omega⟩
    have hbr : BR (nuS H256 H256 0 n ((64 * q : Nat) : Int) H256 H256) (embF (at1 64 ⟨cb, o + 0, 0⟩)) w (txB 0).2 ⟨cb, o + 0, 0⟩ := CellsAt.br (m := z) ⟨C, ty, fz, hC, fun j hj => by omega⟩ (by decide) fun j hj => by omega
    have start := holdsX_start (N := 46) (ν := nuS H256 H256 0 n ((64 * q : Nat) : Int) H256 H256) (L := []) (fx := [(64, ⟨cb, o + 0, 0⟩)]) (kp := [(cb, .cells C ty fz)]) (vs := #[.slice (some ⟨cb, o, none⟩) n c]) (e0 := su0.e) (H0 := su0.H) (n0 := 65) gl256_ok (w := w) hw (at1 64 ⟨cb, o + 0, 0⟩) (by show 1 ≤ 46; decide) (by decide) (fun b hb => at1_none (by omega))
      (fun p hp => by
        simp only [List.mem_cons, List.not_mem_nil, or_false] at hp
        subst hp
        exact at1_at (by decide))
      (fun p hp => by
        simp only [su0, List.mem_cons, List.not_mem_nil, or_false] at hp
        subst hp
        exact ⟨_, rfl, .slw 64 1 _ 0 _ .any ⟨cb, o + 0, 0⟩ o 0 n c (at1_at (by decide)) rfl (by show o + 0 = o + 0 * 1; omega) (by omega) rfl trivial hle (by omega)⟩)
      (fun p hp => by
        simp only [su0, List.mem_cons, List.not_mem_nil, or_false] at hp
        subst hp
        exact ⟨show gmax ≤ 64 by decide, _, if_pos rfl, hbr, fun h => by cases h⟩)
      (fun p hp => by
        simp only [List.mem_cons, List.not_mem_nil, or_false] at hp
        subst hp
        exact hC)
    refine And.imp id (fun h2 => h2.mono fun e w' ⟨v, he, hv, hB⟩ => ⟨by rw [he, hv], hB⟩) (callsX (L := []) (gl := gl256) (Q := fun v w' => v = aggI .u8 32 (sum256 z n) ∧ Below w.heap.size w w') tab_ok (by kernel_rfl) su_shape start ?_)
    have run : ∀ {ic : IC} {i o' : Now} {ex : Ex} {d : Nat} {F : Facts} {TU : List RowU} {fx : List (Nat × Pl)}, goesX F tree [] gl256 [] [] TU 60 d ic i ex o' = true → ∀ ν, F.Hold ν → (∀ r ∈ TU, r.Ok ν Tryd.prog gl256) → Tri Tryd.prog 46 ic (HoldsX 46 w ν gl256 [] fx [(cb, .cells C ty fz)] i) fun ex' a w' => ex' = ex ∧ HoldsX 46 w ν gl256 [] fx [(cb, .cells C ty fz)] o' a w' := fun h ν hF hTU =>
      Tri.runX hF mixed tab_ok gl256_ok (fun r hr => by cases hr) (fun r hr => by cases hr) (fun r hr => by cases hr) hTU h
    have nor : ∀ ν, ∀ r ∈ ([] : List RowU), r.Ok ν Tryd.prog gl256 := fun ν r hr => by cases hr
    -- the words to come
    let hq0 : Wd := hs256 (pd256 z n) q
    let h1 : Wd := cp256 (fun j => pd256 z n (64 * q + j)) hq0
    let h2 : Wd := if r < 56 then h1 else cp256 (fun j => pd256 z n (64 * (q + 1) + j)) h1
    let νq : Nat → Int := nuS hq0 (fun j => z (64 * q + j)) ((64 * q : Nat) : Int) n ((64 * q : Nat) : Int) h1 h2
    have hend : hs256 (pd256 z n) (tot256 n / 64) = h2 := by
      rw [tot_div]
      by_cases hs : r < 56
      · have : (n + 8) / 64 = q := by omega
        rw [this]
        exact (if_pos hs).symm
      · have : (n + 8) / 64 = q + 1 := by omega
        rw [this]
        exact (if_neg hs).symm
    have win : ∀ j, j < r → νq (100 + j) = z (64 * q + j) := fun j hj => nuS_w (by omega)
    have hA : ∀ (b o2 : Nat), b ≤ 300 → (b = 0 ∨ b = 300) → ∀ j, j < 8 → (nmA b j).val νq = if b = 0 then hq0 j else h1 j := by
      intro b _ _ hb j hj
      rcases hb with rfl | rfl
      · rw [if_pos rfl]
        simp only [nmA, Nat.zero_add, AI.val]
        exact nuS_h hj
      · rw [if_neg (by decide)]
        exact nuS_1 hj
    have cells : ∀ {g : Nat → AI} {m : Wd} {b : Nat} {hb : Wd}, (∀ j, j < 64 → (g j).val νq = m j) → (∀ j, j < 8 → (nmA b j).val νq = hb j) → ∀ j, j < 8 → cp256 (fun j => (g j).val νq) (fun j => (nmA b j).val νq) j = cp256 m hb j := by
      intro g m b hb h3 h4 j hj
      rw [cp256_congr (m := fun j => (g j).val νq) (m' := m) h3]
      exact comp_congr h4 64 j hj
    refine seqN (run su_goA _ (none_f _) (nor _)) (seqN (run su_goB _ (none_f _) (nor _)) (seqN (run su_goC _ (none_f _) (nor _)) (seqN (Mid := HoldsX 46 w νq gl256 [] [(64, ⟨cb, o + 64 * q, 0⟩)] [(cb, .cells C ty fz)] (suN (slT (.s 200) r) r (nmA 0) [(4, sI 200)])) ?_ (seqN (Mid := HoldsX 46 w νq gl256 [] [(64, ⟨cb, o + 64 * q, 0⟩)] [(cb, .cells C ty fz)] suZ) ?_ (seqN (run su_goF _ (none_f _) (nor _)) (seqN (run su_goG _ (none_f _) (nor _)) ?_))))))
    · refine seqN (Mid := HoldsX 46 w (nuS (hs256 (pd256 z n) 0) (fun j => z (0 + j)) 0 n ((64 * q : Nat) : Int) h1 h2) gl256 [] [(64, ⟨cb, o + 0, 0⟩)] [(cb, .cells C ty fz)] (suN (slT (.s 200) (wdS r q)) (wdS r q) (nmA 0) [(4, sI 202), (5, sI 200)])) ((run su_goD _ (none_f _) (nor _)).weak (fun _ _ h => h) fun ex a w' h => ⟨h.1, ?_⟩) ?_
      · have hwd : 0 + wdS r q ≤ n := by unfold wdS; split <;> omega
        refine su_named hz h.2 rfl rfl rfl rfl hwd (fun j hj => ?_) (fun j hj => nuS_w (by unfold wdS at hj; split at hj <;> omega)) fun p hp => ?_
        · simp only [nmA, Nat.zero_add, AI.val]
          rw [nuS_h hj]
          rfl
        · simp only [List.mem_cons, List.not_mem_nil, or_false] at hp
          rcases hp with rfl | rfl
          · exact ⟨.i .i64 whA, .int .i64 ((64 * q : Nat) : Int), by simp, by show some (Value.int .i64 (whA.val _)) = _; rw [whA_val (n := n) rfl hq hr hn], rfl⟩
          · exact ⟨iN 0, .int .i64 0, by simp, rfl, rfl⟩
      · refine Tri.block (su_loop hz hn hq hr h1 h2) (fun a w h => by cases h.1) (fun a w h => ⟨rfl, ?_⟩) (fun j a w hj h => ?_) (fun a w h => by cases h.1)
        · refine su_named (i := 64 * q) (i' := 64 * q) hz h.2 rfl rfl rfl rfl (by omega) (fun j hj => ?_) win fun p hp => ?_
          · simp only [nmA, Nat.zero_add, AI.val]
            rw [nuS_h hj]
            exact (nuS_h hj).symm
          · simp only [List.mem_cons, List.not_mem_nil, or_false] at hp
            subst hp
            exact ⟨sI 202, .int .i64 ((64 * q : Nat) : Int), by simp, rfl, rfl⟩
        · have := h.1
          simp only [Ex.exit.injEq] at this
          exact (hj this).elim
    · have hg : suEgo r = true := by
        by_cases r0 : r < 20
        · exact List.all_eq_true.1 su_goE0 _ (List.mem_range.2 r0)
        · by_cases r1 : r < 40
          · have := List.all_eq_true.1 su_goE1 (r - 20) (List.mem_range.2 (by omega))
            rwa [show 20 + (r - 20) = r by omega] at this
          · have := List.all_eq_true.1 su_goE2 (r - 40) (List.mem_range.2 (by omega))
            rwa [show 40 + (r - 40) = r by omega] at this
      have hF : (fE r).Hold νq := by
        refine ⟨fun p hp => ?_, fun p hp => (by cases hp), fun p hp => by cases hp⟩
        simp only [fE, List.mem_cons, List.not_mem_nil, or_false] at hp
        subst hp
        show IntKind.i64.wrap (((n : Nat) : Int) - ((64 * q : Nat) : Int)) = _
        rw [i64_small (by omega) (by omega)]
        omega
      have hln : lnA.val νq = (n : Int) := lnA_val rfl hn
      refine run hg _ hF fun rr hrr => ?_
      unfold rowsE at hrr
      by_cases hs : r < 56
      · rw [if_pos (by simpa using hs)] at hrr
        simp only [List.mem_cons, List.not_mem_nil, or_false] at hrr
        subst hrr
        refine rowU_turn (by decide) fun j hj => ?_
        refine Eq.trans ?_ (cells (b := 0) (hb := hq0) (end_short hq hs win hln hn) (fun j hj => hA 0 0 (by decide) (.inl rfl) j hj) j hj).symm
        exact nuS_2.trans (congrFun (if_pos hs) j)
      · rw [if_neg (by simpa using hs)] at hrr
        simp only [List.mem_cons, List.not_mem_nil, or_false] at hrr
        rcases hrr with rfl | rfl
        · refine rowU_turn (by decide) fun j hj => ?_
          refine Eq.trans ?_ (cells (b := 0) (hb := hq0) (end_long1 hq hr (by omega) win) (fun j hj => hA 0 0 (by decide) (.inl rfl) j hj) j hj).symm
          exact nuS_1 hj
        · refine rowU_turn (by decide) fun j hj => ?_
          refine Eq.trans ?_ (cells (b := 300) (hb := h1) (end_long2 (z := z) hq hr (by omega) hln hn) (fun j hj => hA 300 0 (by decide) (.inr rfl) j hj) j hj).symm
          exact nuS_2.trans (congrFun (if_neg hs) j)
    · refine (run su_goH _ (none_f _) (nor _)).weak (fun _ _ h => h) fun ex a w' h => ⟨.inr h.1, _, suH1, .ag (rowC .u8 outA 32), _, _, h.2, by kernel_rfl, fun ρ v _ _ _ hB hv => ⟨?_, below hB⟩⟩
      rw [(conc2_vr (sumI_out (h := h2) fun j _ => nuS_2)).2 v hv]
      unfold sum256
      rw [hend]
end Go.Proofs.YtjdcaipgfolgoaaDoor
