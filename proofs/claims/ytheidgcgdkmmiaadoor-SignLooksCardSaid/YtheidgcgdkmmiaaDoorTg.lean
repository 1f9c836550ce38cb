/-
 sha.Sum512: what it answers: a text's sum. Own work.
-/
import Derived.Test.YtheidgcgdkmmiaaDoorTf
namespace Go.Proofs.YtheidgcgdkmmiaaDoor
open Go.Sh
open Go.ChangeShapes Go.WideShapes Go.RowKit
set_option maxRecDepth 100000
theorem whA_valQ {ν : Nat → Int} {n q r : Nat} (h : ν 201 = (n : Int)) (hq : n = 128 * q + r) (hr : r < 128) (hn : n < 1099511627776) : whAQ.val ν = ((128 * q : Nat) : Int) := by
 show IntKind.i64.wrap (ν 201 - (ν 201).tmod ((128 : Nat) : Int)) = _
 rw [h]
 have e : ((n : Nat) : Int).tmod ((128 : Nat) : Int) = ((n % 128 : Nat) : Int) := rfl
 rw [e]
 have e2 : n % 128 = r := by omega
 rw [e2, i64_small (by omega) (by omega)]
 omega
theorem sumI_outQ {h : Wd} {ν : Nat → Int} (hh : ∀ j, j < 8 → ν (308 + j) = h j) (hr : ∀ j, j < 8 → ∃ m : Nat, h j = (m : Int) ∧ m < 18446744073709551616) : qag ν (.ag (rowC .u8 outAQ 64)) = some (aggI .u8 64 (out256Q h)) := by
 rw [conc2_row]
 exact congrArg some (aggI_congr fun j hj => outA_valQ hh hr hj)
theorem Sum256_okQ {w : World} {v : Value} {n : Nat} {z : Wd} (hw : Laid qat w) (hv : TextAt w v n z) (hn : n < 1099511627776) :
  (∃ fn, Tryd.prog.funcs[48]? = some fn ∧ fn.body.isSome = true ∧ (fn.name == "runtime.NumGoroutine") = false) ∧
  Calls Tryd.prog 48 #[v] w fun e w' => e = .returned (aggI .u8 64 (qbd z n)) ∧ Below w.heap.size w w' := by
 have below : ∀ {w' : World}, BelowL [] w w' → Below w.heap.size w w' := fun hBQ => ⟨hBQ.os, hBQ.tape, hBQ.output, hBQ.size, fun k hk => hBQ.block k hk fun p hp => by cases hp⟩
 rcases hv with ⟨rfl, hv⟩ | ⟨h0, cb, o, c, rfl, hle, C, ty, fz, hC, hz⟩
 ·-- of nothing
  have emp : ∀ x, (∀ ν ρ, VR ν ρ x v) → suNoQ x = true → _ := fun x hx hgo => by
   let h2 : Wd := qbH (fun j => qaq z 0 (128 * 0 + j)) H256Q
   have start := qa2 (N := 46) (ν := nuSQ H256Q H256Q 0 0 0 H256Q h2) (L := []) (fx := []) (kp := []) (vs := #[v]) (e0 := [(0, x)]) (H0 := []) (n0 := 65) qa6 (w := w) hw (fun _ => none) (by show 1 ≤ 46; decide) (by decide) (fun _ _ => rfl) (fun p hp => by cases hp)
    (fun p hp => by
     simp only [List.mem_cons, List.not_mem_nil, or_false] at hp
     subst hp
     exact ⟨_, rfl, hx _ _⟩) (fun p hp => by cases hp) (fun p hp => by cases hp)
   refine (And.imp id (fun h2 => h2.mono fun e w' ⟨v, he, hv, hBQ⟩ => ⟨by rw [he, hv], hBQ⟩) (callsX (L := []) (gl := qat) (Q := fun v w' => v = aggI .u8 64 (qbd z 0) ∧ Below w.heap.size w w') qaf (by kernel_rfl) su_shapeQ start ?_) :
    (∃ fn, Tryd.prog.funcs[48]? = some fn ∧ fn.body.isSome = true ∧ (fn.name == "runtime.NumGoroutine") = false) ∧ Calls Tryd.prog 48 #[v] w fun e w' => e = .returned (aggI .u8 64 (qbd z 0)) ∧ Below w.heap.size w w')
   refine (Tri.runX (L := []) (qaP _) qak qaf qa6 (fun r hr => by cases hr) (fun r hr => by cases hr) (fun r hr => by cases hr) (fun rr hrr => ?_) hgo).weak (fun _ _ h => h) fun ex a w' h => ⟨.inr h.1, _, suH1Q, .ag (rowC .u8 outAQ 64), [], [], h.2, by kernel_rfl, fun ρ v _ _ _ hBQ hv => ⟨?_, below hBQ⟩⟩
   ·simp only [List.mem_cons, List.not_mem_nil, or_false] at hrr
    subst hrr
    refine rowU_turnQ (by decide) fun j hj => nuS_2Q.trans ?_
    have e : ∀ j, j < 128 → qaq z 0 (128 * 0 + j) = (reAQ 0 j).val (nuSQ H256Q H256Q 0 0 0 H256Q h2) := fun j hj => by
     rw [Nat.mul_zero, Nat.zero_add]
     rcases Nat.eq_zero_or_pos j with h0 | h0
     ·subst h0
      rw [reA_eqQ, pd_eqQ rfl]
      rfl
     ·rw [reA_gtQ h0]
      by_cases h1 : j < 112
      ·rw [pd_midQ h0 (by show j < 112; exact h1)]
       rfl
      ·rw [pd_endQ h0 (by show 112 ≤ j; omega)]
       show lenBQ 0 _ = 0
       simp [lenBQ]
    exact congrFun (cp512_congrQ (h := H256Q) e) j
   ·have hr2 : ∀ j, j < 8 → ∃ m : Nat, h2 j = (m : Int) ∧ m < 18446744073709551616 := fun j _ => ad_range _ _
    exact (qaK (sumI_outQ (h := h2) (fun j _ => nuS_2Q) hr2)).2 v hv
  rcases hv with rfl | ⟨a, c, rfl⟩
  ·exact emp .nsl (fun _ _ => .nsl) suNo_nslQ
  ·exact emp (.sle false) (fun _ _ => .sle _ _ _ (fun h => by cases h)) suNo_sleQ
 ·-- of some
  obtain ⟨q, r, hq, hr⟩ : ∃ q r, n = 128 * q + r ∧ r < 128 := ⟨n / 128, n % 128, by omega, by omega⟩
  have hbr : BR (nuSQ H256Q H256Q 0 n ((128 * q : Nat) : Int) H256Q H256Q) (embF (at1 64 ⟨cb, o + 0, 0⟩)) w (txBQ 0).2 ⟨cb, o + 0, 0⟩ := qaZ.br (m := z) ⟨C, ty, fz, hC, fun j hj => by omega⟩ (by decide) fun j hj => by omega
  have start := qa2 (N := 46) (ν := nuSQ H256Q H256Q 0 n ((128 * q : Nat) : Int) H256Q H256Q) (L := []) (fx := [(64, ⟨cb, o + 0, 0⟩)]) (kp := [(cb, .cells C ty fz)]) (vs := #[.slice (some ⟨cb, o, none⟩) n c]) (e0 := su0Q.e) (H0 := su0Q.H) (n0 := 65) qa6 (w := w) hw (at1 64 ⟨cb, o + 0, 0⟩) (by show 1 ≤ 46; decide) (by decide) (fun b hb => at1_none (by omega))
   (fun p hp => by
    simp only [List.mem_cons, List.not_mem_nil, or_false] at hp
    subst hp
    exact at1_at (by decide))
   (fun p hp => by
    simp only [su0Q, List.mem_cons, List.not_mem_nil, or_false] at hp
    subst hp
    exact ⟨_, rfl, .slw 64 1 _ 0 _ .any ⟨cb, o + 0, 0⟩ o 0 n c (at1_at (by decide)) rfl (by show o + 0 = o + 0 * 1; omega) (by omega) rfl trivial hle (by omega)⟩)
   (fun p hp => by
    simp only [su0Q, List.mem_cons, List.not_mem_nil, or_false] at hp
    subst hp
    exact ⟨show gmax ≤ 64 by decide, _, if_pos rfl, hbr, fun h => by cases h⟩)
   (fun p hp => by
    simp only [List.mem_cons, List.not_mem_nil, or_false] at hp
    subst hp
    exact hC)
  refine And.imp id (fun h2 => h2.mono fun e w' ⟨v, he, hv, hBQ⟩ => ⟨by rw [he, hv], hBQ⟩) (callsX (L := []) (gl := qat) (Q := fun v w' => v = aggI .u8 64 (qbd z n) ∧ Below w.heap.size w w') qaf (by kernel_rfl) su_shapeQ start ?_)
  have run : ∀ {ic : IC} {i o' : Now} {ex : Ex} {d : Nat} {F : Facts} {TU : List RowU} {fx : List (Nat × Pl)}, qaF F tree [] qat [] [] TU 60 d ic i ex o' = true → ∀ ν, F.Hold ν → (∀ r ∈ TU, r.Ok ν Tryd.prog qat) → Tri Tryd.prog 46 ic (HoldsX 46 w ν qat [] fx [(cb, .cells C ty fz)] i) fun ex' a w' => ex' = ex ∧ HoldsX 46 w ν qat [] fx [(cb, .cells C ty fz)] o' a w' := fun h ν hF hTU =>
   Tri.runX hF qak qaf qa6 (fun r hr => by cases hr) (fun r hr => by cases hr) (fun r hr => by cases hr) hTU h
  have nor : ∀ ν, ∀ r ∈ ([] : List RowU), r.Ok ν Tryd.prog qat := fun ν r hr => by cases hr
  -- the words to come
  let hq0 : Wd := qaR (qaq z n) q
  let h1 : Wd := qbH (fun j => qaq z n (128 * q + j)) hq0
  let h2 : Wd := if r < 112 then h1 else qbH (fun j => qaq z n (128 * (q + 1) + j)) h1
  let νq : Nat → Int := nuSQ hq0 (fun j => z (128 * q + j)) ((128 * q : Nat) : Int) n ((128 * q : Nat) : Int) h1 h2
  have hend : qaR (qaq z n) (qao n / 128) = h2 := by
   rw [tot_divQ]
   by_cases hs : r < 112
   ·have : (n + 16) / 128 = q := by omega
    rw [this]
    exact (if_pos hs).symm
   ·have : (n + 16) / 128 = q + 1 := by omega
    rw [this]
    exact (if_neg hs).symm
  have win : ∀ j, j < r → νq (64 + j) = z (128 * q + j) := fun j hj => nuS_wQ (by omega)
  have hA : ∀ (b o2 : Nat), b ≤ 300 → (b = 0 ∨ b = 300) → ∀ j, j < 8 → (nmA b j).val νq = if b = 0 then hq0 j else h1 j := by
   intro b _ _ hb j hj
   rcases hb with rfl | rfl
   ·rw [if_pos rfl]
    simp only [nmA, Nat.zero_add, AI.val]
    exact nuS_hQ hj
   ·rw [if_neg (by decide)]
    exact nuS_1Q hj
  have cells : ∀ {g : Nat → AI} {m : Wd} {b : Nat} {hb : Wd}, (∀ j, j < 128 → (g j).val νq = m j) → (∀ j, j < 8 → (nmA b j).val νq = hb j) → ∀ j, j < 8 → qbH (fun j => (g j).val νq) (fun j => (nmA b j).val νq) j = qbH m hb j := by
   intro g m b hb h3 h4 j hj
   rw [cp512_congrQ (m := fun j => (g j).val νq) (m' := m) h3]
   exact comp_congr h4 80 j hj
  refine seqN (run su_goAQ _ (qaP _) (nor _)) (seqN (run su_goBQ _ (qaP _) (nor _)) (seqN (run su_goCQ _ (qaP _) (nor _)) (seqN (Mid := HoldsX 46 w νq qat [] [(64, ⟨cb, o + 128 * q, 0⟩)] [(cb, .cells C ty fz)] (suNQ (slTQ (.s 200) r) r (nmA 0) [(4, sI 200)])) ?_ (seqN (Mid := HoldsX 46 w νq qat [] [(64, ⟨cb, o + 128 * q, 0⟩)] [(cb, .cells C ty fz)] suZQ) ?_ (seqN (run su_goFQ _ (qaP _) (nor _)) (seqN (run su_goGQ _ (qaP _) (nor _)) ?_))))))
  ·refine seqN (Mid := HoldsX 46 w (nuSQ (qaR (qaq z n) 0) (fun j => z (0 + j)) 0 n ((128 * q : Nat) : Int) h1 h2) qat [] [(64, ⟨cb, o + 0, 0⟩)] [(cb, .cells C ty fz)] (suNQ (slTQ (.s 200) (wdSQ r q)) (wdSQ r q) (nmA 0) [(4, sI 202), (5, sI 200)])) ((run su_goDQ _ (qaP _) (nor _)).weak (fun _ _ h => h) fun ex a w' h => ⟨h.1, ?_⟩) ?_
   ·have hwd : 0 + wdSQ r q ≤ n := by unfold wdSQ; split <;> omega
    refine su_namedQ hz h.2 rfl rfl rfl rfl hwd (fun j hj => ?_) (fun j hj => nuS_wQ (by unfold wdSQ at hj; split at hj <;> omega)) fun p hp => ?_
    ·simp only [nmA, Nat.zero_add, AI.val]
     rw [nuS_hQ hj]
     rfl
    ·simp only [List.mem_cons, List.not_mem_nil, or_false] at hp
     rcases hp with rfl | rfl
     ·exact ⟨.i .i64 whAQ, .int .i64 ((128 * q : Nat) : Int), by simp, by show some (Value.int .i64 (whAQ.val _)) = _; rw [whA_valQ (n := n) rfl hq hr hn], rfl⟩
     ·exact ⟨iN 0, .int .i64 0, by simp, rfl, rfl⟩
   ·refine Tri.block (su_loopQ hz hn hq hr h1 h2) (fun a w h => by cases h.1) (fun a w h => ⟨rfl, ?_⟩) (fun j a w hj h => ?_) (fun a w h => by cases h.1)
    ·refine su_namedQ (i := 128 * q) (i' := 128 * q) hz h.2 rfl rfl rfl rfl (by omega) (fun j hj => ?_) win fun p hp => ?_
     ·simp only [nmA, Nat.zero_add, AI.val]
      rw [nuS_hQ hj]
      exact (nuS_hQ hj).symm
     ·simp only [List.mem_cons, List.not_mem_nil, or_false] at hp
      subst hp
      exact ⟨sI 202, .int .i64 ((128 * q : Nat) : Int), by simp, rfl, rfl⟩
    ·have := h.1
     simp only [Ex.exit.injEq] at this
     exact (hj this).elim
  ·have hg : suEgoQ r = true := by
    by_cases r0 : r < 16
    ·have := List.all_eq_true.1 su_goE0Q (r - 0) (List.mem_range.2 (by omega))
     rwa [show 0 + (r - 0) = r by omega] at this
    by_cases r1 : r < 32
    ·have := List.all_eq_true.1 su_goE1Q (r - 16) (List.mem_range.2 (by omega))
     rwa [show 16 + (r - 16) = r by omega] at this
    by_cases r2 : r < 48
    ·have := List.all_eq_true.1 su_goE2Q (r - 32) (List.mem_range.2 (by omega))
     rwa [show 32 + (r - 32) = r by omega] at this
    by_cases r3 : r < 64
    ·have := List.all_eq_true.1 su_goE3Q (r - 48) (List.mem_range.2 (by omega))
     rwa [show 48 + (r - 48) = r by omega] at this
    by_cases r4 : r < 80
    ·have := List.all_eq_true.1 su_goE4Q (r - 64) (List.mem_range.2 (by omega))
     rwa [show 64 + (r - 64) = r by omega] at this
    by_cases r5 : r < 96
    ·have := List.all_eq_true.1 su_goE5Q (r - 80) (List.mem_range.2 (by omega))
     rwa [show 80 + (r - 80) = r by omega] at this
    by_cases r6 : r < 112
    ·have := List.all_eq_true.1 su_goE6Q (r - 96) (List.mem_range.2 (by omega))
     rwa [show 96 + (r - 96) = r by omega] at this
    by_cases r7 : r < 128
    ·have := List.all_eq_true.1 su_goE7Q (r - 112) (List.mem_range.2 (by omega))
     rwa [show 112 + (r - 112) = r by omega] at this
    omega
   have hF : (fEQ r).Hold νq := by
    refine ⟨fun p hp => ?_, fun p hp => (by cases hp), fun p hp => by cases hp⟩
    simp only [fEQ, List.mem_cons, List.not_mem_nil, or_false] at hp
    subst hp
    show IntKind.i64.wrap (((n : Nat) : Int) - ((128 * q : Nat) : Int)) = _
    rw [i64_small (by omega) (by omega)]
    omega
   have hln : lnAQ.val νq = (n : Int) := lnA_valQ rfl hn
   refine run hg _ hF fun rr hrr => ?_
   unfold rowsEQ at hrr
   by_cases hs : r < 112
   ·rw [if_pos (by simpa using hs)] at hrr
    simp only [List.mem_cons, List.not_mem_nil, or_false] at hrr
    subst hrr
    refine rowU_turnQ (by decide) fun j hj => ?_
    refine Eq.trans ?_ (cells (b := 0) (hb := hq0) (end_shortQ hq hs win hln hn) (fun j hj => hA 0 0 (by decide) (.inl rfl) j hj) j hj).symm
    exact nuS_2Q.trans (congrFun (if_pos hs) j)
   ·rw [if_neg (by simpa using hs)] at hrr
    simp only [List.mem_cons, List.not_mem_nil, or_false] at hrr
    rcases hrr with rfl | rfl
    ·refine rowU_turnQ (by decide) fun j hj => ?_
     refine Eq.trans ?_ (cells (b := 0) (hb := hq0) (end_long1Q hq hr (by omega) win) (fun j hj => hA 0 0 (by decide) (.inl rfl) j hj) j hj).symm
     exact nuS_1Q hj
    ·refine rowU_turnQ (by decide) fun j hj => ?_
     refine Eq.trans ?_ (cells (b := 300) (hb := h1) (end_long2Q (z := z) hq hr (by omega) hln hn) (fun j hj => hA 300 0 (by decide) (.inr rfl) j hj) j hj).symm
     exact nuS_2Q.trans (congrFun (if_neg hs) j)
  ·refine (run su_goHQ _ (qaP _) (nor _)).weak (fun _ _ h => h) fun ex a w' h => ⟨.inr h.1, _, suH1Q, .ag (rowC .u8 outAQ 64), _, _, h.2, by kernel_rfl, fun ρ v _ _ _ hBQ hv => ⟨?_, below hBQ⟩⟩
   have hr2 : ∀ j, j < 8 → ∃ m : Nat, h2 j = (m : Int) ∧ m < 18446744073709551616 := fun j _ => by
    show ∃ m : Nat, (if r < 112 then h1 else qbH (fun j => qaq z n (128 * (q + 1) + j)) h1) j = (m : Int) ∧ m < 18446744073709551616
    split <;> exact ad_range _ _
   rw [(qaK (sumI_outQ (h := h2) (fun j _ => nuS_2Q) hr2)).2 v hv]
   unfold qbd
   rw [hend]
end Go.Proofs.YtheidgcgdkmmiaaDoor
