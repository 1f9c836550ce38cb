/-
  trystref01.Sum512: its rounds. Own work.
-/
import Derived.Test.YtjdcaipgfolgoaaDoorVe
namespace Go.Proofs.YtjdcaipgfolgoaaDoor
open Go.Sh
open Go.ChangeShapes Go.WideShapes Go.RowKit
set_option maxRecDepth 100000

section
variable {w0 : World} {cb o N tt : Nat} {C : Array Value} {ty : TypeId} {fz : Nat × Nat} {z : Wd}
theorem runPQ {ic : IC} {s s' : Now} {ex : Ex} {d fuel : Nat} {F : Facts} {ν : Nat → Int} {L fx : List (Nat × Pl)} {kp : List (Nat × Obj)} (h : goesX F tree [] [] [] [] [] fuel d ic s ex s' = true) (hF : F.Hold ν) : Tri Tryd.prog 208 ic (HoldsX 208 w0 ν [] L fx kp s) fun ex' a w => ex' = ex ∧ HoldsX 208 w0 ν [] L fx kp s' a w :=
  Tri.runX hF mixed tab_ok gl0_ok (fun r hr => by cases hr) (fun r hr => by cases hr) (fun r hr => by cases hr) (fun r hr => by cases hr) h
/-- The block's words. -/
theorem pu_loopWQ (hz : ∀ j, j < N → C[o + j]? = some (.int .u8 (z j))) {h v : Wd} {i : Nat} (hi : i + 128 ≤ N) :
    Tri Tryd.prog 208 (.loop pubWQ) (HP w0 cb o tt C ty fz i (nuVQ h (fun j => z (i + j)) i N (wpsQ (fun j => z (i + j)) 0) v) (puWQ [(8, iN 0)] (nmA 400)))
      fun ex a w => ex = .exit 2 ∧ HP w0 cb o tt C ty fz i (nuVQ h (fun j => z (i + j)) i N (wpsQ (fun j => z (i + j)) 80) v) (puWQ [] (nmA 400)) a w := by
  have key := Tri.loop (P := Tryd.prog) (N := 208) (x := pubWQ) (J := fun k a w => k ≤ 80 ∧ HP w0 cb o tt C ty fz i (nuVQ h (fun j => z (i + j)) i N (wpsQ (fun j => z (i + j)) (80 - k)) v) (puWQ [(8, iN (80 - k))] (nmA 400)) a w)
    (Post := fun ex a w => ex = .exit 2 ∧ HP w0 cb o tt C ty fz i (nuVQ h (fun j => z (i + j)) i N (wpsQ (fun j => z (i + j)) 80) v) (puWQ [] (nmA 400)) a w) 80 ?_ ?_
  · exact key.weak (fun a w h => ⟨Nat.le_refl _, h⟩) (fun _ _ _ h => h)
  · intro k c hc a w ⟨hk, hp⟩
    have e3 : 80 - k = 80 - (k + 1) + 1 := by omega
    have hg : puWgoQ (80 - (k + 1)) = true := List.all_eq_true.1 pu_goWQ _ (List.mem_range.2 (by omega))
    refine ((runPQ hg (none_f _)).weak (fun _ _ h => h) (fun ex a w hh => ?_)) c hc a w hp
    refine .inl ⟨hh.1, by omega, ?_⟩
    rw [e3]
    refine pu_renQ (l' := [(8, iN (80 - (k + 1) + 1)), (6, sI 200), (7, .p 70 0)]) (H' := [wQQ (nmA 400)]) hz hh.2 (by decide) (gW65Q 128 _ _ []) (gW67Q 128 _ _ []) (gW68Q 128 _ _ []) rfl rfl rfl rfl hi (fun j hj => by rw [nm0_valQ hj, nm0_valQ hj]) (fun j hj => nuV_wQ hj) (fun p hp => ⟨p.2, hp, ?_⟩) (fun p hp => ?_)
    · simp only [List.mem_cons, List.not_mem_nil, or_false] at hp
      rcases hp with rfl | rfl | rfl
      · exact .inl ⟨.int .i64 ((80 - (k + 1) + 1 : Nat) : Int), rfl, rfl⟩
      · exact .inl ⟨.int .i64 (i : Int), rfl, rfl⟩
      · exact .inr ⟨70, rfl, rfl, by decide, by decide⟩
    · simp only [List.mem_cons, List.not_mem_nil, or_false] at hp
      subst hp
      refine ⟨show gmax ≤ 70 by decide, show 70 < 71 by decide, show 70 ≠ 69 by decide, .u64, 80, eWQ, setA (nmA 400) (80 - (k + 1)) (wpAQ (80 - (k + 1))), nmA 400, gW70Q 128 _ _ [], rfl, eW_ltQ, fun j hj => ?_⟩
      refine Eq.trans ?_ (nuV_WQ hj).symm
      unfold setA
      show _ = if j = 80 - (k + 1) then _ else _
      by_cases hq : j = 80 - (k + 1)
      · rw [if_pos hq, if_pos (by rw [hq]; exact Nat.beq_refl _)]
        exact wpA_valQ (by omega)
      · rw [if_neg hq, if_neg (fun h => hq (Nat.eq_of_beq_eq_true h))]
        exact nuV_WQ hj
  · refine (runPQ (s := puWQ [(8, iN 80)] (nmA 400)) pu_goWeQ (none_f _)).weak (fun a w h => h.2) (fun ex a w h => ⟨by rw [h.1]; simp, h.1, h.2⟩)
/-- The words at work. -/
theorem pu_loopVQ (hz : ∀ j, j < N → C[o + j]? = some (.int .u8 (z j))) {h W : Wd} {i : Nat} (hi : i + 128 ≤ N) :
    Tri Tryd.prog 208 (.loop pubVQ) (HP w0 cb o tt C ty fz i (nuVQ h (fun j => z (i + j)) i N W (vst p512 K256Q W h 0)) (puVQ [(13, iN 0)] (nmA 500)))
      fun ex a w => ex = .exit 6 ∧ HP w0 cb o tt C ty fz i (nuVQ h (fun j => z (i + j)) i N W (vst p512 K256Q W h 80)) (puVQ [] (nmA 500)) a w := by
  have key := Tri.loop (P := Tryd.prog) (N := 208) (x := pubVQ) (J := fun k a w => k ≤ 80 ∧ HP w0 cb o tt C ty fz i (nuVQ h (fun j => z (i + j)) i N W (vst p512 K256Q W h (80 - k))) (puVQ [(13, iN (80 - k))] (nmA 500)) a w)
    (Post := fun ex a w => ex = .exit 6 ∧ HP w0 cb o tt C ty fz i (nuVQ h (fun j => z (i + j)) i N W (vst p512 K256Q W h 80)) (puVQ [] (nmA 500)) a w) 80 ?_ ?_
  · exact key.weak (fun a w h => ⟨Nat.le_refl _, h⟩) (fun _ _ _ h => h)
  · intro k c hc a w ⟨hk, hp⟩
    have e3 : 80 - k = 80 - (k + 1) + 1 := by omega
    have hg : puVgoQ (80 - (k + 1)) = true := List.all_eq_true.1 pu_goVQ _ (List.mem_range.2 (by omega))
    refine ((runPQ hg (none_f _)).weak (fun _ _ h => h) (fun ex a w hh => ?_)) c hc a w hp
    refine .inl ⟨hh.1, by omega, ?_⟩
    rw [e3]
    refine pu_renQ (l' := [(13, iN (80 - (k + 1) + 1)), (6, sI 200), (7, .p 70 0), (12, .p 71 0)]) (H' := [wQQ (nmA 400), vQQ (nmA 500)]) hz hh.2 (by decide) (gV65Q 128 _ _ _ []) (gV67Q 128 _ _ _ []) (gV68Q 128 _ _ _ []) rfl rfl rfl rfl hi (fun j hj => by rw [nm0_valQ hj, nm0_valQ hj]) (fun j hj => nuV_wQ hj) (fun p hp => ⟨p.2, hp, ?_⟩) (fun p hp => ?_)
    · simp only [List.mem_cons, List.not_mem_nil, or_false] at hp
      rcases hp with rfl | rfl | rfl | rfl
      · exact .inl ⟨.int .i64 ((80 - (k + 1) + 1 : Nat) : Int), rfl, rfl⟩
      · exact .inl ⟨.int .i64 (i : Int), rfl, rfl⟩
      · exact .inr ⟨70, rfl, rfl, by decide, by decide⟩
      · exact .inr ⟨71, rfl, rfl, by decide, by decide⟩
    · simp only [List.mem_cons, List.not_mem_nil, or_false] at hp
      rcases hp with rfl | rfl
      · exact ⟨show gmax ≤ 70 by decide, show 70 < 72 by decide, show 70 ≠ 69 by decide, .u64, 80, eWQ, nmA 400, nmA 400, gV70Q 128 _ _ _ [], rfl, eW_ltQ, fun j hj => (nuV_WQ hj).trans (nuV_WQ hj).symm⟩
      · refine ⟨show gmax ≤ 71 by decide, show 71 < 72 by decide, show 71 ≠ 69 by decide, .u64, 8, eVQ, rdA p512 (kAQ (80 - (k + 1))) (400 + (80 - (k + 1))) 500, nmA 500, gV71Q 128 _ _ _ [], rfl, by decide, fun j hj => ?_⟩
        exact (rdP_valQ _ (by omega) j).trans (nuV_vQ j).symm
  · refine (runPQ (s := puVQ [(13, iN 80)] (nmA 500)) pu_goVeQ (none_f _)).weak (fun a w h => h.2) (fun ex a w h => ⟨by rw [h.1]; simp, h.1, h.2⟩)
/-- A round: a block more. -/
theorem pu_roundQ (hz : ∀ j, j < N → C[o + j]? = some (.int .u8 (z j))) (hb : Bytes z N) {h W0 v0 : Wd} {i wd' : Nat} (hi : i + 128 + wd' ≤ N) (hw' : wd' ≤ 128) (hN : N < 1000000000000) (W1 v1 : Wd) :
    Tri Tryd.prog 208 (.seq puR1Q (.seq (.block 1 (.seq pubAQ (.seq (.seq pubBQ (.block 2 (.loop pubWQ))) (.seq pubCQ (.seq (.seq pubDQ (.block 6 (.loop pubVQ))) pubEQ))))) puRiQ))
      (HP w0 cb o tt C ty fz i (nuVQ h (fun j => z (i + j)) i N W0 v0) (puNQ 128 (nmA 0) [(6, sI 200)] [] 70))
      fun ex a w => ex = .normal ∧ HP w0 cb o tt C ty fz (i + 128) (nuVQ (cp512Q (fun j => z (i + j)) h) (fun j => z (i + 128 + j)) ((i + 128 : Nat) : Int) N W1 v1) (puNQ wd' (nmA 0) [(6, sI 200)] [] 70) a w := by
  have hi1 : i + 128 ≤ N := by omega
  have hF : (fQQ true).Hold (nuVQ h (fun j => z (i + j)) i N W0 v0) := by
    refine ⟨fun p hp => (by cases hp), fun p hp => ?_, fun p hp => by cases hp⟩
    simp only [fQQ, List.mem_cons, List.not_mem_nil, or_false] at hp
    subst hp
    exact decide_eq_true (show (i : Int) < (N : Int) by omega)
  refine seqN (runPQ pu_goR1Q hF) (seqN (Mid := HP w0 cb o tt C ty fz i (nuVQ h (fun j => z (i + j)) i N (wpsQ (fun j => z (i + j)) 80) (vst p512 K256Q (wpsQ (fun j => z (i + j)) 80) h 80)) puXQ) ?_ ?_)
  · refine Tri.block (Mid := fun ex a w => ex = .normal ∧ HP w0 cb o tt C ty fz i (nuVQ h (fun j => z (i + j)) i N (wpsQ (fun j => z (i + j)) 80) (vst p512 K256Q (wpsQ (fun j => z (i + j)) 80) h 80)) puXQ a w) ?_ (fun a w h => h) (fun a w h => by cases h.1) (fun j a w hj h => by cases h.1) (fun a w h => by cases h.1)
    refine seqN (runPQ pu_gobAQ (none_f _)) (seqN (Mid := HP w0 cb o tt C ty fz i (nuVQ h (fun j => z (i + j)) i N (wpsQ (fun j => z (i + j)) 80) v0) (puWQ [] (nmA 400))) ?_ (seqN (runPQ pu_gobCQ (none_f _)) (seqN (Mid := HP w0 cb o tt C ty fz i (nuVQ h (fun j => z (i + j)) i N (wpsQ (fun j => z (i + j)) 80) (vst p512 K256Q (wpsQ (fun j => z (i + j)) 80) h 80)) (puVQ [] (nmA 500))) ?_ (runPQ pu_gobEQ (none_f _)))))
    · refine seqN (Mid := HP w0 cb o tt C ty fz i (nuVQ h (fun j => z (i + j)) i N (wpsQ (fun j => z (i + j)) 0) v0) (puWQ [(8, iN 0)] (nmA 400))) ((runPQ pu_gobBQ (none_f _)).weak (fun _ _ h => h) fun ex a w hh => ⟨hh.1, ?_⟩) ?_
      · refine pu_renQ (l' := [(8, iN 0), (6, sI 200), (7, .p 70 0)]) (H' := [wQQ (nmA 400)]) hz hh.2 (by decide) (gW65Q 128 _ _ []) (gW67Q 128 _ _ []) (gW68Q 128 _ _ []) rfl rfl rfl rfl hi1 (fun j hj => by rw [nm0_valQ hj, nm0_valQ hj]) (fun j hj => nuV_wQ hj) (fun p hp => ⟨p.2, hp, ?_⟩) (fun p hp => ?_)
        · simp only [List.mem_cons, List.not_mem_nil, or_false] at hp
          rcases hp with rfl | rfl | rfl
          · exact .inl ⟨.int .i64 0, rfl, rfl⟩
          · exact .inl ⟨.int .i64 (i : Int), rfl, rfl⟩
          · exact .inr ⟨70, rfl, rfl, by decide, by decide⟩
        · simp only [List.mem_cons, List.not_mem_nil, or_false] at hp
          subst hp
          exact ⟨show gmax ≤ 70 by decide, show 70 < 71 by decide, show 70 ≠ 69 by decide, .u64, 80, eWQ, zeroA, nmA 400, gW70Q 128 _ _ [], rfl, eW_ltQ, fun j hj => by
            show (0 : Int) = nuVQ _ _ _ _ _ _ (400 + j)
            rw [nuV_WQ hj]
            rfl⟩
      · refine Tri.block (pu_loopWQ hz hi1) (fun a w h => by cases h.1) (fun a w h => ⟨rfl, h.2⟩) (fun j a w hj h => ?_) (fun a w h => by cases h.1)
        have := h.1
        simp only [Ex.exit.injEq] at this
        exact (hj this).elim
    · refine seqN (Mid := HP w0 cb o tt C ty fz i (nuVQ h (fun j => z (i + j)) i N (wpsQ (fun j => z (i + j)) 80) (vst p512 K256Q (wpsQ (fun j => z (i + j)) 80) h 0)) (puVQ [(13, iN 0)] (nmA 500))) ((runPQ pu_gobDQ (none_f _)).weak (fun _ _ h => h) fun ex a w hh => ⟨hh.1, ?_⟩) ?_
      · refine pu_renQ (l' := [(13, iN 0), (6, sI 200), (7, .p 70 0), (12, .p 71 0)]) (H' := [wQQ (nmA 400), vQQ (nmA 500)]) hz hh.2 (by decide) (gV65Q 128 _ _ _ []) (gV67Q 128 _ _ _ []) (gV68Q 128 _ _ _ []) rfl rfl rfl rfl hi1 (fun j hj => by rw [nm0_valQ hj, nm0_valQ hj]) (fun j hj => nuV_wQ hj) (fun p hp => ⟨p.2, hp, ?_⟩) (fun p hp => ?_)
        · simp only [List.mem_cons, List.not_mem_nil, or_false] at hp
          rcases hp with rfl | rfl | rfl | rfl
          · exact .inl ⟨.int .i64 0, rfl, rfl⟩
          · exact .inl ⟨.int .i64 (i : Int), rfl, rfl⟩
          · exact .inr ⟨70, rfl, rfl, by decide, by decide⟩
          · exact .inr ⟨71, rfl, rfl, by decide, by decide⟩
        · simp only [List.mem_cons, List.not_mem_nil, or_false] at hp
          rcases hp with rfl | rfl
          · exact ⟨show gmax ≤ 70 by decide, show 70 < 72 by decide, show 70 ≠ 69 by decide, .u64, 80, eWQ, nmA 400, nmA 400, gV70Q 128 _ _ _ [], rfl, eW_ltQ, fun j hj => (nuV_WQ hj).trans (nuV_WQ hj).symm⟩
          · exact ⟨show gmax ≤ 71 by decide, show 71 < 72 by decide, show 71 ≠ 69 by decide, .u64, 8, eVQ, nmA 0, nmA 500, gV71Q 128 _ _ _ [], rfl, by decide, fun j hj => (nm0_valQ hj).trans (nuV_vQ j).symm⟩
      · refine Tri.block (pu_loopVQ hz hi1) (fun a w h => by cases h.1) (fun a w h => ⟨rfl, h.2⟩) (fun j a w hj h => ?_) (fun a w h => by cases h.1)
        have := h.1
        simp only [Ex.exit.injEq] at this
        exact (hj this).elim
  · refine (runPQ pu_goRiQ (none_f _)).weak (fun _ _ h => h) fun ex a w hh => ⟨hh.1, ?_⟩
    refine pu_renQ (i' := i + 128) (l' := [(6, sI 200)]) (H' := []) hz hh.2 (by decide) (gX65Q 128 _ []) (gX67Q 128 _ []) (gX68Q 128 _ []) rfl rfl rfl rfl (by omega) (fun j hj => ?_) (fun j hj => nuV_wQ (by omega)) (fun p hp => ?_) (fun p hp => by cases hp)
    · rw [nm0_valQ hj]
      show adI p512 ((nmA 0 j).val _) (nuVQ h _ i N _ _ (500 + j)) = cp512Q _ _ j
      rw [nm0_valQ hj, nuV_vQ]
      have hby : Bytes (fun j => z (i + j)) 128 := fun j hj => hb (i + j) (by omega)
      show _ = comp p512 K256Q (wst p512 (w0IQ fun j => z (i + j)) 64) h 80 j
      rw [← wps_allQ hby]
      rfl
    · simp only [List.mem_cons, List.not_mem_nil, or_false] at hp
      subst hp
      refine ⟨_, List.mem_cons_self, .inl ⟨.int .i64 ((i + 128 : Nat) : Int), ?_, rfl⟩⟩
      show some (Value.int .i64 (IntKind.i64.wrap ((i : Int) + ((128 : Nat) : Int)))) = _
      rw [i64_small (by omega) (by omega)]
      rfl
end
end Go.Proofs.YtjdcaipgfolgoaaDoor
