/-
  trystref01.Sum256: its rounds. Own work.
-/
import Derived.Test.YtjdcaipgfolgoaaDoorUe
namespace Go.Proofs.YtjdcaipgfolgoaaDoor
open Go.Sh
open Go.ChangeShapes Go.WideShapes Go.RowKit
set_option maxRecDepth 100000

section
variable {w0 : World} {cb o N tt : Nat} {C : Array Value} {ty : TypeId} {fz : Nat × Nat} {z : Wd}
abbrev HP (w0 : World) (cb o tt : Nat) (C : Array Value) (ty : TypeId) (fz : Nat × Nat) (i : Nat) (ν : Nat → Int) (s : Now) (a : Act) (w : World) : Prop := HoldsX 208 w0 ν [] [] [(69, ⟨cb, o + i, tt⟩)] [(cb, .cells C ty fz)] s a w
theorem runP {ic : IC} {s s' : Now} {ex : Ex} {d fuel : Nat} {F : Facts} {ν : Nat → Int} {L fx : List (Nat × Pl)} {kp : List (Nat × Obj)} (h : goesX F tree [] [] [] [] [] fuel d ic s ex s' = true) (hF : F.Hold ν) : Tri Tryd.prog 208 ic (HoldsX 208 w0 ν [] L fx kp s) fun ex' a w => ex' = ex ∧ HoldsX 208 w0 ν [] L fx kp s' a w :=
  Tri.runX hF mixed tab_ok gl0_ok (fun r hr => by cases hr) (fun r hr => by cases hr) (fun r hr => by cases hr) (fun r hr => by cases hr) h
/-- The block's words. -/
theorem pu_loopW (hz : ∀ j, j < N → C[o + j]? = some (.int .u8 (z j))) {h v : Wd} {i : Nat} (hi : i + 64 ≤ N) :
    Tri Tryd.prog 208 (.loop pubW) (HP w0 cb o tt C ty fz i (nuV h (fun j => z (i + j)) i N (wps (fun j => z (i + j)) 0) v) (puW [(8, iN 0)] (nmA 400)))
      fun ex a w => ex = .exit 2 ∧ HP w0 cb o tt C ty fz i (nuV h (fun j => z (i + j)) i N (wps (fun j => z (i + j)) 64) v) (puW [] (nmA 400)) a w := by
  have key := Tri.loop (P := Tryd.prog) (N := 208) (x := pubW) (J := fun k a w => k ≤ 64 ∧ HP w0 cb o tt C ty fz i (nuV h (fun j => z (i + j)) i N (wps (fun j => z (i + j)) (64 - k)) v) (puW [(8, iN (64 - k))] (nmA 400)) a w)
    (Post := fun ex a w => ex = .exit 2 ∧ HP w0 cb o tt C ty fz i (nuV h (fun j => z (i + j)) i N (wps (fun j => z (i + j)) 64) v) (puW [] (nmA 400)) a w) 64 ?_ ?_
  · exact key.weak (fun a w h => ⟨Nat.le_refl _, h⟩) (fun _ _ _ h => h)
  · intro k c hc a w ⟨hk, hp⟩
    have e3 : 64 - k = 64 - (k + 1) + 1 := by omega
    have hg : puWgo (64 - (k + 1)) = true := List.all_eq_true.1 pu_goW _ (List.mem_range.2 (by omega))
    refine ((runP hg (none_f _)).weak (fun _ _ h => h) (fun ex a w hh => ?_)) c hc a w hp
    refine .inl ⟨hh.1, by omega, ?_⟩
    rw [e3]
    refine pu_ren (l' := [(8, iN (64 - (k + 1) + 1)), (6, sI 200), (7, .p 70 0)]) (H' := [wQ (nmA 400)]) hz hh.2 (by decide) (gW65 64 _ _ []) (gW67 64 _ _ []) (gW68 64 _ _ []) rfl rfl rfl rfl hi (fun j hj => by rw [nm0_val hj, nm0_val hj]) (fun j hj => nuV_w hj) (fun p hp => ⟨p.2, hp, ?_⟩) (fun p hp => ?_)
    · simp only [List.mem_cons, List.not_mem_nil, or_false] at hp
      rcases hp with rfl | rfl | rfl
      · exact .inl ⟨.int .i64 ((64 - (k + 1) + 1 : Nat) : Int), rfl, rfl⟩
      · exact .inl ⟨.int .i64 (i : Int), rfl, rfl⟩
      · exact .inr ⟨70, rfl, rfl, by decide, by decide⟩
    · simp only [List.mem_cons, List.not_mem_nil, or_false] at hp
      subst hp
      refine ⟨show gmax ≤ 70 by decide, show 70 < 71 by decide, show 70 ≠ 69 by decide, .u32, 64, eW, setA (nmA 400) (64 - (k + 1)) (wpA (64 - (k + 1))), nmA 400, gW70 64 _ _ [], rfl, eW_lt, fun j hj => ?_⟩
      refine Eq.trans ?_ (nuV_W hj).symm
      unfold setA
      show _ = if j = 64 - (k + 1) then _ else _
      by_cases hq : j = 64 - (k + 1)
      · rw [if_pos hq, if_pos (by rw [hq]; exact Nat.beq_refl _)]
        exact wpA_val (by omega)
      · rw [if_neg hq, if_neg (fun h => hq (Nat.eq_of_beq_eq_true h))]
        exact nuV_W hj
  · refine (runP (s := puW [(8, iN 64)] (nmA 400)) pu_goWe (none_f _)).weak (fun a w h => h.2) (fun ex a w h => ⟨by rw [h.1]; simp, h.1, h.2⟩)
/-- The words at work. -/
theorem pu_loopV (hz : ∀ j, j < N → C[o + j]? = some (.int .u8 (z j))) {h W : Wd} {i : Nat} (hi : i + 64 ≤ N) :
    Tri Tryd.prog 208 (.loop pubV) (HP w0 cb o tt C ty fz i (nuV h (fun j => z (i + j)) i N W (vst p256 K256 W h 0)) (puV [(13, iN 0)] (nmA 500)))
      fun ex a w => ex = .exit 6 ∧ HP w0 cb o tt C ty fz i (nuV h (fun j => z (i + j)) i N W (vst p256 K256 W h 64)) (puV [] (nmA 500)) a w := by
  have key := Tri.loop (P := Tryd.prog) (N := 208) (x := pubV) (J := fun k a w => k ≤ 64 ∧ HP w0 cb o tt C ty fz i (nuV h (fun j => z (i + j)) i N W (vst p256 K256 W h (64 - k))) (puV [(13, iN (64 - k))] (nmA 500)) a w)
    (Post := fun ex a w => ex = .exit 6 ∧ HP w0 cb o tt C ty fz i (nuV h (fun j => z (i + j)) i N W (vst p256 K256 W h 64)) (puV [] (nmA 500)) a w) 64 ?_ ?_
  · exact key.weak (fun a w h => ⟨Nat.le_refl _, h⟩) (fun _ _ _ h => h)
  · intro k c hc a w ⟨hk, hp⟩
    have e3 : 64 - k = 64 - (k + 1) + 1 := by omega
    have hg : puVgo (64 - (k + 1)) = true := List.all_eq_true.1 pu_goV _ (List.mem_range.2 (by omega))
    refine ((runP hg (none_f _)).weak (fun _ _ h => h) (fun ex a w hh => ?_)) c hc a w hp
    refine .inl ⟨hh.1, by omega, ?_⟩
    rw [e3]
    refine pu_ren (l' := [(13, iN (64 - (k + 1) + 1)), (6, sI 200), (7, .p 70 0), (12, .p 71 0)]) (H' := [wQ (nmA 400), vQ (nmA 500)]) hz hh.2 (by decide) (gV65 64 _ _ _ []) (gV67 64 _ _ _ []) (gV68 64 _ _ _ []) rfl rfl rfl rfl hi (fun j hj => by rw [nm0_val hj, nm0_val hj]) (fun j hj => nuV_w hj) (fun p hp => ⟨p.2, hp, ?_⟩) (fun p hp => ?_)
    · simp only [List.mem_cons, List.not_mem_nil, or_false] at hp
      rcases hp with rfl | rfl | rfl | rfl
      · exact .inl ⟨.int .i64 ((64 - (k + 1) + 1 : Nat) : Int), rfl, rfl⟩
      · exact .inl ⟨.int .i64 (i : Int), rfl, rfl⟩
      · exact .inr ⟨70, rfl, rfl, by decide, by decide⟩
      · exact .inr ⟨71, rfl, rfl, by decide, by decide⟩
    · simp only [List.mem_cons, List.not_mem_nil, or_false] at hp
      rcases hp with rfl | rfl
      · exact ⟨show gmax ≤ 70 by decide, show 70 < 72 by decide, show 70 ≠ 69 by decide, .u32, 64, eW, nmA 400, nmA 400, gV70 64 _ _ _ [], rfl, eW_lt, fun j hj => (nuV_W hj).trans (nuV_W hj).symm⟩
      · refine ⟨show gmax ≤ 71 by decide, show 71 < 72 by decide, show 71 ≠ 69 by decide, .u32, 8, eV, rdA p256 (kA (64 - (k + 1))) (400 + (64 - (k + 1))) 500, nmA 500, gV71 64 _ _ _ [], rfl, by decide, fun j hj => ?_⟩
        exact (rdP_val _ (by omega) j).trans (nuV_v j).symm
  · refine (runP (s := puV [(13, iN 64)] (nmA 500)) pu_goVe (none_f _)).weak (fun a w h => h.2) (fun ex a w h => ⟨by rw [h.1]; simp, h.1, h.2⟩)
/-- A round: a block more. -/
theorem pu_round (hz : ∀ j, j < N → C[o + j]? = some (.int .u8 (z j))) (hb : Bytes z N) {h W0 v0 : Wd} {i wd' : Nat} (hi : i + 64 + wd' ≤ N) (hw' : wd' ≤ 64) (hN : N < 1000000000000) (W1 v1 : Wd) :
    Tri Tryd.prog 208 (.seq puR1 (.seq (.block 1 (.seq pubA (.seq (.seq pubB (.block 2 (.loop pubW))) (.seq pubC (.seq (.seq pubD (.block 6 (.loop pubV))) pubE))))) puRi))
      (HP w0 cb o tt C ty fz i (nuV h (fun j => z (i + j)) i N W0 v0) (puN 64 (nmA 0) [(6, sI 200)] [] 70))
      fun ex a w => ex = .normal ∧ HP w0 cb o tt C ty fz (i + 64) (nuV (cp256 (fun j => z (i + j)) h) (fun j => z (i + 64 + j)) ((i + 64 : Nat) : Int) N W1 v1) (puN wd' (nmA 0) [(6, sI 200)] [] 70) a w := by
  have hi1 : i + 64 ≤ N := by omega
  have hF : (fQ true).Hold (nuV h (fun j => z (i + j)) i N W0 v0) := by
    refine ⟨fun p hp => (by cases hp), fun p hp => ?_, fun p hp => by cases hp⟩
    simp only [fQ, List.mem_cons, List.not_mem_nil, or_false] at hp
    subst hp
    exact decide_eq_true (show (i : Int) < (N : Int) by omega)
  refine seqN (runP pu_goR1 hF) (seqN (Mid := HP w0 cb o tt C ty fz i (nuV h (fun j => z (i + j)) i N (wps (fun j => z (i + j)) 64) (vst p256 K256 (wps (fun j => z (i + j)) 64) h 64)) puX) ?_ ?_)
  · refine Tri.block (Mid := fun ex a w => ex = .normal ∧ HP w0 cb o tt C ty fz i (nuV h (fun j => z (i + j)) i N (wps (fun j => z (i + j)) 64) (vst p256 K256 (wps (fun j => z (i + j)) 64) h 64)) puX a w) ?_ (fun a w h => h) (fun a w h => by cases h.1) (fun j a w hj h => by cases h.1) (fun a w h => by cases h.1)
    refine seqN (runP pu_gobA (none_f _)) (seqN (Mid := HP w0 cb o tt C ty fz i (nuV h (fun j => z (i + j)) i N (wps (fun j => z (i + j)) 64) v0) (puW [] (nmA 400))) ?_ (seqN (runP pu_gobC (none_f _)) (seqN (Mid := HP w0 cb o tt C ty fz i (nuV h (fun j => z (i + j)) i N (wps (fun j => z (i + j)) 64) (vst p256 K256 (wps (fun j => z (i + j)) 64) h 64)) (puV [] (nmA 500))) ?_ (runP pu_gobE (none_f _)))))
    · refine seqN (Mid := HP w0 cb o tt C ty fz i (nuV h (fun j => z (i + j)) i N (wps (fun j => z (i + j)) 0) v0) (puW [(8, iN 0)] (nmA 400))) ((runP pu_gobB (none_f _)).weak (fun _ _ h => h) fun ex a w hh => ⟨hh.1, ?_⟩) ?_
      · refine pu_ren (l' := [(8, iN 0), (6, sI 200), (7, .p 70 0)]) (H' := [wQ (nmA 400)]) hz hh.2 (by decide) (gW65 64 _ _ []) (gW67 64 _ _ []) (gW68 64 _ _ []) rfl rfl rfl rfl hi1 (fun j hj => by rw [nm0_val hj, nm0_val hj]) (fun j hj => nuV_w hj) (fun p hp => ⟨p.2, hp, ?_⟩) (fun p hp => ?_)
        · simp only [List.mem_cons, List.not_mem_nil, or_false] at hp
          rcases hp with rfl | rfl | rfl
          · exact .inl ⟨.int .i64 0, rfl, rfl⟩
          · exact .inl ⟨.int .i64 (i : Int), rfl, rfl⟩
          · exact .inr ⟨70, rfl, rfl, by decide, by decide⟩
        · simp only [List.mem_cons, List.not_mem_nil, or_false] at hp
          subst hp
          exact ⟨show gmax ≤ 70 by decide, show 70 < 71 by decide, show 70 ≠ 69 by decide, .u32, 64, eW, zeroA, nmA 400, gW70 64 _ _ [], rfl, eW_lt, fun j hj => by
            show (0 : Int) = nuV _ _ _ _ _ _ (400 + j)
            rw [nuV_W hj]
            rfl⟩
      · refine Tri.block (pu_loopW hz hi1) (fun a w h => by cases h.1) (fun a w h => ⟨rfl, h.2⟩) (fun j a w hj h => ?_) (fun a w h => by cases h.1)
        have := h.1
        simp only [Ex.exit.injEq] at this
        exact (hj this).elim
    · refine seqN (Mid := HP w0 cb o tt C ty fz i (nuV h (fun j => z (i + j)) i N (wps (fun j => z (i + j)) 64) (vst p256 K256 (wps (fun j => z (i + j)) 64) h 0)) (puV [(13, iN 0)] (nmA 500))) ((runP pu_gobD (none_f _)).weak (fun _ _ h => h) fun ex a w hh => ⟨hh.1, ?_⟩) ?_
      · refine pu_ren (l' := [(13, iN 0), (6, sI 200), (7, .p 70 0), (12, .p 71 0)]) (H' := [wQ (nmA 400), vQ (nmA 500)]) hz hh.2 (by decide) (gV65 64 _ _ _ []) (gV67 64 _ _ _ []) (gV68 64 _ _ _ []) rfl rfl rfl rfl hi1 (fun j hj => by rw [nm0_val hj, nm0_val hj]) (fun j hj => nuV_w hj) (fun p hp => ⟨p.2, hp, ?_⟩) (fun p hp => ?_)
        · simp only [List.mem_cons, List.not_mem_nil, or_false] at hp
          rcases hp with rfl | rfl | rfl | rfl
          · exact .inl ⟨.int .i64 0, rfl, rfl⟩
          · exact .inl ⟨.int .i64 (i : Int), rfl, rfl⟩
          · exact .inr ⟨70, rfl, rfl, by decide, by decide⟩
          · exact .inr ⟨71, rfl, rfl, by decide, by decide⟩
        · simp only [List.mem_cons, List.not_mem_nil, or_false] at hp
          rcases hp with rfl | rfl
          · exact ⟨show gmax ≤ 70 by decide, show 70 < 72 by decide, show 70 ≠ 69 by decide, .u32, 64, eW, nmA 400, nmA 400, gV70 64 _ _ _ [], rfl, eW_lt, fun j hj => (nuV_W hj).trans (nuV_W hj).symm⟩
          · exact ⟨show gmax ≤ 71 by decide, show 71 < 72 by decide, show 71 ≠ 69 by decide, .u32, 8, eV, nmA 0, nmA 500, gV71 64 _ _ _ [], rfl, by decide, fun j hj => (nm0_val hj).trans (nuV_v j).symm⟩
      · refine Tri.block (pu_loopV hz hi1) (fun a w h => by cases h.1) (fun a w h => ⟨rfl, h.2⟩) (fun j a w hj h => ?_) (fun a w h => by cases h.1)
        have := h.1
        simp only [Ex.exit.injEq] at this
        exact (hj this).elim
  · refine (runP pu_goRi (none_f _)).weak (fun _ _ h => h) fun ex a w hh => ⟨hh.1, ?_⟩
    refine pu_ren (i' := i + 64) (l' := [(6, sI 200)]) (H' := []) hz hh.2 (by decide) (gX65 64 _ []) (gX67 64 _ []) (gX68 64 _ []) rfl rfl rfl rfl (by omega) (fun j hj => ?_) (fun j hj => nuV_w (by omega)) (fun p hp => ?_) (fun p hp => by cases hp)
    · rw [nm0_val hj]
      show adI p256 ((nmA 0 j).val _) (nuV h _ i N _ _ (500 + j)) = cp256 _ _ j
      rw [nm0_val hj, nuV_v]
      have hby : Bytes (fun j => z (i + j)) 64 := fun j hj => hb (i + j) (by omega)
      show _ = comp p256 K256 (wst p256 (w0I fun j => z (i + j)) 48) h 64 j
      rw [← wps_all hby]
      rfl
    · simp only [List.mem_cons, List.not_mem_nil, or_false] at hp
      subst hp
      refine ⟨_, List.mem_cons_self, .inl ⟨.int .i64 ((i + 64 : Nat) : Int), ?_, rfl⟩⟩
      show some (Value.int .i64 (IntKind.i64.wrap ((i : Int) + ((64 : Nat) : Int)))) = _
      rw [i64_small (by omega) (by omega)]
      rfl
end
end Go.Proofs.YtjdcaipgfolgoaaDoor
