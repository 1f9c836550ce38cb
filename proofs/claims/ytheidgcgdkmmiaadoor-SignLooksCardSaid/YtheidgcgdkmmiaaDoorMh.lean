/-
 THE PAGE's side: Uf, Ug, Vf, Vg. Own work.
-/
import Derived.Test.YtheidgcgdkmmiaaDoorMg
namespace Go.Proofs.YtheidgcgdkmmiaaDoor
open Go.Sh
open Go.ChangeShapes Go.WideShapes Go.ChangeAt Go.RowKit
set_option maxRecDepth 100000
section
variable {w0 : World} {cb o N tt : Nat} {C : Array Value} {ty : TypeId} {fz : Nat × Nat} {z : Wd}
abbrev HP (w0 : World) (cb o tt : Nat) (C : Array Value) (ty : TypeId) (fz : Nat × Nat) (i : Nat) (ν : Nat → Int) (s : Now) (a : Act) (w : World) : Prop := HoldsX 208 w0 ν [] [] [(69, ⟨cb, o + i, tt⟩)] [(cb, .cells C ty fz)] s a w
end
theorem T1_L : pinL T1 = 4398046511104 := by decide
theorem T1_B (j : Nat) : pinB T1 j = 4398046511104 + (j + 1) := by
 show (qac + 4 - qac) * 1099511627776 + (j + 1) = _
 rw [Nat.add_sub_cancel_left]
theorem T1_K : pinK T1 = .u8 := by decide
def nuG (n : Nat) (z : Wd) (N : Nat) (p : Wd) : Nat → Int := fun k => if k < 4398046511104 then nuP n z k else if k = 4398046511104 then (N : Int) else p (k - 4398046511104 - 1)
section
variable {n N : Nat} {z p : Wd}
theorem nuG_L : nuG n z N p (pinL T1) = (N : Int) := by
 unfold nuG
 rw [T1_L, if_neg (by decide), if_pos rfl]
theorem nuG_B (j : Nat) : nuG n z N p (pinB T1 j) = p j := by
 unfold nuG
 rw [T1_B, if_neg (by omega), if_neg (by omega), show 4398046511104 + (j + 1) - 4398046511104 - 1 = j by omega]
theorem nuG_L0 : nuG n z N p (pinL T0) = (n : Int) := by
 unfold nuG
 rw [if_pos (by rw [T0_L]; decide)]
 exact nuP_L
theorem nuG_B0 {j : Nat} (h : j < 1000000000000) : nuG n z N p (pinB T0 j) = z j := by
 unfold nuG
 rw [if_pos (by rw [T0_B]; omega)]
 exact nuP_B h
end
theorem Tri.pre {P : Program} {N : Nat} {ic : IC} {q : Prop} {Pre : Act → World → Prop} {Post : Ex → Act → World → Prop} (h : q → Tri P N ic Pre Post) : Tri P N ic (fun a w => q ∧ Pre a w) Post :=
 fun c hc a w ⟨i, hp⟩ => h i c hc a w hp
section
variable {w0 : World} {cb o N tt : Nat} {C : Array Value} {ty : TypeId} {fz : Nat × Nat} {z : Wd}
theorem runPQ {ic : IC} {s s' : Now} {ex : Ex} {d fuel : Nat} {F : Facts} {ν : Nat → Int} {L fx : List (Nat × Pl)} {kp : List (Nat × Obj)} (h : qaF F tree [] [] [] [] [] fuel d ic s ex s' = true) (hF : F.Hold ν) : Tri Tryd.prog 208 ic (HoldsX 208 w0 ν [] L fx kp s) fun ex' a w => ex' = ex ∧ HoldsX 208 w0 ν [] L fx kp s' a w :=
 Tri.runX hF qak qaf qbG (fun r hr => by cases hr) (fun r hr => by cases hr) (fun r hr => by cases hr) (fun r hr => by cases hr) h
theorem pu_loopWQ (hz : ∀ j, j < N → C[o + j]? = some (.int .u8 (z j))) {h v : Wd} {i : Nat} (hi : i + 128 ≤ N) :
  Tri Tryd.prog 208 (.loop pubWQ) (HP w0 cb o tt C ty fz i (nuVQ h (fun j => z (i + j)) i N (wpsQ (fun j => z (i + j)) 0) v) (puWQ [(8, iN 0)] (nmA 400)))
   fun ex a w => ex = .exit 2 ∧ HP w0 cb o tt C ty fz i (nuVQ h (fun j => z (i + j)) i N (wpsQ (fun j => z (i + j)) 80) v) (puWQ [] (nmA 400)) a w := by
 have key := Tri.loop (P := Tryd.prog) (N := 208) (x := pubWQ) (J := fun k a w => k ≤ 80 ∧ HP w0 cb o tt C ty fz i (nuVQ h (fun j => z (i + j)) i N (wpsQ (fun j => z (i + j)) (80 - k)) v) (puWQ [(8, iN (80 - k))] (nmA 400)) a w)
  (Post := fun ex a w => ex = .exit 2 ∧ HP w0 cb o tt C ty fz i (nuVQ h (fun j => z (i + j)) i N (wpsQ (fun j => z (i + j)) 80) v) (puWQ [] (nmA 400)) a w) 80 ?_ ?_
 ·exact key.weak (fun a w h => ⟨Nat.le_refl _, h⟩) (fun _ _ _ h => h)
 ·intro k c hc a w ⟨hk, hp⟩
  have e3 : 80 - k = 80 - (k + 1) + 1 := by omega
  have hg : puWgoQ (80 - (k + 1)) = true := List.all_eq_true.1 pu_goWQ _ (List.mem_range.2 (by omega))
  refine ((runPQ hg (qaP _)).weak (fun _ _ h => h) (fun ex a w hh => ?_)) c hc a w hp
  refine .inl ⟨hh.1, by omega, ?_⟩
  rw [e3]
  refine pu_renQ (l' := [(8, iN (80 - (k + 1) + 1)), (6, sI 200), (7, .p 70 0)]) (H' := [wQQ (nmA 400)]) hz hh.2 (by decide) (gW65Q 128 _ _ []) (gW67Q 128 _ _ []) (gW68Q 128 _ _ []) rfl rfl rfl rfl hi (fun j hj => by rw [qbf hj, qbf hj]) (fun j hj => nuV_wQ hj) (fun p hp => ⟨p.2, hp, ?_⟩) (fun p hp => ?_)
  ·simp only [List.mem_cons, List.not_mem_nil, or_false] at hp
   rcases hp with rfl | rfl | rfl
   ·exact .inl ⟨.int .i64 ((80 - (k + 1) + 1 : Nat) : Int), rfl, rfl⟩
   ·exact .inl ⟨.int .i64 (i : Int), rfl, rfl⟩
   ·exact .inr ⟨70, rfl, rfl, by decide, by decide⟩
  ·simp only [List.mem_cons, List.not_mem_nil, or_false] at hp
   subst hp
   refine ⟨show gmax ≤ 70 by decide, show 70 < 71 by decide, show 70 ≠ 69 by decide, .u64, 80, eWQ, setA (nmA 400) (80 - (k + 1)) (wpAQ (80 - (k + 1))), nmA 400, gW70Q 128 _ _ [], rfl, eW_ltQ, fun j hj => ?_⟩
   refine Eq.trans ?_ (nuV_WQ hj).symm
   unfold setA
   show _ = if j = 80 - (k + 1) then _ else _
   by_cases hq : j = 80 - (k + 1)
   ·rw [if_pos hq, if_pos (by rw [hq]; exact Nat.beq_refl _)]
    exact wpA_valQ (by omega)
   ·rw [if_neg hq, if_neg (fun h => hq (Nat.eq_of_beq_eq_true h))]
    exact nuV_WQ hj
 ·refine (runPQ (s := puWQ [(8, iN 80)] (nmA 400)) pu_goWeQ (qaP _)).weak (fun a w h => h.2) (fun ex a w h => ⟨by rw [h.1]; simp, h.1, h.2⟩)
theorem pu_loopVQ (hz : ∀ j, j < N → C[o + j]? = some (.int .u8 (z j))) {h W : Wd} {i : Nat} (hi : i + 128 ≤ N) :
  Tri Tryd.prog 208 (.loop pubVQ) (HP w0 cb o tt C ty fz i (nuVQ h (fun j => z (i + j)) i N W (vst p512 K256Q W h 0)) (puVQ [(13, iN 0)] (nmA 500)))
   fun ex a w => ex = .exit 6 ∧ HP w0 cb o tt C ty fz i (nuVQ h (fun j => z (i + j)) i N W (vst p512 K256Q W h 80)) (puVQ [] (nmA 500)) a w := by
 have key := Tri.loop (P := Tryd.prog) (N := 208) (x := pubVQ) (J := fun k a w => k ≤ 80 ∧ HP w0 cb o tt C ty fz i (nuVQ h (fun j => z (i + j)) i N W (vst p512 K256Q W h (80 - k))) (puVQ [(13, iN (80 - k))] (nmA 500)) a w)
  (Post := fun ex a w => ex = .exit 6 ∧ HP w0 cb o tt C ty fz i (nuVQ h (fun j => z (i + j)) i N W (vst p512 K256Q W h 80)) (puVQ [] (nmA 500)) a w) 80 ?_ ?_
 ·exact key.weak (fun a w h => ⟨Nat.le_refl _, h⟩) (fun _ _ _ h => h)
 ·intro k c hc a w ⟨hk, hp⟩
  have e3 : 80 - k = 80 - (k + 1) + 1 := by omega
  have hg : puVgoQ (80 - (k + 1)) = true := List.all_eq_true.1 pu_goVQ _ (List.mem_range.2 (by omega))
  refine ((runPQ hg (qaP _)).weak (fun _ _ h => h) (fun ex a w hh => ?_)) c hc a w hp
  refine .inl ⟨hh.1, by omega, ?_⟩
  rw [e3]
  refine pu_renQ (l' := [(13, iN (80 - (k + 1) + 1)), (6, sI 200), (7, .p 70 0), (12, .p 71 0)]) (H' := [wQQ (nmA 400), vQQ (nmA 500)]) hz hh.2 (by decide) (gV65Q 128 _ _ _ []) (gV67Q 128 _ _ _ []) (gV68Q 128 _ _ _ []) rfl rfl rfl rfl hi (fun j hj => by rw [qbf hj, qbf hj]) (fun j hj => nuV_wQ hj) (fun p hp => ⟨p.2, hp, ?_⟩) (fun p hp => ?_)
  ·simp only [List.mem_cons, List.not_mem_nil, or_false] at hp
   rcases hp with rfl | rfl | rfl | rfl
   ·exact .inl ⟨.int .i64 ((80 - (k + 1) + 1 : Nat) : Int), rfl, rfl⟩
   ·exact .inl ⟨.int .i64 (i : Int), rfl, rfl⟩
   ·exact .inr ⟨70, rfl, rfl, by decide, by decide⟩
   ·exact .inr ⟨71, rfl, rfl, by decide, by decide⟩
  ·simp only [List.mem_cons, List.not_mem_nil, or_false] at hp
   rcases hp with rfl | rfl
   ·exact ⟨show gmax ≤ 70 by decide, show 70 < 72 by decide, show 70 ≠ 69 by decide, .u64, 80, eWQ, nmA 400, nmA 400, gV70Q 128 _ _ _ [], rfl, eW_ltQ, fun j hj => (nuV_WQ hj).trans (nuV_WQ hj).symm⟩
   ·refine ⟨show gmax ≤ 71 by decide, show 71 < 72 by decide, show 71 ≠ 69 by decide, .u64, 8, eVQ, rdAS p512 (kAQ (80 - (k + 1))) (400 + (80 - (k + 1))) 500, nmA 500, gV71Q 128 _ _ _ [], rfl, by decide, fun j hj => ?_⟩
    exact (rdP_valQ _ (by omega) j).trans (nuV_vQ j).symm
 ·refine (runPQ (s := puVQ [(13, iN 80)] (nmA 500)) pu_goVeQ (qaP _)).weak (fun a w h => h.2) (fun ex a w h => ⟨by rw [h.1]; simp, h.1, h.2⟩)
theorem pu_roundQ (hz : ∀ j, j < N → C[o + j]? = some (.int .u8 (z j))) (hb : Bytes z N) {h W0 v0 : Wd} {i wd' : Nat} (hi : i + 128 + wd' ≤ N) (hw' : wd' ≤ 128) (hN : N < 1000000000000) (W1 v1 : Wd) :
  Tri Tryd.prog 208 (.seq puR1Q (.seq (.block 1 (.seq pubAQ (.seq (.seq pubBQ (.block 2 (.loop pubWQ))) (.seq pubCQ (.seq (.seq pubDQ (.block 6 (.loop pubVQ))) pubEQ))))) puRiQ))
   (HP w0 cb o tt C ty fz i (nuVQ h (fun j => z (i + j)) i N W0 v0) (puNQ 128 (nmA 0) [(6, sI 200)] [] 70))
   fun ex a w => ex = .normal ∧ HP w0 cb o tt C ty fz (i + 128) (nuVQ (qbH (fun j => z (i + j)) h) (fun j => z (i + 128 + j)) ((i + 128 : Nat) : Int) N W1 v1) (puNQ wd' (nmA 0) [(6, sI 200)] [] 70) a w := by
 have hi1 : i + 128 ≤ N := by omega
 have hF : (fQQ true).Hold (nuVQ h (fun j => z (i + j)) i N W0 v0) := by
  refine ⟨fun p hp => (by cases hp), fun p hp => ?_, fun p hp => by cases hp⟩
  simp only [fQQ, List.mem_cons, List.not_mem_nil, or_false] at hp
  subst hp
  exact decide_eq_true (show (i : Int) < (N : Int) by omega)
 refine seqN (runPQ pu_goR1Q hF) (seqN (Mid := HP w0 cb o tt C ty fz i (nuVQ h (fun j => z (i + j)) i N (wpsQ (fun j => z (i + j)) 80) (vst p512 K256Q (wpsQ (fun j => z (i + j)) 80) h 80)) puXQ) ?_ ?_)
 ·refine Tri.block (Mid := fun ex a w => ex = .normal ∧ HP w0 cb o tt C ty fz i (nuVQ h (fun j => z (i + j)) i N (wpsQ (fun j => z (i + j)) 80) (vst p512 K256Q (wpsQ (fun j => z (i + j)) 80) h 80)) puXQ a w) ?_ (fun a w h => h) (fun a w h => by cases h.1) (fun j a w hj h => by cases h.1) (fun a w h => by cases h.1)
  refine seqN (runPQ pu_gobAQ (qaP _)) (seqN (Mid := HP w0 cb o tt C ty fz i (nuVQ h (fun j => z (i + j)) i N (wpsQ (fun j => z (i + j)) 80) v0) (puWQ [] (nmA 400))) ?_ (seqN (runPQ pu_gobCQ (qaP _)) (seqN (Mid := HP w0 cb o tt C ty fz i (nuVQ h (fun j => z (i + j)) i N (wpsQ (fun j => z (i + j)) 80) (vst p512 K256Q (wpsQ (fun j => z (i + j)) 80) h 80)) (puVQ [] (nmA 500))) ?_ (runPQ pu_gobEQ (qaP _)))))
  ·refine seqN (Mid := HP w0 cb o tt C ty fz i (nuVQ h (fun j => z (i + j)) i N (wpsQ (fun j => z (i + j)) 0) v0) (puWQ [(8, iN 0)] (nmA 400))) ((runPQ pu_gobBQ (qaP _)).weak (fun _ _ h => h) fun ex a w hh => ⟨hh.1, ?_⟩) ?_
   ·refine pu_renQ (l' := [(8, iN 0), (6, sI 200), (7, .p 70 0)]) (H' := [wQQ (nmA 400)]) hz hh.2 (by decide) (gW65Q 128 _ _ []) (gW67Q 128 _ _ []) (gW68Q 128 _ _ []) rfl rfl rfl rfl hi1 (fun j hj => by rw [qbf hj, qbf hj]) (fun j hj => nuV_wQ hj) (fun p hp => ⟨p.2, hp, ?_⟩) (fun p hp => ?_)
    ·simp only [List.mem_cons, List.not_mem_nil, or_false] at hp
     rcases hp with rfl | rfl | rfl
     ·exact .inl ⟨.int .i64 0, rfl, rfl⟩
     ·exact .inl ⟨.int .i64 (i : Int), rfl, rfl⟩
     ·exact .inr ⟨70, rfl, rfl, by decide, by decide⟩
    ·simp only [List.mem_cons, List.not_mem_nil, or_false] at hp
     subst hp
     exact ⟨show gmax ≤ 70 by decide, show 70 < 71 by decide, show 70 ≠ 69 by decide, .u64, 80, eWQ, zeroA, nmA 400, gW70Q 128 _ _ [], rfl, eW_ltQ, fun j hj => by
      show (0 : Int) = nuVQ _ _ _ _ _ _ (400 + j)
      rw [nuV_WQ hj]
      rfl⟩
   ·refine Tri.block (pu_loopWQ hz hi1) (fun a w h => by cases h.1) (fun a w h => ⟨rfl, h.2⟩) (fun j a w hj h => ?_) (fun a w h => by cases h.1)
    have := h.1
    simp only [Ex.exit.injEq] at this
    exact (hj this).elim
  ·refine seqN (Mid := HP w0 cb o tt C ty fz i (nuVQ h (fun j => z (i + j)) i N (wpsQ (fun j => z (i + j)) 80) (vst p512 K256Q (wpsQ (fun j => z (i + j)) 80) h 0)) (puVQ [(13, iN 0)] (nmA 500))) ((runPQ pu_gobDQ (qaP _)).weak (fun _ _ h => h) fun ex a w hh => ⟨hh.1, ?_⟩) ?_
   ·refine pu_renQ (l' := [(13, iN 0), (6, sI 200), (7, .p 70 0), (12, .p 71 0)]) (H' := [wQQ (nmA 400), vQQ (nmA 500)]) hz hh.2 (by decide) (gV65Q 128 _ _ _ []) (gV67Q 128 _ _ _ []) (gV68Q 128 _ _ _ []) rfl rfl rfl rfl hi1 (fun j hj => by rw [qbf hj, qbf hj]) (fun j hj => nuV_wQ hj) (fun p hp => ⟨p.2, hp, ?_⟩) (fun p hp => ?_)
    ·simp only [List.mem_cons, List.not_mem_nil, or_false] at hp
     rcases hp with rfl | rfl | rfl | rfl
     ·exact .inl ⟨.int .i64 0, rfl, rfl⟩
     ·exact .inl ⟨.int .i64 (i : Int), rfl, rfl⟩
     ·exact .inr ⟨70, rfl, rfl, by decide, by decide⟩
     ·exact .inr ⟨71, rfl, rfl, by decide, by decide⟩
    ·simp only [List.mem_cons, List.not_mem_nil, or_false] at hp
     rcases hp with rfl | rfl
     ·exact ⟨show gmax ≤ 70 by decide, show 70 < 72 by decide, show 70 ≠ 69 by decide, .u64, 80, eWQ, nmA 400, nmA 400, gV70Q 128 _ _ _ [], rfl, eW_ltQ, fun j hj => (nuV_WQ hj).trans (nuV_WQ hj).symm⟩
     ·exact ⟨show gmax ≤ 71 by decide, show 71 < 72 by decide, show 71 ≠ 69 by decide, .u64, 8, eVQ, nmA 0, nmA 500, gV71Q 128 _ _ _ [], rfl, by decide, fun j hj => (qbf hj).trans (nuV_vQ j).symm⟩
   ·refine Tri.block (pu_loopVQ hz hi1) (fun a w h => by cases h.1) (fun a w h => ⟨rfl, h.2⟩) (fun j a w hj h => ?_) (fun a w h => by cases h.1)
    have := h.1
    simp only [Ex.exit.injEq] at this
    exact (hj this).elim
 ·refine (runPQ pu_goRiQ (qaP _)).weak (fun _ _ h => h) fun ex a w hh => ⟨hh.1, ?_⟩
  refine pu_renQ (i' := i + 128) (l' := [(6, sI 200)]) (H' := []) hz hh.2 (by decide) (gX65Q 128 _ []) (gX67Q 128 _ []) (gX68Q 128 _ []) rfl rfl rfl rfl (by omega) (fun j hj => ?_) (fun j hj => nuV_wQ (by omega)) (fun p hp => ?_) (fun p hp => by cases hp)
  ·rw [qbf hj]
   show adI p512 ((nmA 0 j).val _) (nuVQ h _ i N _ _ (500 + j)) = qbH _ _ j
   rw [qbf hj, nuV_vQ]
   have hby : Bytes (fun j => z (i + j)) 128 := fun j hj => hb (i + j) (by omega)
   show _ = comp p512 K256Q (wst p512 (w0IQ fun j => z (i + j)) 64) h 80 j
   rw [← wps_allQ hby]
   rfl
  ·simp only [List.mem_cons, List.not_mem_nil, or_false] at hp
   subst hp
   refine ⟨_, List.mem_cons_self, .inl ⟨.int .i64 ((i + 128 : Nat) : Int), ?_, rfl⟩⟩
   show some (Value.int .i64 (IntKind.i64.wrap ((i : Int) + ((128 : Nat) : Int)))) = _
   rw [i64_small (by omega) (by omega)]
   rfl
end
theorem pd_bytesQ {z : Wd} {n : Nat} (hb : Bytes z n) : Bytes (qaq z n) (qao n) := by
 intro j _
 by_cases h1 : j < n
 ·rw [pd_ltQ h1]
  exact hb j h1
 ·by_cases h2 : j = n
  ·exact ⟨128, pd_eqQ h2, by decide⟩
  ·by_cases h3 : j < qao n - 16
   ·exact ⟨0, pd_midQ (by omega) h3, by decide⟩
   ·exact ⟨_, pd_endQ (by omega) (by omega), Nat.mod_lt _ (by decide)⟩
theorem tot_mulQ (n : Nat) : qao n = 128 * (qao n / 128) := by unfold qao; omega
theorem rowP_okQ {n : Nat} {z : Wd} {x : AV} {need : Gl} (hn : n < 1000000000000) (hx : ∀ ρ w u, NeedOk (nuG n z (qao n) (qaq z n)) ρ w need → VR (nuG n z (qao n) (qaq z n)) ρ x u → TextAt w u n z) : (rowPQ x need).Ok (nuG n z (qao n) (qaq z n)) Tryd.prog [] := by
 refine ⟨⟨_, Tryd.func56, by kernel_rfl, by kernel_rfl⟩, fun ρ w vs hw hnd hl => ?_⟩
 have hlen : vs.size = 3 := by rw [← hl.1]; rfl
 obtain ⟨u, s, t, rfl⟩ : ∃ u s t, vs = #[u, s, t] := by
  match vs, hlen with
  | ⟨[u, s, t]⟩, _ => exact ⟨u, s, t, rfl⟩
 have hu := hl.2 0 _ u rfl rfl
 have hs := hl.2 1 _ s rfl rfl
 have ht := hl.2 2 _ t rfl rfl
 cases hs
 cases ht
 refine (padded_okQ (hx ρ w u hnd hu) hn).2.mono fun e w' ⟨r, he, ⟨cb, o, c, hr, hc, hcb, C, ty, fz, hC, hz⟩, hBQ⟩ => ⟨[r], he, ⟨⟨⟨by decide, by decide⟩, cb, o, qao n, c, hr, hc, nuG_L, hcb, C, ty, fz, hC, fun j hj => ?_⟩, trivial⟩, hBQ⟩
 rw [nuG_L] at hj
 rw [T1_K, nuG_B]
 exact hz j (by omega)
def wdPQ (k : Nat) : Nat := if k = 0 then 0 else 128
theorem pu_loopQ {w0 : World} {cb o tt : Nat} {C : Array Value} {ty : TypeId} {fz : Nat × Nat} {p : Wd} {N B : Nat} (hz : ∀ j, j < N → C[o + j]? = some (.int .u8 (p j))) (hb : Bytes p N) (hBQ : N = 128 * B) (hN : N < 1000000000000) (W v : Wd) :
  Tri Tryd.prog 208 (.loop (.seq puR1Q (.seq (.block 1 (.seq pubAQ (.seq (.seq pubBQ (.block 2 (.loop pubWQ))) (.seq pubCQ (.seq (.seq pubDQ (.block 6 (.loop pubVQ))) pubEQ))))) puRiQ)))
   (fun a w => ∀ W v, HP w0 cb o tt C ty fz 0 (nuVQ (qaR p 0) (fun j => p (0 + j)) ((0 : Nat) : Int) N W v) (puNQ (wdPQ B) (nmA 0) [(6, sI 200)] [] 70) a w)
   fun ex a w => ex = .exit 0 ∧ HP w0 cb o tt C ty fz (128 * B) (nuVQ (qaR p B) (fun j => p (128 * B + j)) ((128 * B : Nat) : Int) N W v) (puNQ 0 (nmA 0) [] [] 70) a w := by
 have key := Tri.loop (P := Tryd.prog) (N := 208) (x := .seq puR1Q (.seq (.block 1 (.seq pubAQ (.seq (.seq pubBQ (.block 2 (.loop pubWQ))) (.seq pubCQ (.seq (.seq pubDQ (.block 6 (.loop pubVQ))) pubEQ))))) puRiQ))
  (J := fun k a w => k ≤ B ∧ ∀ W v, HP w0 cb o tt C ty fz (128 * (B - k)) (nuVQ (qaR p (B - k)) (fun j => p (128 * (B - k) + j)) ((128 * (B - k) : Nat) : Int) N W v) (puNQ (wdPQ k) (nmA 0) [(6, sI 200)] [] 70) a w)
  (Post := fun ex a w => ex = .exit 0 ∧ HP w0 cb o tt C ty fz (128 * B) (nuVQ (qaR p B) (fun j => p (128 * B + j)) ((128 * B : Nat) : Int) N W v) (puNQ 0 (nmA 0) [] [] 70) a w) B ?_ ?_
 ·exact key.weak (fun a w h => ⟨Nat.le_refl _, fun W v => by rw [Nat.sub_self, Nat.mul_zero]; exact h W v⟩) (fun _ _ _ h => h)
 ·intro k c hc a w ⟨hk, hp⟩
  have e1 : wdPQ (k + 1) = 128 := if_neg (by omega)
  have hp := hp W v
  rw [e1] at hp
  have e2 : B - k = B - (k + 1) + 1 := by omega
  generalize hkk : B - (k + 1) = k' at hp
  rw [hkk] at e2
  have hwd : wdPQ k ≤ 128 := by unfold wdPQ; split <;> omega
  have hfit : 128 * k' + 128 + wdPQ k ≤ N := by unfold wdPQ; split <;> omega
  have rnd := fun W1 v1 => pu_roundQ (w0 := w0) (cb := cb) (tt := tt) (ty := ty) (fz := fz) hz hb (h := qaR p k') (W0 := W) (v0 := v) hfit hwd hN W1 v1
  -- for all names at once
  have all : Tri Tryd.prog 208 (.seq puR1Q (.seq (.block 1 (.seq pubAQ (.seq (.seq pubBQ (.block 2 (.loop pubWQ))) (.seq pubCQ (.seq (.seq pubDQ (.block 6 (.loop pubVQ))) pubEQ))))) puRiQ))
    (HP w0 cb o tt C ty fz (128 * k') (nuVQ (qaR p k') (fun j => p (128 * k' + j)) ((128 * k' : Nat) : Int) N W v) (puNQ 128 (nmA 0) [(6, sI 200)] [] 70))
    fun ex a w => ex = .normal ∧ ∀ W1 v1, HP w0 cb o tt C ty fz (128 * k' + 128) (nuVQ (qbH (fun j => p (128 * k' + j)) (qaR p k')) (fun j => p (128 * k' + 128 + j)) ((128 * k' + 128 : Nat) : Int) N W1 v1) (puNQ (wdPQ k) (nmA 0) [(6, sI 200)] [] 70) a w := by
   refine (rnd (fun _ => 0) (fun _ => 0)).weak (fun _ _ h => h) fun ex a w hh => ⟨hh.1, fun W1 v1 => ?_⟩
   refine pu_renQ (l' := [(6, sI 200)]) (H' := []) hz hh.2 (by decide) (gN65Q _ _ []) (gN67Q _ _ []) (gN68Q _ _ []) rfl rfl rfl rfl hfit (fun j hj => by rw [qbf hj, qbf hj]) (fun j hj => nuV_wQ (by omega)) (fun q hq => ⟨q.2, hq, ?_⟩) (fun q hq => by cases hq)
   simp only [List.mem_cons, List.not_mem_nil, or_false] at hq
   subst hq
   exact .inl ⟨.int .i64 ((128 * k' + 128 : Nat) : Int), rfl, rfl⟩
  refine (all.weak (fun _ _ h => h) fun ex a w hh => .inl ⟨hh.1, by omega, ?_⟩) c hc a w hp
  rw [e2]
  have e3 : 128 * (k' + 1) = 128 * k' + 128 := by omega
  rw [e3]
  exact hh.2
 ·intro c hc a w ⟨_, hp⟩
  have hp := hp W v
  have e1 : wdPQ 0 = 0 := if_pos rfl
  rw [e1, Nat.sub_zero] at hp
  have hF : (fQQ false).Hold (nuVQ (qaR p B) (fun j => p (128 * B + j)) ((128 * B : Nat) : Int) N W v) := by
   refine ⟨fun q hq => (by cases hq), fun q hq => ?_, fun q hq => by cases hq⟩
   simp only [fQQ, List.mem_cons, List.not_mem_nil, or_false] at hq
   subst hq
   exact decide_eq_false (show ¬ ((128 * B : Nat) : Int) < (N : Int) by omega)
  have hT := Tri.seq (y := .seq (.block 1 (.seq pubAQ (.seq (.seq pubBQ (.block 2 (.loop pubWQ))) (.seq pubCQ (.seq (.seq pubDQ (.block 6 (.loop pubVQ))) pubEQ))))) puRiQ) (Post := fun ex a w => ex ≠ .normal ∧ ex = .exit 0 ∧ HP w0 cb o tt C ty fz (128 * B) (nuVQ (qaR p B) (fun j => p (128 * B + j)) ((128 * B : Nat) : Int) N W v) (puNQ 0 (nmA 0) [] [] 70) a w)
   (runPQ (w0 := w0) (L := []) (fx := [(69, ⟨cb, o + 128 * B, tt⟩)]) (kp := [(cb, .cells C ty fz)]) pu_goReQ hF) (fun c hc a w h => by cases h.1) (fun ex a w hne h => ⟨hne, h.1, h.2⟩)
  exact hT c hc a w hp
theorem outP_valQ {ν : Nat → Int} {h : Wd} (hh : ∀ j, j < 8 → ν j = h j) : qag ν (.ag (rowC .u8 outPQ 64)) = some (aggI .u8 64 (out256Q h)) := by
 rw [conc2_row]
 refine congrArg some (aggI_congr fun j hj => ?_)
 show IntKind.u8.wrap (qaj .shr .u64 (ν (j / 8)) ((56 - 8 * (j % 8) : Nat) : Int)) = _
 rw [hh _ (by omega)]
 rfl
theorem puZ_resQ : resA (trL puZQ.e) (qam (puZQ.H ++ []) puZQ.n) [.c 2 (some 64)] = some (.ag (rowC .u8 outPQ 64)) := by kernel_rfl
theorem PSum256_okQ {w : World} {v : Value} {n : Nat} {z : Wd} (hv : TextAt w v n z) (hb : Bytes z n) (hn : n < 100000000000) :
  (∃ fn, Tryd.prog.funcs[28]? = some fn ∧ fn.body.isSome = true ∧ (fn.name == "runtime.NumGoroutine") = false) ∧
  Calls Tryd.prog 28 #[v] w fun e w' => e = .returned (aggI .u8 64 (qbd z n)) ∧ Below w.heap.size w w' := by
 have below : ∀ {w' : World}, BelowL [] w w' → Below w.heap.size w w' := fun hBQ => ⟨hBQ.os, hBQ.tape, hBQ.output, hBQ.size, fun k hk => hBQ.block k hk fun p hp => by cases hp⟩
 have htot := tot_mulQ n
 have hN : qao n < 1000000000000 := by unfold qao; omega
 have hB1 : 0 < qao n / 128 := by rw [tot_divQ]; omega
 generalize hBe : qao n / 128 = B at htot hB1
 -- from the text on
 have go : ∀ (x : AV) (H : List (Nat × ABlk)) (g : Nat → Option Pl), puStartQ x H = true → (∀ ρ w u, NeedOk (nuG n z (qao n) (qaq z n)) ρ w H → VR (nuG n z (qao n) (qaq z n)) ρ x u → TextAt w u n z) → (∀ b, 65 ≤ b → g b = none) → VR (nuG n z (qao n) (qaq z n)) (embF g) x v →
   (∀ p ∈ H, gmax ≤ p.1 ∧ ∃ pl, g p.1 = some pl ∧ BR (nuG n z (qao n) (qaq z n)) (embF g) w p.2 pl ∧ p.2.own = false) → _ := fun x H g hst hx hg hvr hH => by
  have start := qa2 (N := 208) (ν := nuG n z (qao n) (qaq z n)) (L := []) (fx := []) (kp := []) (vs := #[v]) (e0 := (pu0Q x H).e) (H0 := H) (n0 := 65) qbG (w := w) (fun p hp => by cases hp) g (by show 1 ≤ 208; decide) (by decide) hg (fun p hp => by cases hp)
   (fun p hp => by
    simp only [pu0Q, List.mem_cons, List.not_mem_nil, or_false] at hp
    subst hp
    exact ⟨_, rfl, hvr⟩)
   (fun p hp => by
    obtain ⟨q1, pl, q2, q3, q4⟩ := hH p hp
    exact ⟨q1, pl, q2, q3, fun h => by rw [q4] at h; cases h⟩)
   (fun p hp => by cases hp)
  refine (And.imp id (fun h2 => h2.mono fun e w' ⟨v, he, hv, hBQ⟩ => ⟨by rw [he, hv], hBQ⟩) (callsX (L := []) (gl := []) (Q := fun v w' => v = aggI .u8 64 (qbd z n) ∧ Below w.heap.size w w') qaf (by kernel_rfl) pu_shapeQ start ?_) :
   (∃ fn, Tryd.prog.funcs[28]? = some fn ∧ fn.body.isSome = true ∧ (fn.name == "runtime.NumGoroutine") = false) ∧ Calls Tryd.prog 28 #[v] w fun e w' => e = .returned (aggI .u8 64 (qbd z n)) ∧ Below w.heap.size w w')
  simp only [puStartQ, Bool.and_eq_true] at hst
  obtain ⟨⟨⟨s1, s2⟩, s3⟩, s4⟩ := hst
  have last := runPQ (w0 := w) (ν := nuG n z (qao n) (qaq z n)) (L := []) (fx := []) (kp := []) pu_goEQ (qaP _)
  refine seqN (runPQ s1 (qaP _)) (seqN (runPQ s2 (qaP _)) (seqN (runPQ s3 (qaP _)) (seqN (Tri.runX (qaP _) qak qaf qbG (fun r hr => by cases hr) (fun r hr => by cases hr) (fun r hr => ?_) (fun r hr => by cases hr) s4) (seqN (Mid := fun a w' => ∃ (i : Nat × Nat × Nat × Array Value × TypeId × (Nat × Nat)), HP w i.1 i.2.1 i.2.2.1 i.2.2.2.1 i.2.2.2.2.1 i.2.2.2.2.2 (128 * B) (nuVQ (qaR (qaq z n) B) (fun j => qaq z n (128 * B + j)) ((128 * B : Nat) : Int) (qao n) (fun _ => 0) (fun _ => 0)) (puNQ 0 (nmA 0) [] [] 70) a w') ?_ ?_))))
  ·simp only [List.mem_cons, List.not_mem_nil, or_false] at hr
   subst hr
   exact rowP_okQ (by omega) hx
  ·refine seqN (Mid := fun a w' => ∃ (i : Nat × Nat × Nat × Array Value × TypeId × (Nat × Nat)), (∀ j, j < qao n → i.2.2.2.1[i.2.1 + j]? = some (.int .u8 (qaq z n j))) ∧ ∀ W v, HP w i.1 i.2.1 i.2.2.1 i.2.2.2.1 i.2.2.2.2.1 i.2.2.2.2.2 0 (nuVQ (qaR (qaq z n) 0) (fun j => qaq z n (0 + j)) ((0 : Nat) : Int) (qao n) W v) (puNQ (wdPQ B) (nmA 0) [(6, sI 200)] [] 70) a w') (last.weak (fun _ _ h => h) fun ex a w' hh => ⟨hh.1, ?_⟩) ?_
   ·obtain ⟨pl, ob, hob, hpin, hK⟩ := keepX (P := Tryd.prog) (b := 69) (x := ⟨[], T1, false⟩) hh.2 (by kernel_rfl) rfl
    have hpin := hpin (by show qac < T1; decide)
    unfold PinB at hpin
    rw [if_pos (by show T1 ≤ qaO; decide)] at hpin
    obtain ⟨C, ty, fz, g1, g2⟩ := hpin
    rw [hob] at g1
    cases g1
    have hz : ∀ j, j < qao n → C[pl.co + j]? = some (.int .u8 (qaq z n j)) := fun j hj => by
     have h9 : C[pl.co + j]? = some (.int (pinK T1) (nuG n z (qao n) (qaq z n) (pinB T1 j))) := g2 j (by show (j : Int) < nuG n z (qao n) (qaq z n) (pinL T1); rw [nuG_L]; omega)
     rw [h9, T1_K, nuG_B]
    refine ⟨(pl.cb, pl.co, pl.tot, C, ty, fz), hz, fun W v => ?_⟩
    have no : ∀ b, b ≠ 69 → (fun b => if b = 69 then some (⟨pl.cb, pl.co + 0, pl.tot⟩ : Pl) else none) b = none := fun b hb => if_neg hb
    have hwd : wdPQ B = 128 := if_neg (by omega)
    rw [hwd]
    refine HoldsX.rename qbG hK (fun b => if b = 69 then some ⟨pl.cb, pl.co + 0, pl.tot⟩ else none) (by decide) (fun _ hp => hp) (fun b q hv => ?_) (fun p hp => ?_) (fun p hp => ?_) fun p hp => ?_
    ·by_cases hb : b = 69
     ·subst hb; exact ⟨by decide, by decide⟩
     ·rw [if_neg hb] at hv; cases hv
    ·simp only [List.mem_cons, List.not_mem_nil, or_false] at hp
     subst hp
     exact .inl rfl
    ·simp only [pls, List.cons_append, List.nil_append, List.mem_cons, List.not_mem_nil, or_false] at hp
     rcases hp with rfl | rfl | rfl | rfl | rfl
     ·exact ⟨iN 0, by simp [puEoQ], qaT.conc (u := .int .i64 0) rfl rfl⟩
     ·exact ⟨.sl 69 0 (.s (pinL T1)) .any, by simp [puEoQ], slotTo_win (i' := 0) (m := qao n) List.mem_cons_self rfl rfl rfl rfl nuG_L rfl (by omega) (by omega)⟩
     ·exact ⟨.p 65 0, by simp [puEoQ, pls], qaT.p _ (by decide) rfl⟩
     ·exact ⟨.p 67 0, by simp [puEoQ, pls], qaT.p _ (by decide) rfl⟩
     ·exact ⟨.p 68 0, by simp [puEoQ, pls], qaT.p _ (by decide) rfl⟩
    ·simp only [List.nil_append, List.mem_cons, List.not_mem_nil, or_false] at hp
     rcases hp with rfl | rfl | rfl | rfl
     ·exact ⟨by decide, by decide, .inr ⟨rfl, reBQ.2, by kernel_rfl, rfl, qaS (by decide) fun j _ => rfl⟩⟩
     ·exact ⟨by decide, by decide, .inr ⟨rfl, kBQ.2, by kernel_rfl, rfl, qaS (by decide) fun j _ => rfl⟩⟩
     ·exact ⟨by decide, by decide, .inr ⟨rfl, (hB7Q h0AQ).2, by kernel_rfl, rfl, qaS (by decide) fun j hj => by rw [qbf hj]; rfl⟩⟩
     ·refine ⟨by decide, by decide, .inl ⟨_, rfl, rfl, ⟨_, List.mem_cons_self⟩, fun ρ' => ?_⟩⟩
      have hc : qaZ w' .u8 pl.cb (pl.co + 0) 128 (fun j => qaq z n (0 + j)) := ⟨C, ty, fz, hob, fun j hj => by rw [Nat.add_assoc]; exact hz _ (by omega)⟩
      exact hc.br (by decide) fun j hj => nuV_wQ hj
   ·refine Tri.ex fun i => Tri.pre fun hz => ?_
    refine Tri.block (pu_loopQ hz (pd_bytesQ hb) htot hN (fun _ => 0) (fun _ => 0)) (fun a w h => by cases h.1) (fun a w h => ⟨rfl, i, h.2⟩) (fun j a w hj h => ?_) (fun a w h => by cases h.1)
    have := h.1
    simp only [Ex.exit.injEq] at this
    exact (hj this).elim
  ·refine Tri.ex fun i => ?_
   refine (runPQ pu_goFQ (qaP _)).weak (fun _ _ h => h) fun ex a w' h => ⟨.inr h.1, nuVQ (qaR (qaq z n) B) (fun j => qaq z n (128 * B + j)) ((128 * B : Nat) : Int) (qao n) (fun _ => 0) (fun _ => 0), puZQ, .ag (rowC .u8 outPQ 64), [(69, ⟨i.1, i.2.1 + 128 * B, i.2.2.1⟩)], [(i.1, .cells i.2.2.2.1 i.2.2.2.2.1 i.2.2.2.2.2)], h.2, puZ_resQ, fun ρ v _ _ _ hBQ hv => ⟨?_, below hBQ⟩⟩
   rw [(qaK (outP_valQ (h := qaR (qaq z n) B) fun j hj => nuV_hQ hj)).2 v hv]
   unfold qbd
   rw [hBe]
 rcases hv with ⟨rfl, hv⟩ | ⟨h0, cb, o, c, rfl, hle, C, ty, fz, hC, hz⟩
 ·rcases hv with rfl | ⟨a, c, rfl⟩
  ·exact go .nsl [] (fun _ => none) pu_start0Q (fun ρ w u _ hu => by cases hu; exact .inl ⟨rfl, .inl rfl⟩) (fun _ _ => rfl) .nsl (fun p hp => by cases hp)
  ·exact go (.sle false) [] (fun _ => none) pu_start1Q (fun ρ w u _ hu => by cases hu; exact .inl ⟨rfl, .inr ⟨_, _, rfl⟩⟩) (fun _ _ => rfl) (.sle _ _ _ (fun h => by cases h)) (fun p hp => by cases hp)
 ·refine go slP0 [txP] (at1 64 ⟨cb, o, 0⟩) pu_start2Q (fun ρ w u hnd hu => ?_) (fun b hb => at1_none (by omega)) (.sl 64 0 _ .any ⟨cb, o, 0⟩ n c (at1_at (by decide)) nuG_L0 trivial hle) (fun p hp => ?_)
  ·obtain ⟨pl, q1, q2⟩ := hnd txP List.mem_cons_self
   have q1 : ρ 64 = some pl := q1
   have hp := q2.pin (by decide)
   unfold PinB at hp
   rw [if_pos (by decide)] at hp
   obtain ⟨C2, ty2, fz2, r1, r2⟩ := hp
   cases hu
   rename_i q m c2 hle2 hq hnn hcap
   have hq : ρ 64 = some q := hq
   rw [q1] at hq
   cases hq
   have hm : (n : Int) = (m : Int) := nuG_L0.symm.trans hnn
   have hm : n = m := by omega
   subst hm
   refine .inr ⟨h0, pl.cb, pl.co + 0, c2, rfl, hle2, C2, ty2, fz2, r1, fun j hj => ?_⟩
   have h9 : C2[pl.co + j]? = some (.int (pinK T0) (nuG n z (qao n) (qaq z n) (pinB T0 j))) := r2 j (by show (j : Int) < nuG n z (qao n) (qaq z n) (pinL T0); rw [nuG_L0]; omega)
   rw [Nat.add_zero, h9, T0_K, nuG_B0 (by omega)]
  ·simp only [List.mem_cons, List.not_mem_nil, or_false] at hp
   subst hp
   refine ⟨by decide, _, if_pos rfl, ⟨fun _ => ⟨C, ty, fz, hC, fun j c hc => by simp [txP] at hc, fun h => by cases h⟩, fun h => by exact absurd h (by decide), fun _ => ?_⟩, rfl⟩
   unfold PinB
   rw [if_pos (by decide)]
   have hpn : Sh.Pinned (nuG n z (qao n) (qaq z n)) w T0 ⟨cb, o, 0⟩ := by
    refine ⟨C, ty, fz, hC, fun j hj => ?_⟩
    rw [nuG_L0] at hj
    have hj : j < n := by omega
    rw [T0_K, nuG_B0 (by omega)]
    exact hz j hj
   exact hpn
end Go.Proofs.YtheidgcgdkmmiaaDoor
