/-
  KNOW: newSearch, its walk. Own work.
-/
import Derived.Test.YtikbeagcflofhaaKNo
import Derived.Test.YtikbeagcflofhaaKNp
namespace Go.Proofs.Ytikbeagcflofhaa
open Go.RowKit Go.Maps
set_option maxRecDepth 100000
attribute [local go_sem ↓] Go.wp_at_zero Go.wp_at_succ
theorem edg_pre (L : List Tm) (i k : Nat) : ∃ F, edg L (i + k) = edg L i ++ F := by
  induction k with
  | zero => exact ⟨[], by simp⟩
  | succ k ih =>
    obtain ⟨F, h⟩ := ih
    exact ⟨F ++ (ar L (i + k)).map (fun x => (i + k, x)), by rw [← Nat.add_assoc, edg_succ, h, List.append_assoc]⟩
theorem edg_cut {L : List Tm} {q j a : Nat} (hq : q < L.length) (h : (ar L q)[j]? = some a) : ∃ F, edg L L.length = (edg L q ++ ((ar L q).take j).map (fun x => (q, x))) ++ (q, a) :: F := by
  obtain ⟨F, hF⟩ := edg_pre L (q + 1) (L.length - (q + 1))
  rw [show q + 1 + (L.length - (q + 1)) = L.length by omega] at hF
  have e : edg L (q + 1) = edg L q ++ ((ar L q).take (j + 1)).map (fun x => (q, x)) ++ ((ar L q).drop (j + 1)).map (fun x => (q, x)) := by
    rw [edg_succ, List.append_assoc, ← List.map_append, List.take_append_drop]
  rw [← edg_take h] at e
  refine ⟨((ar L q).drop (j + 1)).map (fun x => (q, x)) ++ F, ?_⟩
  rw [hF, e]
  simp
set_option maxHeartbeats 16000000 in
theorem new_low {w0 wr : World} {aa : Nat} {L : List Tm} {G : Nat → Prop} (T : Hid (On w0 wr aa L G)) (n : Nat) (hn : L.length = n) (hlt : n ≤ 900) : Calls Try.prog 65 #[.pointer (some ⟨aa, 0, none⟩)] wr fun e w' => ∃ sb A, e = .returned (.pointer (some ⟨sb, 0, none⟩)) ∧ A.sb = sb ∧ Sea wr A L (s0 L) (.slice none 0 0) w' ∧ Seg L (usr L) A := by
  obtain ⟨iT, hT, hT0, hT1, hT2⟩ := info_parts (P := Try.prog) (e := 43) (z := .agg #[.int .i64 0, .int .i64 0, .slice none 0 0]) (size := 3) (bytes := 40) (by kernel_rfl)
  obtain ⟨iB, hB, hB0, hB1, hB2⟩ := info_parts (P := Try.prog) (e := 4) (z := .bool false) (size := 1) (bytes := 1) (by kernel_rfl)
  obtain ⟨iI, hI, hI0, hI1, hI2⟩ := info_parts (P := Try.prog) (e := 3) (z := .int .i64 0) (size := 1) (bytes := 8) (by kernel_rfl)
  have hmT := make_row n Try.underlying39 hT hT0 hT1 hT2 (by omega) (by omega)
  have hmB := make_row n Try.underlying38 hB hB0 hB1 hB2 (by omega) (by omega)
  have hmI := make_row n Try.underlying22 hI hI0 hI1 hI2 (by omega) (by omega)
  have hmF := make_row (n + 1) Try.underlying22 hI hI0 hI1 hI2 (by omega) (by omega)
  obtain ⟨oT, hoT⟩ : ∃ o, o = Obj.cells (madeCells (Value.agg #[.int .i64 0, .int .i64 0, .slice none 0 0]).cells (n * 3)) 43 := ⟨_, rfl⟩
  obtain ⟨oK, hoK⟩ : ∃ o, o = Obj.cells (madeCells (Value.bool false).cells (n * 1)) 4 := ⟨_, rfl⟩
  obtain ⟨oM, hoM⟩ : ∃ o, o = Obj.cells (madeCells (Value.int .i64 0).cells (n * 1)) 3 := ⟨_, rfl⟩
  obtain ⟨oF, hoF⟩ : ∃ o, o = Obj.cells (madeCells (Value.int .i64 0).cells ((n + 1) * 1)) 3 := ⟨_, rfl⟩
  rw [← hoT] at hmT
  rw [← hoK] at hmB
  rw [← hoM] at hmI
  rw [← hoF] at hmF
  simp only [Int.natCast_add, Int.cast_ofNat_Int] at hmF
  have hw1 : IntKind.i64.wrap ((n : Int) + 1) = (n : Int) + 1 := by rw [IntWalk.i64_in _ (by omega)]
  have HO := (show Hid (oT = _ ∧ oK = _ ∧ oM = _ ∧ oF = _) from ⟨hoT, hoK, hoM, hoF⟩)
  clear hoT hoK hoM hoF
  go_enter Try.func65, Try.ntmps65
  go_wp2_with (first
    | (go_at_call 41; refine (len_on T.out).mono ?_; rintro ev w1 ⟨rfl, rfl⟩; rw [hn]))
  go_cut [4, 29] (fun v4 v29 wx => NewS w1 wx n oT oK oM oF v4 v29)
  case first =>
    clear hn hlt T HO hT hT0 hT1 hT2 hB hB0 hB1 hB2 hI hI0 hI1 hI2
    refine wp_region_any (by kernel_rfl) ?_
    try (change wpAny _ _ _ _ _ _ _ (World.drew _))
    refine wpAny_take (i := 0) (v := .int .i64 n) rfl (by kernel_rfl) (by kernel_rfl) (by kernel_rfl) (fun _ _ _ h => h) (Or.inl ⟨by rfl, by (intro w; go_simp)⟩) ?_
    refine wpAny_take (i := 2) (v := .int .i64 n) rfl (by kernel_rfl) (by kernel_rfl) (by kernel_rfl) (fun _ _ _ h => h) (Or.inl ⟨by rfl, by (intro w; go_simp)⟩) ?_
    refine wpAny_take (i := 4) (v := .int .i64 n) rfl (by kernel_rfl) (by kernel_rfl) (by kernel_rfl) (fun _ _ _ h => h) (Or.inl ⟨by rfl, by (intro w; go_simp)⟩) ?_
    refine wpAny_take (i := 6) (v := .int .i64 n) rfl (by kernel_rfl) (by kernel_rfl) (by kernel_rfl) (fun _ _ _ h => h) (Or.inl ⟨by rfl, by (intro w; go_simp)⟩) ?_
    refine wpAny_take (i := 8) (v := .int .i64 n) rfl (by kernel_rfl) (by kernel_rfl) (by kernel_rfl) (fun _ _ _ h => h) (Or.inl ⟨by rfl, by (intro w; go_simp)⟩) ?_
    refine wpAny_take (i := 9) (v := .int .i64 (n + 1)) rfl (by kernel_rfl) (by kernel_rfl) (by kernel_rfl) (fun _ _ _ h => h) (Or.inl ⟨by rfl, by (intro w; go_simp)⟩) ?_
    obtain ⟨oo, hoo⟩ : ∃ oo : Nat → Obj, oo = fun i => if i = 0 then oT else if i = 1 then oK else if i = 2 then oK else if i = 3 then oM else oF := ⟨_, rfl⟩
    refine any_by (fun k l a W => ∃ (m : Nat → Bool) (p : Nat → Nat) (v : Nat → Value), Mk w1 W oo m p ∧ k + W.heap.size = w1.heap.size + 8 ∧ l = #[true, m 0, true, m 1, true, m 2, true, m 3, true, true, m 4, false, false, false] ∧
      a = { tmps := List.toArray ((.pointer (some ⟨aa, 0, none⟩) : Value) :: (undef : Value) :: (.pointer none : Value) :: (.int .i64 n : Value) :: (undef : Value) :: (undef : Value) :: (undef : Value) :: (undef : Value) :: (undef : Value) :: (undef : Value) :: (undef : Value) :: (undef : Value) :: (undef : Value) :: (undef : Value) :: (undef : Value) :: (undef : Value) :: (.pointer (some ⟨aa, 0, none⟩) : Value) :: (.int .i64 n : Value) :: (.int .i64 n : Value) :: (v 0 : Value) :: (.int .i64 n : Value) :: (v 1 : Value) :: (.int .i64 n : Value) :: (v 2 : Value) :: (.int .i64 n : Value) :: (v 3 : Value) :: (.int .i64 n : Value) :: (.int .i64 (n + 1) : Value) :: (v 4 : Value) :: (undef : Value) :: (undef : Value) :: (undef : Value) :: (undef : Value) :: (undef : Value) :: (undef : Value) :: (undef : Value) :: (undef : Value) :: (undef : Value) :: (undef : Value) :: (undef : Value) :: (undef : Value) :: (undef : Value) :: (undef : Value) :: (undef : Value) :: (undef : Value) :: (undef : Value) :: (undef : Value) :: (undef : Value) :: (undef : Value) :: (undef : Value) :: (undef : Value) :: (undef : Value) :: (undef : Value) :: (undef : Value) :: (undef : Value) :: (undef : Value) :: (undef : Value) :: (undef : Value) :: (undef : Value) :: (undef : Value) :: (undef : Value) :: (undef : Value) :: (undef : Value) :: (undef : Value) :: (undef : Value) :: (undef : Value) :: (undef : Value) :: (undef : Value) :: (undef : Value) :: (undef : Value) :: (undef : Value) :: (undef : Value) :: (undef : Value) :: (undef : Value) :: (undef : Value) :: (undef : Value) :: (undef : Value) :: (undef : Value) :: (undef : Value) :: (undef : Value) :: (undef : Value) :: (undef : Value) :: (undef : Value) :: (undef : Value) :: (undef : Value) :: (undef : Value) :: (undef : Value) :: (undef : Value) :: (undef : Value) :: (undef : Value) :: (undef : Value) :: (undef : Value) :: (undef : Value) :: (undef : Value) :: (undef : Value) :: (undef : Value) :: (undef : Value) :: (undef : Value) :: (undef : Value) :: (undef : Value) :: (undef : Value) :: (undef : Value) :: (undef : Value) :: (undef : Value) :: (undef : Value) :: (undef : Value) :: (undef : Value) :: (undef : Value) :: (undef : Value) :: (undef : Value) :: (undef : Value) :: (undef : Value) :: (undef : Value) :: (undef : Value) :: (undef : Value) :: (undef : Value) :: (undef : Value) :: (undef : Value) :: (undef : Value) :: (undef : Value) :: (undef : Value) :: (undef : Value) :: (undef : Value) :: (undef : Value) :: (undef : Value) :: (undef : Value) :: (undef : Value) :: (undef : Value) :: (undef : Value) :: (undef : Value) :: (undef : Value) :: (undef : Value) :: (undef : Value) :: (undef : Value) :: (undef : Value) :: (undef : Value) :: (undef : Value) :: (undef : Value) :: (undef : Value) :: (undef : Value) :: (undef : Value) :: (undef : Value) :: (undef : Value) :: (undef : Value) :: (undef : Value) :: (undef : Value) :: (undef : Value) :: (undef : Value) :: (undef : Value) :: (undef : Value) :: []), defers := [] } ∧
      (∀ i, m i = true → v i = .slice (some ⟨p i, 0, none⟩) (if i = 4 then n + 1 else n) (if i = 4 then n + 1 else n))) ?_ ?_ _ _ _ _ ⟨fun _ => false, fun _ => 0, fun _ => undef, Mk.start _ _ _, ?_, ?_, ?_, ?_⟩
    · rintro l a W ⟨m, p, v, hM, hk, rfl, rfl, hv⟩
      exfalso
      have h1 := hM.size
      have h2 := List.length_filter_le m (List.range 5)
      rw [List.length_range] at h2
      omega
    · rintro k l a W ⟨m, p, v, hM, hk, rfl, rfl, hv⟩
      by_cases hall : m 0 = true ∧ m 1 = true ∧ m 2 = true ∧ m 3 = true ∧ m 4 = true
      · obtain ⟨q0, q1, q2, q3, q4⟩ := hall
        left
        rw [q0, q1, q2, q3, q4, hv 0 q0, hv 1 q1, hv 2 q2, hv 3 q3, hv 4 q4]
        have hkk : k = 2 := by have h1 := hM.size; simp [List.range, List.range.loop, q0, q1, q2, q3, q4] at h1; omega
        subst hkk
        simp only [if_true, Nat.reduceEqDiff, if_false]
        refine wpAny_take (i := 11) (v := ?_) rfl (by kernel_rfl) (by kernel_rfl) (by kernel_rfl) (fun _ _ _ h => h) (Or.inl ⟨by rfl, by (intro w; go_simp; try with_reducible rfl)⟩) ?_
        refine wpAny_ready (rs := [12]) (by kernel_rfl) (by simp) ?_
        refine AllReady.cons rfl (fun K hK => ?_) AllReady.nil
        go_simp
        refine hK _ _ ?_
        clear hK K
        refine wpAny_take (i := 13) (v := ?_) rfl (by kernel_rfl) (by kernel_rfl) (by kernel_rfl) (fun _ _ _ h => h) (Or.inl ⟨by rfl, by (intro w; go_simp; try with_reducible rfl)⟩) ?_
        refine wpAny_done (by kernel_rfl) ?_ _
        go_wp2
        go_meet
        have hz : W.heap.size = w1.heap.size + 5 := by omega
        obtain ⟨a0, b0, c0⟩ := hM.has 0 q0
        obtain ⟨a1, b1, c1⟩ := hM.has 1 q1
        obtain ⟨a2, b2, c2⟩ := hM.has 2 q2
        obtain ⟨a3, b3, c3⟩ := hM.has 3 q3
        obtain ⟨a4, b4, c4⟩ := hM.has 4 q4
        rw [hoo] at c0 c1 c2 c3 c4
        exact ⟨⟨p 0, p 1, p 2, p 3, p 4, rfl, by rw [hz], by rw [← hz]; exact alloc_at _ _ rfl, by rw [alloc_old _ _ b0, c0]; rfl, by rw [alloc_old _ _ b1, c1]; rfl, by rw [alloc_old _ _ b2, c2]; rfl, by rw [alloc_old _ _ b3, c3]; rfl, by rw [alloc_old _ _ b4, c4]; rfl, a0, a1, a2, a3, a4,
          hM.apart 0 1 q0 q1 (by omega), hM.apart 0 2 q0 q2 (by omega), hM.apart 0 3 q0 q3 (by omega), hM.apart 0 4 q0 q4 (by omega), hM.apart 1 2 q1 q2 (by omega), hM.apart 1 3 q1 q3 (by omega), hM.apart 1 4 q1 q4 (by omega), hM.apart 2 3 q2 q3 (by omega), hM.apart 2 4 q2 q4 (by omega), hM.apart 3 4 q3 q4 (by omega)⟩, by rw [World.size_alloc]; omega, hM.below.alloc (by omega) _⟩
      · right
        refine ⟨(if m 0 then [] else [1]) ++ ((if m 1 then [] else [3]) ++ ((if m 2 then [] else [5]) ++ ((if m 3 then [] else [7]) ++ (if m 4 then [] else [10])))), ?_, ?_, ?_⟩
        · revert hall
          generalize m 0 = b0; generalize m 1 = b1; generalize m 2 = b2; generalize m 3 = b3; generalize m 4 = b4
          intro h
          cases b0 <;> cases b1 <;> cases b2 <;> cases b3 <;> cases b4 <;> first | (exact absurd ⟨rfl, rfl, rfl, rfl, rfl⟩ h) | kernel_rfl
        · revert hall
          generalize m 0 = b0; generalize m 1 = b1; generalize m 2 = b2; generalize m 3 = b3; generalize m 4 = b4
          cases b0 <;> cases b1 <;> cases b2 <;> cases b3 <;> cases b4 <;> simp
        · intro i hi
          clear hall
          simp only [List.mem_append] at hi
          rcases hi with hi | hi | hi | hi | hi
          · have hm : m 0 = false := by revert hi; cases m 0 <;> simp
            rw [hm] at hi
            obtain rfl : i = 1 := by simpa using hi
            refine wpOp_step rfl (fun K hK => ?_)
            go_simp
            refine hK _ _ ⟨fun j => if j = 0 then true else m j, fun j => if j = 0 then W.heap.size else p j, fun j => if j = 0 then .slice (some ⟨W.heap.size, 0, none⟩) n n else v j, ?_, ?_, ?_, ?_, ?_⟩
            · have hmm := hM.more (i := 0) (by omega) hm
              rw [show oo 0 = oT from by rw [hoo]; rfl] at hmm
              exact hmm
            · rw [World.size_alloc]; omega
            · rfl
            · rfl
            · intro j hj
              by_cases e : j = 0
              · subst e; rfl
              · simp only [if_neg e] at hj ⊢; exact hv j hj
          · have hm : m 1 = false := by revert hi; cases m 1 <;> simp
            rw [hm] at hi
            obtain rfl : i = 3 := by simpa using hi
            refine wpOp_step rfl (fun K hK => ?_)
            go_simp
            refine hK _ _ ⟨fun j => if j = 1 then true else m j, fun j => if j = 1 then W.heap.size else p j, fun j => if j = 1 then .slice (some ⟨W.heap.size, 0, none⟩) n n else v j, ?_, ?_, ?_, ?_, ?_⟩
            · have hmm := hM.more (i := 1) (by omega) hm
              rw [show oo 1 = oK from by rw [hoo]; rfl] at hmm
              exact hmm
            · rw [World.size_alloc]; omega
            · rfl
            · rfl
            · intro j hj
              by_cases e : j = 1
              · subst e; rfl
              · simp only [if_neg e] at hj ⊢; exact hv j hj
          · have hm : m 2 = false := by revert hi; cases m 2 <;> simp
            rw [hm] at hi
            obtain rfl : i = 5 := by simpa using hi
            refine wpOp_step rfl (fun K hK => ?_)
            go_simp
            refine hK _ _ ⟨fun j => if j = 2 then true else m j, fun j => if j = 2 then W.heap.size else p j, fun j => if j = 2 then .slice (some ⟨W.heap.size, 0, none⟩) n n else v j, ?_, ?_, ?_, ?_, ?_⟩
            · have hmm := hM.more (i := 2) (by omega) hm
              rw [show oo 2 = oK from by rw [hoo]; rfl] at hmm
              exact hmm
            · rw [World.size_alloc]; omega
            · rfl
            · rfl
            · intro j hj
              by_cases e : j = 2
              · subst e; rfl
              · simp only [if_neg e] at hj ⊢; exact hv j hj
          · have hm : m 3 = false := by revert hi; cases m 3 <;> simp
            rw [hm] at hi
            obtain rfl : i = 7 := by simpa using hi
            refine wpOp_step rfl (fun K hK => ?_)
            go_simp
            refine hK _ _ ⟨fun j => if j = 3 then true else m j, fun j => if j = 3 then W.heap.size else p j, fun j => if j = 3 then .slice (some ⟨W.heap.size, 0, none⟩) n n else v j, ?_, ?_, ?_, ?_, ?_⟩
            · have hmm := hM.more (i := 3) (by omega) hm
              rw [show oo 3 = oM from by rw [hoo]; rfl] at hmm
              exact hmm
            · rw [World.size_alloc]; omega
            · rfl
            · rfl
            · intro j hj
              by_cases e : j = 3
              · subst e; rfl
              · simp only [if_neg e] at hj ⊢; exact hv j hj
          · have hm : m 4 = false := by revert hi; cases m 4 <;> simp
            rw [hm] at hi
            obtain rfl : i = 10 := by simpa using hi
            refine wpOp_step rfl (fun K hK => ?_)
            go_simp
            refine hK _ _ ⟨fun j => if j = 4 then true else m j, fun j => if j = 4 then W.heap.size else p j, fun j => if j = 4 then .slice (some ⟨W.heap.size, 0, none⟩) (n + 1) (n + 1) else v j, ?_, ?_, ?_, ?_, ?_⟩
            · have hmm := hM.more (i := 4) (by omega) hm
              rw [show oo 4 = oF from by rw [hoo]; rfl] at hmm
              exact hmm
            · rw [World.size_alloc]; omega
            · rfl
            · rfl
            · intro j hj
              by_cases e : j = 4
              · subst e; rfl
              · simp only [if_neg e] at hj ⊢
                have hh := hv j hj
                rw [if_neg e] at hh
                exact hh
    · simp; omega
    · kernel_rfl
    · kernel_rfl
    · intro i h; simp at h
  case rest =>
    obtain ⟨e1, e2, e3, e4⟩ := HO.out
    obtain ⟨sb, nb, kb, ob, mb, fb, cs, rfl, hbd⟩ := hcut.bd (L := L) (by omega) e1 e2 e3 e4
    rw [← msF_zero L n, ← fsE_nil n] at hbd
    have BD := (show Hid (Bd w1 L n sb nb kb ob mb fb (.slice none 0 0) cs (msF L n 0) (fsE n []) (fun _ => .slice none 0 0) 0 wc) from hbd)
    have HW := (show Hid (Wf L) from T.out.wf)
    have HN := (show Hid (L.length = n) from hn)
    clear hcut hbd HO hmT hmB hmI hmF e1 e2 e3 e4 hn hw1 hT hT0 hT1 hT2 hB hB0 hB1 hB2
    go_at_K
    go_wp2
    go_loopw [32] (fun i wq => ∃ q : Nat, i = .int .i64 q ∧ q ≤ n ∧ ∃ cs vs, Bd w1 L n sb nb kb ob mb fb (.slice none 0 0) cs (msF L n q) (fsE n (edg L q)) vs q wq) (fun i _ => n - (intOf i).toNat)
    case atStart => exact ⟨0, rfl, by omega, cs, _, BD.out⟩
    case round =>
      clear BD
      obtain ⟨q, rfl, hq, cs', vs', hbd⟩ := hrel
      have BD := (show Hid (Bd w1 L n sb nb kb ob mb fb (.slice none 0 0) cs' (msF L n q) (fsE n (edg L q)) vs' q wr) from hbd)
      clear hbd
      by_cases hlt2 : q < n
      · obtain ⟨t, ht⟩ : ∃ t, L[q]? = some t := ⟨_, List.getElem?_eq_getElem (by rw [HN.out]; exact hlt2)⟩
        obtain ⟨k, m, xs⟩ := t
        have HT := (show Hid (L[q]? = some (k, m, xs)) from ht)
        have T2 := (show Hid (On w0 wr aa L G) from T.out.step BD.out.below)
        have hqI : (q : Int) < n := by omega
        clear ht
        go_wp2_with (first
          | (go_at_call 83; refine (node_on T2.out HT.out).mono ?_; rintro ev w3 ⟨p, c, rfl, hown, B3⟩
             have BD3 := (show Hid (Bd w1 L n sb nb kb ob mb fb (.slice none 0 0) cs' (msF L n q) (fsE n (edg L q)) vs' q w3) from BD.out.step B3)
             have HV := (show Hid _ from hown)
             clear hown))
        have hbox : Below w3.heap.size w3 (w3.alloc (.cells #[.int .i64 k, .int .i64 m, .slice p xs.length c] 43)) := (Below.refl _ w3).alloc (Nat.le_refl _) _
        have BD4 := (show Hid (Bd w1 L n sb nb kb ob mb fb (.slice none 0 0) cs' (msF L n q) (fsE n (edg L q)) vs' q (w3.alloc (.cells #[.int .i64 k, .int .i64 m, .slice p xs.length c] 43))) from BD3.out.step hbox)
        have HV4 := (show Hid ((w3.alloc (.cells #[.int .i64 k, .int .i64 m, .slice p xs.length c] 43)).ownsRow wr.heap.size 3 1 (.slice p xs.length c) xs.length (xs.map (Value.int .i64))) from row_keeps (F := fun _ => False) HV.out (Keeps.of_below hbox) (fun _ _ h => h))
        have b0 : (w3.alloc (.cells #[.int .i64 k, .int .i64 m, .slice p xs.length c] 43)).cell? ⟨w3.heap.size, 0, none⟩ = some (.int .i64 k) := by simp [go_sem]
        have b1 : (w3.alloc (.cells #[.int .i64 k, .int .i64 m, .slice p xs.length c] 43)).cell? ⟨w3.heap.size, 1, none⟩ = some (.int .i64 m) := by simp [go_sem]
        have b2 : (w3.alloc (.cells #[.int .i64 k, .int .i64 m, .slice p xs.length c] 43)).cell? ⟨w3.heap.size, 2, none⟩ = some (.slice p xs.length c) := by simp [go_sem]
        have hroom := Nat.le_trans BD3.out.room (Nat.le_refl _)
        have bl : w3.heap.size < (w3.alloc (.cells #[.int .i64 k, .int .i64 m, .slice p xs.length c] 43)).heap.size := by simp
        have hB4 := B3.trans (hbox.mono B3.size)
        have hwr6 := BD.out.room
        clear BD3 HV hbox T2
        generalize w3.alloc (.cells #[.int .i64 k, .int .i64 m, .slice p xs.length c] 43) = w4 at *
        have hlen : cs'.length = n * 3 := BD4.out.nd.1
        have mlen : (msF L n q).length = n := by simp [msF]
        have s0 := BD4.out.s0
        have s3 := BD4.out.s3
        obtain ⟨u0, hu0⟩ : ∃ u, w4.cell? ⟨nb, q * 3, none⟩ = some u := ⟨_, (World.ownsRow.cellAt BD4.out.nd (q * 3) (by omega)).trans (List.getElem?_eq_getElem (by omega))⟩
        obtain ⟨u1, hu1⟩ : ∃ u, w4.cell? ⟨nb, q * 3 + 1, none⟩ = some u := ⟨_, (World.ownsRow.cellAt BD4.out.nd (q * 3 + 1) (by omega)).trans (List.getElem?_eq_getElem (by omega))⟩
        obtain ⟨u2, hu2⟩ : ∃ u, w4.cell? ⟨nb, q * 3 + 2, none⟩ = some u := ⟨_, (World.ownsRow.cellAt BD4.out.nd (q * 3 + 2) (by omega)).trans (List.getElem?_eq_getElem (by omega))⟩
        obtain ⟨u3, hu3⟩ : ∃ u, w4.cell? ⟨mb, q, none⟩ = some u := ⟨_, (World.ownsRow.cellAt BD4.out.ms q (by omega)).trans (ms_at (by rw [mlen]; exact hlt2))⟩
        have f0 := World.ownsRow.frozenAt BD4.out.nd (q * 3)
        have f1 := World.ownsRow.frozenAt BD4.out.nd (q * 3 + 1)
        have f2 := World.ownsRow.frozenAt BD4.out.nd (q * 3 + 2)
        have f3 := World.ownsRow.frozenAt BD4.out.ms q
        have d1 := BD4.out.six.d1.1
        have d2 := BD4.out.six.d1.2.2.2.1
        have d3 := BD4.out.six.d2.2.2.1
        have d4 : w3.heap.size ≠ nb := fun e => by have := (BD4.out.six.lo nb (by simp)).2; omega
        have d5 : w3.heap.size ≠ mb := fun e => by have := (BD4.out.six.lo mb (by simp)).2; omega
        clear hlen mlen
        go_region
        have BD5 := (show Hid (Bd w1 L n sb nb kb ob mb fb (.slice none 0 0) (((cs'.set (q * 3) (.int .i64 k)).set (q * 3 + 1) (.int .i64 m)).set (q * 3 + 2) (.slice p xs.length c)) ((msF L n q).set q (xs.length : Int)) (fsE n (edg L q)) (fun j => if j = q then .slice p xs.length c else vs' j) (q + 1) (((((w4.setCell ⟨nb, q * 3, none⟩ (.int .i64 k)).setCell ⟨nb, q * 3 + 1, none⟩ (.int .i64 m)).setCell ⟨nb, q * 3 + 2, none⟩ (.slice p xs.length c)).setCell ⟨mb, q, none⟩ (.int .i64 xs.length)).drew)) from
          (BD4.out.copy HT.out hlt2 ((irow_of HV4.out).reads.rdw) (fun k hk => by have := (own_block' HV4.out k hk).1; omega) (own_cap HV4.out) xs.length).step ((Below.refl _ _).drew))
        have hal : (ar L q).length = xs.length := by unfold ar; rw [tm_at HT.out, List.length_map]
        rw [← hal, msF_succ L hlt2] at BD5
        rw [hal] at BD5
        have c2 : (((((w4.setCell ⟨nb, q * 3, none⟩ (.int .i64 k)).setCell ⟨nb, q * 3 + 1, none⟩ (.int .i64 m)).setCell ⟨nb, q * 3 + 2, none⟩ (.slice p xs.length c)).setCell ⟨mb, q, none⟩ (.int .i64 xs.length)).drew).cell? ⟨w3.heap.size, 2, none⟩ = some (.slice p xs.length c) := by
          show ((((w4.setCell ⟨nb, q * 3, none⟩ (.int .i64 k)).setCell ⟨nb, q * 3 + 1, none⟩ (.int .i64 m)).setCell ⟨nb, q * 3 + 2, none⟩ (.slice p xs.length c)).setCell ⟨mb, q, none⟩ (.int .i64 xs.length)).cell? ⟨w3.heap.size, 2, none⟩ = _
          rw [World.cell?_setCell_far _ _ _ _ (Ne.symm d5), World.cell?_setCell_far _ _ _ _ (Ne.symm d4), World.cell?_setCell_far _ _ _ _ (Ne.symm d4), World.cell?_setCell_far _ _ _ _ (Ne.symm d4)]
          exact b2
        obtain ⟨vs2, hvs2⟩ : ∃ f : Nat → Value, f = fun j => if j = q then .slice p xs.length c else vs' j := ⟨_, rfl⟩
        have hvq : vs2 q = .slice p xs.length c := by rw [hvs2]; simp
        rw [← hvs2] at BD5
        generalize (((cs'.set (q * 3) (.int .i64 k)).set (q * 3 + 1) (.int .i64 m)).set (q * 3 + 2) (.slice p xs.length c)) = cs2 at BD5
        generalize (((((w4.setCell ⟨nb, q * 3, none⟩ (.int .i64 k)).setCell ⟨nb, q * 3 + 1, none⟩ (.int .i64 m)).setCell ⟨nb, q * 3 + 2, none⟩ (.slice p xs.length c)).setCell ⟨mb, q, none⟩ (.int .i64 xs.length)).drew) = w5 at BD5 c2 ⊢
        have hxs : xs.length ≤ 400 := by rw [← hal]; exact ar_le HW.out (by rw [HN.out]; exact hlt2)
        have HX := (show Hid (∀ x ∈ xs, 0 ≤ x ∧ x < (q : Int)) from by
          have hg := (HW.out.good q (by rw [HN.out]; exact hlt2)).2.2
          have he : L[q]'(by rw [HN.out]; exact hlt2) = (k, m, xs) := (List.getElem?_eq_some_iff.1 HT.out).2
          rw [he] at hg
          exact hg)
        have HVQ := (show Hid _ from hvq)
        have HAL := (show Hid (ar L q = xs.map Int.toNat) from by unfold ar; rw [tm_at HT.out]; rfl)
        clear s0 s3 hu0 hu1 hu2 hu3 f0 f1 f2 f3 d1 d2 d3 d4 d5 BD4 HV4 b0 b1 b2 hroom bl hB4 hwr6 B3 hvs2 hvq hal BD
        go_wp2
        go_loopw [60] (fun i wq => ∃ j : Nat, i = .int .i64 j ∧ j ≤ xs.length ∧ Bd w1 L n sb nb kb ob mb fb (.slice none 0 0) cs2 (msF L n (q + 1)) (fsE n (edg L q ++ ((ar L q).take j).map (fun x => (q, x)))) vs2 (q + 1) wq) (fun i _ => xs.length - (intOf i).toNat)
        case atStart => exact ⟨0, rfl, by omega, by simpa using BD5.out⟩
        case round =>
          obtain ⟨j, rfl, hj, hbd⟩ := hrel
          have BD := (show Hid (Bd w1 L n sb nb kb ob mb fb (.slice none 0 0) cs2 (msF L n (q + 1)) (fsE n (edg L q ++ ((ar L q).take j).map (fun x => (q, x)))) vs2 (q + 1) wr) from hbd)
          clear hbd
          by_cases hlt3 : j < xs.length
          · obtain ⟨a, e1, e2, e3⟩ := arg_at HX.out hlt3
            have hrd := (BD.out.done q (by omega) _ HT.out).rd
            rw [HVQ.out] at hrd
            obtain ⟨b, o, rfl, y⟩ := rdw_nth hrd hlt3
            rw [e2] at y
            have s4 := BD.out.s4
            have y2 := (World.ownsRow.cellAt BD.out.fs (a + 1) (by omega)).trans (ms_at (by rw [fsE_len]; omega))
            rw [fsE_at (show a < n by omega)] at y2
            have f2 := World.ownsRow.frozenAt BD.out.fs (a + 1)
            have hbd : (usOf (edg L q ++ ((ar L q).take j).map (fun x => (q, x))) a).length ≤ 400 * n + 400 := by
              refine Nat.le_trans (usOf_le _ _) ?_
              rw [List.length_append, List.length_map, List.length_take]
              have h1 := edg_le HW.out q (by rw [HN.out]; omega)
              have h2 := ar_le HW.out (show q < L.length by rw [HN.out]; omega)
              have h3 : 400 * q ≤ 400 * n := Nat.mul_le_mul_left _ (by omega)
              omega
            have HNX := (show Hid _ from BD.out.setFs (a + 1) (((usOf (edg L q ++ ((ar L q).take j).map (fun x => (q, x))) a).length : Int) + 1))
            rw [fsE_more (show a < n by omega), edg_take (by rw [HAL.out]; exact e1)] at HNX
            generalize (usOf (edg L q ++ ((ar L q).take j).map (fun x => (q, x))) a).length = cnt at y2 hbd HNX
            have hw : IntKind.i64.wrap ((a : Int) + 1) = ((a + 1 : Nat) : Int) := by rw [IntWalk.i64_in _ (by omega)]; rfl
            have hw2 : IntKind.i64.wrap ((cnt : Int) + 1) = (cnt : Int) + 1 := by rw [IntWalk.i64_in _ (by omega)]
            have haI : (a : Int) + 1 < n + 1 := by omega
            have haN : a + 1 < n + 1 := by omega
            have hjI : (j : Int) < xs.length := by omega
            clear e1 e2 hrd
            go_wp2
            exact ⟨⟨j + 1, by simp, by omega, HNX.out⟩, by simp [intOf]; omega⟩
          · obtain rfl : j = xs.length := by omega
            have hE : edg L q ++ ((ar L q).take xs.length).map (fun x => (q, x)) = edg L (q + 1) := by
              rw [edg_succ, List.take_of_length_le (by rw [HAL.out]; simp)]
            rw [hE] at BD
            go_wp2
            exact ⟨⟨q + 1, by simp, by omega, cs2, vs2, BD.out⟩, by simp [intOf]; omega⟩
      · obtain rfl : q = n := by omega
        rw [fsP_zero HN.out] at BD
        have hoff := off_le HW.out
        rw [HN.out] at hoff
        go_wp2
        go_loopw [77] (fun i wq => ∃ r : Nat, i = .int .i64 r ∧ r ≤ q ∧ Bd w1 L q sb nb kb ob mb fb (.slice none 0 0) cs' (msF L q q) (fsP L q r) vs' q wq) (fun i _ => q - (intOf i).toNat)
        case atStart => exact ⟨0, rfl, by omega, BD.out⟩
        case round =>
          clear BD
          obtain ⟨r, rfl, hr, hbd⟩ := hrel
          have BD := (show Hid (Bd w1 L q sb nb kb ob mb fb (.slice none 0 0) cs' (msF L q q) (fsP L q r) vs' q wr) from hbd)
          clear hbd
          by_cases hlt3 : r < q
          · have s4 := BD.out.s4
            have y1 := (World.ownsRow.cellAt BD.out.fs r (by omega)).trans (ms_at (by rw [fsP_len]; omega))
            have y2 := (World.ownsRow.cellAt BD.out.fs (r + 1) (by omega)).trans (ms_at (by rw [fsP_len]; omega))
            rw [fsP_at (by omega), if_pos (Nat.le_refl _)] at y1
            rw [fsP_at (by omega), if_neg (by omega), Nat.add_sub_cancel] at y2
            have f2 := World.ownsRow.frozenAt BD.out.fs (r + 1)
            have HNX := (show Hid _ from BD.out.setFs (r + 1) (((usr L r).length : Int) + (off L r : Int)))
            rw [fsP_succ hlt3] at HNX
            have hb1 := hoff r
            have hb2 := hoff (r + 1)
            have hb3 : off L (r + 1) = off L r + (usr L r).length := rfl
            rw [hb3] at hb2
            generalize (usr L r).length = ur at y2 HNX hb2
            generalize off L r = fr at y1 HNX hb1 hb2
            have hw : IntKind.i64.wrap ((r : Int) + 1) = ((r + 1 : Nat) : Int) := by rw [IntWalk.i64_in _ (by omega)]; rfl
            have hw2 : IntKind.i64.wrap ((ur : Int) + (fr : Int)) = (ur : Int) + (fr : Int) := by rw [IntWalk.i64_in _ (by omega)]
            have hrI : (r : Int) < q := by omega
            have hrI2 : (r : Int) + 1 < q + 1 := by omega
            have hrI3 : (r : Int) < q + 1 := by omega
            clear hb3
            go_wp2
            go_region
            go_wp2
            exact ⟨⟨r + 1, by simp, by omega, HNX.out.step ((Below.refl _ _).drew)⟩, by simp [intOf]; omega⟩
          · obtain rfl : r = q := by omega
            have s4 := BD.out.s4
            have s5 := BD.out.s5
            have z5 := BD.out.z5
            have y1 := (World.ownsRow.cellAt BD.out.fs r (by omega)).trans (ms_at (by rw [fsP_len]; omega))
            rw [fsP_at (by omega), if_pos (Nat.le_refl _)] at y1
            have hb1 := hoff r
            obtain ⟨m, hm⟩ : ∃ m, m = off L r := ⟨_, rfl⟩
            have HM := (show Hid (m = off L r) from hm)
            rw [← hm] at y1 hb1
            clear hm
            have hmU := make_row m Try.underlying22 hI hI0 hI1 hI2 (by omega) (by omega)
            obtain ⟨oU, hoU⟩ : ∃ o, o = Obj.cells (madeCells (Value.int .i64 0).cells (m * 1)) 3 := ⟨_, rfl⟩
            rw [← hoU] at hmU
            have HOU := (show Hid (oU = Obj.cells (madeCells (Value.int .i64 0).cells (m * 1)) 3) from hoU)
            clear hoU
            have BDu := (show Hid (Bd w1 L r sb nb kb ob mb fb (.slice (some ⟨wr.heap.size, 0, none⟩) m m) cs' (msF L r r) (fsP L r r) vs' r ((wr.alloc oU).setCell ⟨sb, 5, none⟩ (.slice (some ⟨wr.heap.size, 0, none⟩) m m))) from (BD.out.step ((Below.refl _ _).alloc (Nat.le_refl _) _)).setUv _)
            have hsz : ((wr.alloc oU).setCell ⟨sb, 5, none⟩ (.slice (some ⟨wr.heap.size, 0, none⟩) m m)).heap.size = wr.heap.size + 1 := by simp
            have rfs := BDu.out.fs
            have x4 := BDu.out.s4
            have BDa := BD.out.step ((Below.refl _ wr).alloc (Nat.le_refl _) oU)
            have g5 := BDa.s5
            have g6 := BDa.z5
            have g4 := BDa.s4
            have hr1 : r + 1 ≤ 1000 := by omega
            clear BDa
            go_wp2_with (first
              | (go_at_call 58; refine (clone_rd (w := (wr.alloc oU).setCell ⟨sb, 5, none⟩ (.slice (some ⟨wr.heap.size, 0, none⟩) m m)) (v := .slice (some ⟨fb, 0, none⟩) (r + 1) (r + 1)) (xs := fsP L r r) (irow_of rfs).reads (by rw [fsP_len]; omega)).mono ?_; rintro ev w5 ⟨p5, c5, rfl, hown5, B5⟩
                 obtain ⟨xb, rfl, hbu⟩ := Bu.start BD.out HN.out (by omega) HM.out (by omega) HOU.out hown5 B5
                 have BU := (show Hid (Bu w1 L r sb nb kb ob mb fb wr.heap.size xb c5 cs' vs' [] (fsP L r r) (List.replicate m 0) w5) from hbu)
                 have x0 := hbu.bd.s0
                 rw [fsP_len]
                 clear hbu hown5 B5))
            obtain ⟨ub, hub⟩ : ∃ u, u = wr.heap.size := ⟨_, rfl⟩
            rw [← hub] at BU
            clear hub
            go_loopw [119] (fun i wq => ∃ q : Nat, i = .int .i64 q ∧ q ≤ r ∧ ∃ nx us, Bu w1 L r sb nb kb ob mb fb ub xb c5 cs' vs' (edg L q) nx us wq) (fun i _ => r - (intOf i).toNat)
            case atStart => exact ⟨0, rfl, by omega, _, _, BU.out⟩
            case round =>
              clear BU x0
              obtain ⟨q, rfl, hq2, nx, us, hbu⟩ := hrel
              have BU := (show Hid (Bu w1 L r sb nb kb ob mb fb ub xb c5 cs' vs' (edg L q) nx us wr) from hbu)
              clear hbu
              by_cases hlt4 : q < r
              · obtain ⟨t, ht⟩ : ∃ t, L[q]? = some t := ⟨_, List.getElem?_eq_getElem (by rw [HN.out]; exact hlt4)⟩
                obtain ⟨k, m', xs⟩ := t
                have HT := (show Hid (L[q]? = some (k, m', xs)) from ht)
                have hc := BU.out.bd.done q hlt4 _ ht
                have b0 : wr.cell? ⟨nb, q * 3, none⟩ = some (.int .i64 k) := (World.ownsRow.cellAt BU.out.bd.nd (q * 3) (by omega)).trans hc.c0
                have b1 : wr.cell? ⟨nb, q * 3 + 1, none⟩ = some (.int .i64 m') := (World.ownsRow.cellAt BU.out.bd.nd (q * 3 + 1) (by omega)).trans hc.c1
                have b2 := (World.ownsRow.cellAt BU.out.bd.nd (q * 3 + 2) (by omega)).trans hc.c2
                obtain ⟨p, c, hv, -⟩ := hc.rd
                have HVQ := (show Hid (vs' q = .slice p xs.length c) from hv)
                rw [hv] at b2
                have s0 := BU.out.bd.s0
                have hqI : (q : Int) < r := by omega
                have hqr : q < L.length := by rw [HN.out]; exact hlt4
                have hxs : xs.length ≤ 400 := by
                  have := ar_le HW.out hqr
                  unfold ar at this
                  rw [tm_at HT.out, List.length_map] at this
                  exact this
                have HX := (show Hid (∀ x ∈ xs, 0 ≤ x ∧ x < (q : Int)) from by
                  have hg := (HW.out.good q hqr).2.2
                  have he : L[q]'hqr = (k, m', xs) := (List.getElem?_eq_some_iff.1 HT.out).2
                  rw [he] at hg
                  exact hg)
                have HAL := (show Hid (ar L q = xs.map Int.toNat) from by unfold ar; rw [tm_at HT.out]; rfl)
                clear hc hv ht
                go_wp2
                have BU2 := (show Hid (Bu w1 L r sb nb kb ob mb fb ub xb c5 cs' vs' (edg L q) nx us (wr.alloc (.cells #[.int .i64 k, .int .i64 m', .slice p xs.length c] 43))) from BU.out.step ((Below.refl _ wr).alloc (Nat.le_refl _) _))
                clear BU b0 b1 b2 s0
                generalize wr.alloc (.cells #[.int .i64 k, .int .i64 m', .slice p xs.length c] 43) = w7 at *
                go_loopw [127] (fun i wq => ∃ j : Nat, i = .int .i64 j ∧ j ≤ xs.length ∧ ∃ nx us, Bu w1 L r sb nb kb ob mb fb ub xb c5 cs' vs' (edg L q ++ ((ar L q).take j).map (fun x => (q, x))) nx us wq) (fun i _ => xs.length - (intOf i).toNat)
                case atStart => exact ⟨0, rfl, by omega, nx, us, by simpa using BU2.out⟩
                case round =>
                  clear BU2
                  obtain ⟨j, rfl, hj, nx, us, hbu⟩ := hrel
                  have BU := (show Hid (Bu w1 L r sb nb kb ob mb fb ub xb c5 cs' vs' (edg L q ++ ((ar L q).take j).map (fun x => (q, x))) nx us wr) from hbu)
                  clear hbu
                  by_cases hlt5 : j < xs.length
                  · obtain ⟨a, e1, e2, e3⟩ := arg_at HX.out hlt5
                    rw [← HAL.out] at e1
                    have hrd := (BU.out.bd.done q hlt4 _ HT.out).rd
                    rw [HVQ.out] at hrd
                    obtain ⟨b, o, rfl, y⟩ := rdw_nth hrd hlt5
                    rw [e2] at y
                    obtain ⟨F, hF⟩ := edg_cut hqr e1
                    have haL : a < L.length := by omega
                    have har : a < r := by omega
                    have hnx := BU.out.laid.nx a haL
                    have hixl := (BU.out.laid.more hF haL).1
                    rw [BU.out.laid.lu, HN.out] at hixl
                    have hlus := BU.out.laid.lu
                    rw [HN.out] at hlus
                    have hlnx := BU.out.laid.ln
                    rw [HN.out] at hlnx
                    have hor := hoff r
                    obtain ⟨ix, hix⟩ : ∃ ix, ix = off L a + (usOf (edg L q ++ ((ar L q).take j).map (fun x => (q, x))) a).length := ⟨_, rfl⟩
                    have y2 := (World.ownsRow.cellAt BU.out.rnx a (by omega)).trans (ms_at (by omega))
                    rw [hnx, ← hix] at y2
                    rw [← hix] at hixl
                    obtain ⟨u0, hu0⟩ : ∃ u, wr.cell? ⟨ub, ix, none⟩ = some u := ⟨_, (World.ownsRow.cellAt BU.out.rus ix (by omega)).trans (ms_at (by omega))⟩
                    have f1 := World.ownsRow.frozenAt BU.out.rus ix
                    have f2 := World.ownsRow.frozenAt BU.out.rnx a
                    have s5 := BU.out.bd.s5
                    have HNX := (show Hid _ from BU.out.more hF haL ((Below.refl _ _).drew))
                    rw [← hix, edg_take e1] at HNX
                    have HUX := BU.out.ne
                    have hw : IntKind.i64.wrap ((ix : Int) + 1) = (ix : Int) + 1 := by rw [IntWalk.i64_in _ (by omega)]
                    have hw2 : IntKind.i64.wrap ((j : Int) + 1) = ((j + 1 : Nat) : Int) := by rw [IntWalk.i64_in _ (by omega)]; rfl
                    have haI : (a : Int) < r + 1 := by omega
                    have haN : a < r + 1 := by omega
                    have hixI : (ix : Int) < off L r := by omega
                    have hjI : (j : Int) < xs.length := by omega
                    generalize hoL : off L r = oL at *
                    clear e1 e2 hrd hnx hlus hlnx hor hF hix
                    go_wp2
                    go_region
                    go_wp2
                    exact ⟨⟨j + 1, by simp, by omega, _, _, HNX.out⟩, by simp [intOf]; omega⟩
                  · obtain rfl : j = xs.length := by omega
                    have hE : edg L q ++ ((ar L q).take xs.length).map (fun x => (q, x)) = edg L (q + 1) := by
                      rw [edg_succ, List.take_of_length_le (by rw [HAL.out]; simp)]
                    rw [hE] at BU
                    have hw2 : IntKind.i64.wrap ((q : Int) + 1) = ((q + 1 : Nat) : Int) := by rw [IntWalk.i64_in _ (by omega)]; rfl
                    go_wp2
                    exact ⟨⟨q + 1, by simp, by omega, nx, us, BU.out⟩, by simp [intOf]; omega⟩
              · obtain rfl : q = r := by omega
                go_wp2
                have hbu := BU.out
                rw [show edg L q = edg L L.length from by rw [HN.out]] at hbu
                obtain ⟨A, hA1, hA2, hA3⟩ := hbu.sea HN.out HW.out
                refine bodyPost_ret (v := .pointer (some ⟨sb, 0, none⟩)) (by simp [results, Try.results65, go_sem]) rfl ?_
                exact ⟨sb, A, rfl, hA1, hA2, hA3⟩
end Go.Proofs.Ytikbeagcflofhaa
