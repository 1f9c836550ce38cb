/-
  A PAIR OF ARENAS: where a term of the page's is in the program's. Own work.
-/
import Derived.Test.YtjegjbolmhaglaaSQe
import Derived.Deep.RegionHeld3
namespace Go.Proofs.Ytjegjbolmhaglaa
open Go.RowKit Go.Maps
set_option maxRecDepth 100000
def irange (m : Nat) : List Int := (List.range m).map fun (q : Nat) => (q : Int)
theorem irange_len (m : Nat) : (irange m).length = m := by simp [irange]
theorem irange_succ (m : Nat) : irange (m + 1) = irange m ++ [(m : Int)] := by simp [irange, List.range_succ]
theorem irange_at {m i : Nat} (h : i < m) : (irange m).getD i 0 = (i : Int) := by
  unfold irange
  rw [List.getD_eq_getElem?_getD, List.getElem?_map, List.getElem?_range h]
  rfl
section
variable {w wr w' : World} {pb aa bb m : Nat} {L L' L1 : List Tm} {G G' : Nat → Prop}
theorem Tw.more (T : Tw w wr aa bb L L' G) {H P : Nat → Prop} (hK : Keeps H wr w') (hH : ∀ k, H k → (G k ∧ w.heap.size ≤ k) ∨ wr.heap.size ≤ k) (hP : ∀ k, P k → wr.heap.size ≤ k ∧ k < w'.heap.size) : Tw w w' aa bb L L' (fun k => G k ∨ P k) := by
  have T1 := T.own hK hH
  obtain ⟨Fa, Fb, A, B, r1, r2, r3, r4⟩ := T.ex
  refine ⟨⟨Fa, Fb, A.keeps hK (fun k ha hk => ?_), B.keeps hK (fun k hb hk => ?_), r1, r2, r3, fun k hk => ?_⟩, fun k hk => ?_, T1.below⟩
  · rcases hH k hk with h | h
    · exact (r4 k h.1).1 ha
    · have := A.lt k ha; omega
  · rcases hH k hk with h | h
    · exact (r4 k h.1).2 hb
    · have := B.lt k hb; omega
  · rcases hk with h | h
    · exact r4 k h
    · exact ⟨fun hf => by have := A.lt k hf; have := (hP k h).1; omega, fun hf => by have := B.lt k hf; have := (hP k h).1; omega⟩
  · rcases hk with h | h
    · exact T1.lt k h
    · exact (hP k h).2
structure PrAt (w wr : World) (pb aa bb m : Nat) (mp : Option Addr) (mc : Nat) (G : Nat → Prop) : Prop where
  self : G pb
  apart : ∀ k, (Value.slice mp m mc).ownBlock = some k → G k ∧ k ≠ pb
  base : w.heap.size ≤ pb
  c0 : wr.cell? ⟨pb, 0, none⟩ = some (.pointer (some ⟨aa, 0, none⟩))
  c1 : wr.cell? ⟨pb, 1, none⟩ = some (.pointer (some ⟨bb, 0, none⟩))
  c2 : wr.cell? ⟨pb, 2, none⟩ = some (.slice mp m mc)
  f2 : wr.frozen? ⟨pb, 2, none⟩ = false
  row : wr.ownsRow w.heap.size 3 1 (.slice mp m mc) m ((irange m).map (Value.int .i64))
/-- A PAIR: the program's arena of L, the page's of L', and m terms of which it is known where they are: at the same place. -/
structure Pr (w wr : World) (pb aa bb : Nat) (L L' : List Tm) (m : Nat) : Prop where
  ex : ∃ (mp : Option Addr) (mc : Nat) (G : Nat → Prop), Tw w wr aa bb L L' G ∧ PrAt w wr pb aa bb m mp mc G
  hm : m ≤ L'.length
theorem PrAt.stay {mp : Option Addr} {mc : Nat} (P : PrAt w wr pb aa bb m mp mc G) (hlt : ∀ k, G k → k < wr.heap.size) (K : Stay G wr w') : PrAt w w' pb aa bb m mp mc G := by
  have hp := hlt pb P.self
  have hn : ¬ ¬ G pb := fun h => h P.self
  exact ⟨P.self, P.apart, P.base, (K.cell (p := ⟨pb, 0, none⟩) hp hn).trans P.c0, (K.cell (p := ⟨pb, 1, none⟩) hp hn).trans P.c1, (K.cell (p := ⟨pb, 2, none⟩) hp hn).trans P.c2, (K.frozen (p := ⟨pb, 2, none⟩) hp hn).trans P.f2, row_keeps P.row K (fun k hk hn => hn (P.apart k hk).1)⟩
theorem Pr.step (P : Pr w wr pb aa bb L L' m) (hB : Below wr.heap.size wr w') : Pr w w' pb aa bb L L' m := by
  obtain ⟨mp, mc, G, T, A⟩ := P.ex
  exact ⟨⟨mp, mc, G, T.step hB, A.stay T.lt (stay_below hB)⟩, P.hm⟩
theorem Pr.alloc (P : Pr w wr pb aa bb L L' m) (o : Obj) : Pr w (wr.alloc o) pb aa bb L L' m := P.step ((Below.refl _ wr).alloc (Nat.le_refl _) o)
theorem Pr.below (P : Pr w wr pb aa bb L L' m) : Below w.heap.size w wr := by
  obtain ⟨mp, mc, G, T, A⟩ := P.ex
  exact T.below
theorem Pr.onA (P : Pr w wr pb aa bb L L' m) {i : Nat} {avs : Array Value} {Q : Ending → World → Prop} (h : ∀ G', On w wr aa L G' → Calls Try.prog i avs wr fun e w' => Q e w' ∧ On w w' aa L1 G' ∧ Stay G' wr w') : Calls Try.prog i avs wr fun e w' => Q e w' ∧ Pr w w' pb aa bb L1 L' m := by
  obtain ⟨mp, mc, G, T, A⟩ := P.ex
  refine (T.onA (fun G' _ O => h G' O)).mono ?_
  rintro e w' ⟨hq, T', K⟩
  exact ⟨hq, ⟨mp, mc, G, T', A.stay T.lt K⟩, P.hm⟩
theorem Pr.onB (P : Pr w wr pb aa bb L L' m) {i : Nat} {avs : Array Value} {Q : Ending → World → Prop} (hle : L'.length ≤ L1.length) (h : ∀ G', Pn w wr bb L' G' → Calls Try.prog i avs wr fun e w' => Q e w' ∧ Pn w w' bb L1 G' ∧ Stay G' wr w') : Calls Try.prog i avs wr fun e w' => Q e w' ∧ Pr w w' pb aa bb L L1 m := by
  obtain ⟨mp, mc, G, T, A⟩ := P.ex
  refine (T.onB (fun G' _ O => h G' O)).mono ?_
  rintro e w' ⟨hq, T', K⟩
  exact ⟨hq, ⟨mp, mc, G, T', A.stay T.lt K⟩, Nat.le_trans P.hm hle⟩
theorem Pr.pn (P : Pr w wr pb aa bb L L' m) : ∃ G, Pn w wr bb L' G := by
  obtain ⟨mp, mc, G, T, A⟩ := P.ex
  exact ⟨G, T.pn⟩
theorem Pr.wf (P : Pr w wr pb aa bb L L' m) : Wf L := by
  obtain ⟨mp, mc, G, T, A⟩ := P.ex
  exact T.wf
theorem Pn.node (T : Pn w wr bb L G) {i : Nat} {k n : Int} {xs : List Int} (hi : L[i]? = some (k, n, xs)) : ∃ g cp p4 c4, wr.cell? ⟨bb, 0, none⟩ = some (.slice (some ⟨g, 0, none⟩) L.length cp) ∧ bb < wr.heap.size ∧ g < wr.heap.size ∧
    wr.cell? ⟨g, i * 3, none⟩ = some (.int .i64 k) ∧ wr.cell? ⟨g, i * 3 + 1, none⟩ = some (.int .i64 n) ∧ wr.cell? ⟨g, i * 3 + 2, none⟩ = some (.slice p4 xs.length c4) ∧ RdW wr (.slice p4 xs.length c4) xs ∧ xs.length ≤ 400 ∧ i < L.length := by
  obtain ⟨Fb, B, _⟩ := T.ex
  obtain ⟨hlt, hge⟩ := List.getElem?_eq_some_iff.1 hi
  obtain ⟨g, cp, p4, c4, h1, h2, h3, _, h4, h5, h6, h7, h8⟩ := B.node i hlt
  rw [hge] at h4 h5 h6 h7 h8
  exact ⟨g, cp, p4, c4, h1, h2, h3, h4, h5, h6, h7.rdw, h8, hlt⟩
attribute [local go_sem ↓] Go.wp_at_zero Go.wp_at_succ
set_option maxHeartbeats 2000000 in
theorem t_low (P : Hid (Pr w wr pb aa bb L L' m)) (i : Nat) (hi : i < m) : Calls Try.prog 51 #[.pointer (some ⟨pb, 0, none⟩), .int .i64 i] wr fun e w' => e = .returned (.int .i64 i) ∧ w' = wr := by
  obtain ⟨mp, mc, G, T, A⟩ := P.out.ex
  have c2 := A.c2
  obtain ⟨g, rfl, _, _, _, hc⟩ := row_open A.row (by omega)
  have c3 := hc i (by omega)
  rw [List.getElem?_map, List.getElem?_eq_getElem (by rw [irange_len]; exact hi)] at c3
  have hg : (irange m)[i]'(by rw [irange_len]; exact hi) = (i : Int) := by
    have := irange_at hi
    rw [List.getD_eq_getElem?_getD, List.getElem?_eq_getElem (by rw [irange_len]; exact hi)] at this
    exact this
  rw [hg] at c3
  simp only [Option.map_some] at c3
  clear hc hg T A P
  have him : ¬ (m : Int) ≤ i := by omega
  have hii : (i : Int) < m := by omega
  go_enter Try.func51, Try.ntmps51
  go_wp2
  go_loopw [5] (fun n wq => n = .int .i64 m ∧ wq = wr) (fun _ _ => 0)
  case atStart => exact ⟨rfl, rfl⟩
  case round =>
    obtain ⟨rfl, rfl⟩ := hrel
    go_wp2
    go_ret
    exact ⟨rfl, rfl⟩
set_option maxHeartbeats 4000000 in
theorem ts_low {ws : World} (P : Hid (Pr w ws pb aa bb L L' m)) (p : Option Addr) (n c : Nat) (xs : List Int) (hn : xs.length = n) (h4 : n ≤ 1000) (HX : Hid (∀ z ∈ xs, 0 ≤ z ∧ z < (m : Int))) (HV : Hid (RdW ws (.slice p n c) xs)) : Calls Try.prog 81 #[.pointer (some ⟨pb, 0, none⟩), .slice p n c] ws fun e w' => ∃ p' c', e = .returned (.slice p' n c') ∧ w'.ownsRow ws.heap.size 3 1 (.slice p' n c') n (xs.map (Value.int .i64)) ∧ Below ws.heap.size ws w' := by
  obtain ⟨i0, hi', hz0, hz1, hz2⟩ := info_parts (P := Try.prog) (e := 3) (z := .int .i64 0) (size := 1) (bytes := 8) (by kernel_rfl)
  go_enter Try.func81, Try.ntmps81
  go_wp2
  go_loopw [5, 6] (fun v i wq => ∃ (j : Nat) (p' : Option Addr) (c' : Nat), i = .int .i64 j ∧ j ≤ n ∧ v = .slice p' j c' ∧ wq.ownsRow ws.heap.size 3 1 (.slice p' j c') j ((xs.take j).map (Value.int .i64)) ∧ Below ws.heap.size ws wq) (fun _ i _ => n - (intOf i).toNat)
  case atStart => exact ⟨0, none, 0, rfl, by omega, rfl, World.ownsRow_nil _ _ _ _, Below.refl _ _⟩
  case round =>
    obtain ⟨j, p', c', rfl, hj, rfl, hown, hB⟩ := hrel
    have HO := (show Hid _ from hown)
    clear hown
    by_cases hlt : j < n
    · obtain ⟨bq, oq, rfl, hbq, hcq⟩ := rdw_at (HV.out.below hB) (t := j) (by omega)
      have hz := HX.out (xs.getD j 0) (by rw [List.getD_eq_getElem?_getD, List.getElem?_eq_getElem (by omega)]; exact List.getElem_mem _)
      obtain ⟨q, hq⟩ : ∃ q : Nat, xs.getD j 0 = q := ⟨(xs.getD j 0).toNat, by omega⟩
      have hsn : (xs.take (j + 1)).map (Value.int .i64) = (xs.take j).map (Value.int .i64) ++ [.int .i64 q] := by
        rw [List.take_add_one, List.getElem?_eq_getElem (by omega), List.map_append, ← hq, List.getD_eq_getElem?_getD, List.getElem?_eq_getElem (by omega)]
        rfl
      rw [hq] at hz hcq
      have HSN := (show Hid _ from hsn)
      clear hsn hq
      go_wp2_with (first
        | (go_at_call 51; refine (t_low (P.out.step hB) q (by omega)).mono ?_; rintro ev w1 ⟨rfl, rfl⟩)
        | (at_builtin; refine wpList_append_own _ rfl (.tmp 13) (.tmp 20) 22 rfl ws.heap.size 3 i0 (.int .i64 0) 1 8 Try.underlying22 hi' hz0 hz1 hz2 rfl (by decide) (.slice p' j c') j _ rfl (World.ownsRow.alloc HO.out _) ⟨w1.heap.size, 0, none⟩ 1 1 [.int .i64 q] rfl rfl (news1 _ _ _) (fun u hu => by simp at hu; subst hu; rfl) (by unfold maxLen; omega) (by omega) (by have := hB.size; simp; omega) ?_; intro v7 w7 hown7 hgrow7 _))
      obtain ⟨p8, c8, rfl⟩ := row_slice hown7
      have hs := hB.size
      refine ⟨⟨j + 1, p8, c8, by simp, by omega, rfl, ?_, (hB.alloc hs _).grown hgrow7 (by simp; omega) (fun k hk => (row_base HO.out hk).1)⟩, by simp [intOf]; omega⟩
      rw [HSN.out]
      exact hown7
    · obtain rfl : j = n := by omega
      have ho := HO.out
      rw [List.take_of_length_le (by omega)] at ho
      have HO2 := (show Hid _ from ho)
      clear HO ho
      go_wp2
      go_ret
      exact ⟨p', c', rfl, HO2.out, hB⟩
end
end Go.Proofs.Ytjegjbolmhaglaa
