/-
  STORELASTS: the Saves that came in; heavy; state. Own work.
-/
import Derived.Test.YtafpfiadapabaaaDoorSTv
namespace Go.Proofs.YtafpfiadapabaaaDoor
open Go.ChangeShapes Go.WideShapes Go.ChangeAt Go.RowKit Go.Maps Go.Deep
set_option maxRecDepth 100000
attribute [local go_sem ↓] Go.wp_at_zero Go.wp_at_succ
structure Sv where
  bv : Value
  bs : List Int
  ti : Int
  tr : Int
  kv : Value
  ks : List Bool
  t : Int
  av : Value
  zs0 : List Int
def Sv.val (a : Sv) : Value := .agg #[a.bv, .int .i64 a.ti, .int .i64 a.tr, a.kv, .int .i64 a.t, a.av]
structure SvAt (w : World) (b o : Nat) (a : Sv) : Prop where
  c0 : w.cell? ⟨b, o, none⟩ = some a.bv
  c1 : w.cell? ⟨b, o + 1, none⟩ = some (.int .i64 a.ti)
  c2 : w.cell? ⟨b, o + 2, none⟩ = some (.int .i64 a.tr)
  c3 : w.cell? ⟨b, o + 3, none⟩ = some a.kv
  c4 : w.cell? ⟨b, o + 4, none⟩ = some (.int .i64 a.t)
  c5 : w.cell? ⟨b, o + 5, none⟩ = some a.av
  rb : RdV w a.bv (a.bs.map (Value.int .u8))
  rk : RdV w a.kv (a.ks.map Value.bool)
  ra : RdV w a.av (a.zs0.map (Value.int .i64))
  it : In64 a.tr
  ia : ∀ z ∈ a.zs0, In64 z
def Saves (w : World) (v : Value) (S : List Sv) : Prop :=
  ∃ p c, v = .slice p S.length c ∧ (S = [] ∨ ∃ b o, p = some ⟨b, o, none⟩ ∧ b < w.heap.size ∧ ∀ i (h : i < S.length), SvAt w b (o + i * 6) S[i])
theorem SvAt.below {w w' : World} {b o : Nat} {s : Sv} (h : SvAt w b o s) (hb : b < w.heap.size) (hB : Below w.heap.size w w') : SvAt w' b o s :=
  ⟨(hB.cell (p := ⟨b, o, none⟩) hb).trans h.c0, (hB.cell (p := ⟨b, o + 1, none⟩) hb).trans h.c1, (hB.cell (p := ⟨b, o + 2, none⟩) hb).trans h.c2, (hB.cell (p := ⟨b, o + 3, none⟩) hb).trans h.c3, (hB.cell (p := ⟨b, o + 4, none⟩) hb).trans h.c4, (hB.cell (p := ⟨b, o + 5, none⟩) hb).trans h.c5, h.rb.below hB, h.rk.below hB, h.ra.below hB, h.it, h.ia⟩
theorem saves_nth {w : World} {p : Option Addr} {n c t : Nat} {S : List Sv} (h : Saves w (.slice p n c) S) (ht : t < S.length) : ∃ b o, p = some ⟨b, o, none⟩ ∧ b < w.heap.size ∧ SvAt w b (o + t * 6) S[t] := by
  obtain ⟨p', c', e, rfl | ⟨b, o, rfl, hb, hc⟩⟩ := h
  · exact absurd ht (Nat.not_lt_zero _)
  · cases e
    exact ⟨b, o, rfl, hb, hc t ht⟩
section
variable {H : Type} {enc : TypeId × Value → H} {w : World} {base : Nat} {held : Bool}
theorem open_boolsV {fuel : Nat} {v : Value} {x : DataW H × List MemPlace} (h : DataW.trod enc Tryd.prog w base (fun _ => true) held fuel 33 [v] = some x) : ∃ ks : List Bool, RdV w v (ks.map Value.bool) := by
  rcases open_bools Tryd.underlying33 Tryd.underlying4 (by kernel_rfl) h with ⟨hcs, _⟩ | ⟨a, len, cap, B, hcs, _, hl, hm, _, hcell⟩
  · cases hcs
    exact ⟨[], none, 0, rfl, .inl rfl⟩
  · cases hcs
    by_cases h0 : len = 0
    · subst h0
      exact ⟨[], _, cap, rfl, .inl rfl⟩
    · obtain ⟨b, off, spot⟩ := a
      have hc0 := hcell 0 (by omega)
      have hspot : spot = none := by simpa [Addr.add] using World.cell?_spot hc0
      subst hspot
      have hb : b < w.heap.size := by
        have := World.block_lt_of_cell? w _ hc0
        simpa [Addr.add] using this
      refine ⟨(List.range len).map B, some ⟨b, off, none⟩, cap, by simp, .inr ⟨b, off, rfl, hb, fun t ht => ?_⟩⟩
      have ht' : t < len := by simpa using ht
      have h1 := hcell t (by omega)
      rw [addr_mid] at h1
      rw [h1, List.getElem?_map, List.getElem?_map, List.getElem?_range ht']
      rfl
theorem open_intsV {fuel : Nat} {v : Value} {x : DataW H × List MemPlace} (h : DataW.trod enc Tryd.prog w base (fun _ => true) held fuel 34 [v] = some x) : ∃ zs0 : List Int, RdV w v (zs0.map (Value.int .i64)) ∧ ∀ z ∈ zs0, In64 z := by
  rcases open_ints Tryd.underlying34 Tryd.underlying3 (by kernel_rfl) h with ⟨hcs, _⟩ | ⟨a, len, cap, zs, hcs, _, hl, hm, hz, _, hcell, hwz⟩
  · cases hcs
    exact ⟨[], ⟨none, 0, rfl, .inl rfl⟩, fun z hz => by cases hz⟩
  · cases hcs
    have hlz : len ≤ zs.length := by rw [hz]; split <;> omega
    by_cases h0 : len = 0
    · subst h0
      exact ⟨[], ⟨_, cap, rfl, .inl rfl⟩, fun z hz => by cases hz⟩
    · obtain ⟨b, off, spot⟩ := a
      have hc0 := hcell 0 (by omega)
      have hspot : spot = none := by simpa [Addr.add] using World.cell?_spot hc0
      subst hspot
      have hb : b < w.heap.size := by
        have := World.block_lt_of_cell? w _ hc0
        simpa [Addr.add] using this
      refine ⟨zs.take len, ⟨some ⟨b, off, none⟩, cap, by simp; omega, .inr ⟨b, off, rfl, hb, fun t ht => ?_⟩⟩, fun z hz' => i64_bounds (hwz z (List.mem_of_mem_take hz'))⟩
      have ht' : t < len := by simp at ht; omega
      have h1 := hcell t (by omega)
      rw [addr_mid] at h1
      rw [h1, List.getElem?_map, List.getElem?_take, if_pos ht', List.getD_eq_getElem?_getD, List.getElem?_eq_getElem (by omega)]
      rfl
theorem open_sv {fuel : Nat} {cs : List Value} {x : DataW H × List MemPlace} (h : DataW.trod enc Tryd.prog w base (fun _ => true) held fuel 36 cs = some x) : ∃ a : Sv, cs = [a.bv, .int .i64 a.ti, .int .i64 a.tr, a.kv, .int .i64 a.t, a.av] ∧ RdV w a.bv (a.bs.map (Value.int .u8)) ∧ RdV w a.kv (a.ks.map Value.bool) ∧ RdV w a.av (a.zs0.map (Value.int .i64)) ∧ In64 a.tr ∧ ∀ z ∈ a.zs0, In64 z := by
  have hu := Tryd.underlying36
  obtain ⟨ys, m, _, _, hl, hlen, hf⟩ := DataW.trod_struct hu h
  have hl6 : cs.length = 6 := by rw [hl]; kernel_rfl
  match cs, hl6 with
  | [c0, c1, c2, c3, c4, c5], _ =>
    match ys, hlen with
    | [y0, y1, y2, y3, y4, y5], _ =>
      have h0 := hf 0 { name := "B", type := 31, offset := 0, embedded := false, tag := "", pkgPath := "", byteOffset := 0 } rfl
      have h1 := hf 1 { name := "Times", type := 3, offset := 1, embedded := false, tag := "", pkgPath := "", byteOffset := 24 } rfl
      have h2 := hf 2 { name := "Trip", type := 3, offset := 2, embedded := false, tag := "", pkgPath := "", byteOffset := 32 } rfl
      have h3 := hf 3 { name := "Keep", type := 33, offset := 3, embedded := false, tag := "", pkgPath := "", byteOffset := 40 } rfl
      have h4 := hf 4 { name := "Torn", type := 3, offset := 4, embedded := false, tag := "", pkgPath := "", byteOffset := 64 } rfl
      have h5 := hf 5 { name := "Again", type := 34, offset := 5, embedded := false, tag := "", pkgPath := "", byteOffset := 72 } rfl
      have e3 : Tryd.prog.cellsOf 3 = 1 := by kernel_rfl
      have e4 : Tryd.prog.cellsOf 31 = 1 := by kernel_rfl
      have e5 : Tryd.prog.cellsOf 34 = 1 := by kernel_rfl
      have e6 : Tryd.prog.cellsOf 33 = 1 := by kernel_rfl
      dsimp only at h0 h1 h2 h3 h4 h5
      rw [e3] at h1 h2 h4
      rw [e4] at h0
      rw [e5] at h5
      rw [e6] at h3
      simp only [List.drop, List.take] at h0 h1 h2 h3 h4 h5
      obtain ⟨k, hk, _, wk⟩ := DataW.trod_int Tryd.underlying3 h1
      obtain ⟨n, hn, _, wn⟩ := DataW.trod_int Tryd.underlying3 h2
      obtain ⟨t, ht, _, wt⟩ := DataW.trod_int Tryd.underlying3 h4
      obtain ⟨bs, hbs⟩ := open_insV h0
      obtain ⟨ks, hks⟩ := open_boolsV h3
      obtain ⟨zs0, has, hia⟩ := open_intsV h5
      cases hk
      cases hn
      cases ht
      exact ⟨⟨c0, bs, k, n, c3, ks, t, c5, zs0⟩, rfl, hbs.rd, hks, has, i64_bounds wn, hia⟩
theorem open_saves {r : Reach} {b0 : Nat} {v : Value} {d : DataW H} {ps : List MemPlace} (hval : Value.okWide Tryd.prog w r b0 22 v) (h : DataW.Trod enc Tryd.prog w base (fun _ => true) held 22 v d ps) : ∃ S, Saves w v S := by
  obtain ⟨fuel, hf⟩ := h
  obtain ⟨a0, len0, cap0, rfl⟩ := okWide_slice Tryd.underlying22 hval
  rcases DataW.trod_slice Tryd.underlying22 hf with ⟨hcs, _⟩ | ⟨a, len, cap, elems, rest, n, _, hcs, _, _, _, _, hlen, hel, _⟩
  · simp [Value.cells] at hcs
    obtain ⟨rfl, rfl, rfl⟩ := hcs
    exact ⟨[], none, 0, rfl, .inl rfl⟩
  · simp [Value.cells] at hcs
    obtain ⟨rfl, rfl, rfl⟩ := hcs
    by_cases h0 : len0 = 0
    · subst h0
      exact ⟨[], _, cap0, rfl, .inl rfl⟩
    · have e6 : Tryd.prog.cellsOf 36 = 6 := by kernel_rfl
      rw [e6] at hel
      have each : ∀ i, i < len0 → ∃ s : Sv, (w.cell? ((a.add (i * 6)).add 0) = some s.bv ∧ w.cell? ((a.add (i * 6)).add 1) = some (.int .i64 s.ti) ∧ w.cell? ((a.add (i * 6)).add 2) = some (.int .i64 s.tr) ∧ w.cell? ((a.add (i * 6)).add 3) = some s.kv ∧ w.cell? ((a.add (i * 6)).add 4) = some (.int .i64 s.t) ∧ w.cell? ((a.add (i * 6)).add 5) = some s.av) ∧ RdV w s.bv (s.bs.map (Value.int .u8)) ∧ RdV w s.kv (s.ks.map Value.bool) ∧ RdV w s.av (s.zs0.map (Value.int .i64)) ∧ In64 s.tr ∧ ∀ z ∈ s.zs0, In64 z := by
        intro i hi
        have h1 := hel i hi
        rw [List.getElem?_eq_getElem (by omega)] at h1
        obtain ⟨cs, hcs, ht⟩ := Option.bind_eq_some_iff.1 h1
        obtain ⟨_, _, hc⟩ := World.cells?_some hcs
        obtain ⟨s, rfl, h3⟩ := open_sv ht
        exact ⟨s, ⟨hc 0 (by omega), hc 1 (by omega), hc 2 (by omega), hc 3 (by omega), hc 4 (by omega), hc 5 (by omega)⟩, h3⟩
      obtain ⟨b, off, spot⟩ := a
      have hspot : spot = none := by
        obtain ⟨s, hs, _⟩ := each 0 (by omega)
        simpa [Addr.add] using World.cell?_spot hs.1
      subst hspot
      obtain ⟨S, hS, hP⟩ := choose_list len0 each
      have hb : b < w.heap.size := by
        obtain ⟨s, hs, _⟩ := each 0 (by omega)
        have := World.block_lt_of_cell? w _ hs.1
        simpa [Addr.add] using this
      refine ⟨S, _, cap0, by rw [hS], .inr ⟨b, off, rfl, hb, fun i hi => ?_⟩⟩
      obtain ⟨⟨h1, h2, h3, h4, h5, h6⟩, h7, h8, h9, h10, h11⟩ := hP i hi
      rw [addr_mid, addr_mid] at h1 h2 h3 h4 h5 h6
      exact ⟨h1, h2, h3, h4, h5, h6, h7, h8, h9, h10, h11⟩
end
structure HvPost (w : World) (S : List Sv) (e : Ending) (w' : World) : Prop where
  same : w' = w
  ex : ∃ r, e = .returned (.bool r) ∧ (r = false → S.length ≤ 100 ∧ ∀ i (h : i < S.length), i < 25 → S[i].bs.length ≤ 300 ∧ S[i].ks.length ≤ 600 ∧ S[i].zs0.length ≤ 5)
set_option maxHeartbeats 4000000 in
theorem heavy_ok {w : World} {v : Value} {S : List Sv} (H : Saves w v S) : Calls Tryd.prog 8 #[v] w (HvPost w S) := by
  obtain ⟨p, c, rfl, _⟩ := id H
  go_enter Tryd.func8, Tryd.ntmps8
  go_wp2
  all_goals first
    | (go_ret; exact ⟨rfl, true, by simp, fun h => by cases h⟩)
    | skip
  have hl : S.length ≤ 100 := by omega
  go_loopw [3] (fun i wq => wq = w ∧ ∃ j : Nat, i = .int .i64 j ∧ j ≤ S.length ∧ j ≤ 25 ∧ Hid (∀ i (h : i < S.length), i < j → S[i].bs.length ≤ 300 ∧ S[i].ks.length ≤ 600 ∧ S[i].zs0.length ≤ 5)) (fun i _ => S.length - (intOf i).toNat)
  case atStart => exact ⟨rfl, 0, rfl, by omega, by omega, fun i h hi => by omega⟩
  case round =>
    obtain ⟨rfl, j, rfl, hj, hj2, HA⟩ := hrel
    by_cases hlt : j < S.length
    · have hjI : (j : Int) < S.length := by omega
      by_cases h100 : j < 25
      · have h100I : (j : Int) < 25 := by omega
        obtain ⟨b, o, rfl, hb, A⟩ := saves_nth H hlt
        have a0 := A.c0
        have a3 := A.c3
        have a5 := A.c5
        obtain ⟨pb, cb, e1⟩ := rdv_shape A.rb
        obtain ⟨pk, ck, e2⟩ := rdv_shape A.rk
        obtain ⟨pa, ca, e3⟩ := rdv_shape A.ra
        rw [e1, List.length_map] at a0
        rw [e2, List.length_map] at a3
        rw [e3, List.length_map] at a5
        have hmore : S[j].bs.length ≤ 300 → S[j].ks.length ≤ 600 → S[j].zs0.length ≤ 5 → Hid (∀ i (h : i < S.length), i < j + 1 → S[i].bs.length ≤ 300 ∧ S[i].ks.length ≤ 600 ∧ S[i].zs0.length ≤ 5) := fun h1 h2 h3 i h hi => by
          by_cases hij : i = j
          · subst hij
            exact ⟨h1, h2, h3⟩
          · exact HA.out i h (by omega)
        have HM := (show Hid _ from hmore)
        clear hmore e1 e2 e3 A
        generalize S[j].bs.length = lb at *
        generalize S[j].ks.length = lk at *
        generalize S[j].zs0.length = la at *
        go_wp2
        all_goals first
          | (refine ⟨⟨trivial, j + 1, by simp, by omega, by omega, HM.out (by omega) (by omega) (by omega)⟩, by simp [intOf]; omega⟩)
          | (go_ret; exact ⟨rfl, true, by simp, fun h => by cases h⟩)
      · have h100I : ¬ (j : Int) < 25 := by omega
        go_wp2
        go_ret
        exact ⟨rfl, false, by simp, fun _ => ⟨hl, fun i h hi => HA.out i h (by omega)⟩⟩
    · have hjI : ¬ (j : Int) < S.length := by omega
      go_wp2
      go_ret
      exact ⟨rfl, false, by simp, fun _ => ⟨hl, fun i h hi => HA.out i h (by omega)⟩⟩
end Go.Proofs.YtafpfiadapabaaaDoor
