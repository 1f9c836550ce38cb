/-
  RATCHETMEETS: the walk. Own work.
-/
import Derived.Test.YtikbeagcflofhaaRTk
import Derived.Test.YtikbeagcflofhaaRTg
import Derived.Deep.AppendLies
import Derived.Deep.RegionHeld3
namespace Go.Proofs.Ytikbeagcflofhaa
open Go.ChangeShapes Go.WideShapes Go.ChangeAt Go.RowKit Go.Maps Go.Deep
set_option maxRecDepth 100000
attribute [local go_sem ↓] Go.wp_at_zero Go.wp_at_succ
/-- What the second loop holds. -/
structure Mts (w : World) (aa rb sb n : Nat) (kv : Value) (xs : List Int) (wq : World) (L : List Tm) (c next : Nat) (sk : List Ky) (q : Option Addr) (d : Nat) (tk : List Bool) : Prop where
  on : On w wq aa L (fun k => (k = rb ∨ k = rb + 1 ∨ kv.ownBlock = some k) ∨ (Value.slice q sk.length d).ownBlock = some k)
  keys : wq.ownsRow (sb + 1) 3 1 kv n (xs.map (Value.int .i64))
  taken : wq.ownsRow (rb + 1) 4 1 (.slice (some ⟨rb + 1, 0, none⟩) n n) n (tk.map Value.bool)
  rv : Rv wq rb (c : Int) (next : Int) (.slice q sk.length d)
  sk' : wq.ownsRow (rb + 2) 87 2 (.slice q sk.length d) sk.length (flatK sk)
  ok : RtOk L 0 c next sk
  tak : Tak n tk next sk
  le : L.length ≤ 1 + 2 * n + 2 * next
  kys : Kys L xs
  kb : ∀ k, kv.ownBlock = some k → k < rb
  wl : w.heap.size ≤ rb
theorem at_form (z : Int) (n : Nat) (h1 : 1 ≤ n) (h2 : n ≤ 150) : ∃ a : Nat, wrap64 ((IntKind.u64.wrap z).tmod n) = (a : Int) ∧ a < n := by
  have h0 : 0 ≤ IntKind.u64.wrap z := Int.emod_nonneg _ (by decide)
  have e1 : (IntKind.u64.wrap z).tmod n = (IntKind.u64.wrap z) % n := Int.tmod_eq_emod_of_nonneg h0
  have h3 := Int.emod_nonneg (IntKind.u64.wrap z) (b := (n : Int)) (by omega)
  have h4 := Int.emod_lt_of_pos (IntKind.u64.wrap z) (b := (n : Int)) (by omega)
  refine ⟨((IntKind.u64.wrap z) % n).toNat, ?_, by omega⟩
  rw [e1]
  generalize (IntKind.u64.wrap z) % (n : Int) = y at *
  unfold wrap64
  omega
section
variable {w wr w5 : World} {aa rb sb n c next c' next' at0 : Nat} {kv : Value} {xs : List Int} {L L' : List Tm} {sk ks5 : List Ky} {q q5 : Option Addr} {d d5 : Nat} {tk : List Bool}
theorem Mts.hb (M : Mts w aa rb sb n kv xs wr L c next sk q d tk) : rb + 1 < wr.heap.size := M.on.lt _ (.inl (.inr (.inl rfl)))
theorem Mts.far (M : Mts w aa rb sb n kv xs wr L c next sk q d tk) (S : Stay (fun k => (k = rb ∨ k = rb + 1 ∨ kv.ownBlock = some k) ∨ (Value.slice q sk.length d).ownBlock = some k) wr w5) (o : Obj) : Rv (w5.alloc o) rb (c : Int) (next : Int) (.slice q sk.length d) ∧ (w5.alloc o).ownsRow (rb + 1) 4 1 (.slice (some ⟨rb + 1, 0, none⟩) n n) n (tk.map Value.bool) ∧ (w5.alloc o).ownsRow (sb + 1) 3 1 kv n (xs.map (Value.int .i64)) :=
  ⟨(M.rv.stay S (.inl (.inl rfl))).alloc o, (row_keeps M.taken S (fun k hk hn => hn (.inl (.inr (.inl (by cases hk; rfl)))))).alloc o, (row_keeps M.keys S (fun k hk hn => hn (.inl (.inr (.inr hk))))).alloc o⟩
theorem Mts.step (M : Mts w aa rb sb n kv xs wr L c next sk q d tk) (B : Below wr.heap.size wr w5) : Mts w aa rb sb n kv xs w5 L c next sk q d tk :=
  ⟨M.on.step B, row_keeps (F := fun _ => False) M.keys (Keeps.of_below B) (fun _ _ h => h), row_keeps (F := fun _ => False) M.taken (Keeps.of_below B) (fun _ _ h => h), M.rv.below B, row_keeps (F := fun _ => False) M.sk' (Keeps.of_below B) (fun _ _ h => h), M.ok, M.tak, M.le, M.kys, M.kb, M.wl⟩
theorem Mts.put (M : Mts w aa rb sb n kv xs wr L c next sk q d tk) (S : Stay (fun k => (k = rb ∨ k = rb + 1 ∨ kv.ownBlock = some k) ∨ (Value.slice q sk.length d).ownBlock = some k) wr w5) (T5 : On w w5 aa L' (fun k => (k = rb ∨ k = rb + 1 ∨ kv.ownBlock = some k) ∨ (Value.slice q5 ks5.length d5).ownBlock = some k)) (O5 : w5.ownsRow wr.heap.size 87 2 (.slice q5 ks5.length d5) ks5.length (flatK ks5)) (ok : RtOk L' 0 c' next' ks5) (tak : Tak n (tk.set at0 true) next' ks5) (le : L'.length ≤ 1 + 2 * n + 2 * next') (kys : Kys L' xs) (o : Obj) :
    Mts w aa rb sb n kv xs ((((((w5.setCell ⟨rb + 1, at0, none⟩ (.bool true)).alloc o).setCell ⟨rb, 0, none⟩ (.int .i64 (c' : Int))).setCell ⟨rb, 1, none⟩ (.int .i64 (next' : Int))).setCell ⟨rb, 2, none⟩ (.slice q5 ks5.length d5)).drew) L' c' next' ks5 q5 d5 (tk.set at0 true) := by
  have hb := M.hb
  have f1 := M.rv.stay S (.inl (.inl rfl))
  have f2 := row_keeps M.taken S (fun k hk hn => hn (.inl (.inr (.inl (by cases hk; rfl)))))
  have f3 := row_keeps M.keys S (fun k hk hn => hn (.inl (.inr (.inr hk))))
  obtain ⟨g1, g2⟩ := World.ownsRow.stored f2 at0 (.bool true)
  rw [← List.map_set] at g1
  have hK1 : Keeps (fun k => k = rb + 1) w5 _ := Keeps.of_grown g2 (fun k hk => by cases hk; rfl)
  have hKa : Keeps (fun _ => False) (w5.setCell ⟨rb + 1, at0, none⟩ (.bool true)) ((w5.setCell ⟨rb + 1, at0, none⟩ (.bool true)).alloc o) := Keeps.of_below ((Below.refl _ _).alloc (Nat.le_refl _) o)
  have hK2 := keeps_set3 ((w5.setCell ⟨rb + 1, at0, none⟩ (.bool true)).alloc o) rb (.int .i64 (c' : Int)) (.int .i64 (next' : Int)) (.slice q5 ks5.length d5)
  have hKd : ∀ x : World, Keeps (fun _ => False) x x.drew := fun x => ⟨rfl, rfl, rfl, Nat.le_refl _, fun _ _ _ => rfl⟩
  have hkv : ∀ k, kv.ownBlock = some k → ¬ k = rb + 1 ∧ ¬ k = rb := fun k hk => by have := M.kb k hk; omega
  have ho5 : ∀ k, (Value.slice q5 ks5.length d5).ownBlock = some k → ¬ k = rb + 1 ∧ ¬ k = rb := fun k hk => by have := (row_base O5 hk).1; omega
  have hw := M.wl
  have T6 := ((((T5.own hK1 (fun k hk => .inl ⟨.inl (.inr (.inl hk)), by omega⟩)).alloc o).own hK2 (fun k hk => .inl ⟨.inl (.inl hk), by omega⟩)).own (hKd _) (fun k hk => hk.elim))
  refine ⟨T6, ?_, ?_, ?_, ?_, ok, tak, le, kys, M.kb, M.wl⟩
  · exact row_keeps (row_keeps (row_keeps (row_keeps f3 hK1 (fun k hk => (hkv k hk).1)) hKa (fun _ _ h => h)) hK2 (fun k hk => (hkv k hk).2)) (hKd _) (fun _ _ h => h)
  · exact row_keeps (row_keeps (row_keeps g1 hKa (fun _ _ h => h)) hK2 (fun k hk he => by simp only [Value.ownBlock, Option.some.injEq] at hk; omega)) (hKd _) (fun _ _ h => h)
  · exact (((f1.keep hK1 (by omega)).keep hKa (fun h => h)).set (c' : Int) (next' : Int) (.slice q5 ks5.length d5)).keep (hKd _) (fun h => h)
  · exact row_lower (row_keeps (row_keeps (row_keeps (row_keeps O5 hK1 (fun k hk => (ho5 k hk).1)) hKa (fun _ _ h => h)) hK2 (fun k hk => (ho5 k hk).2)) (hKd _) (fun _ _ h => h)) (by omega)
end
set_option maxHeartbeats 16000000 in
theorem meets_main (n : Nat) (hn1 : 1 ≤ n) (hn : n ≤ 150) (p1 : Option Addr) (c1 : Nat) (ks : List Int) (w : World) (hm80 : ks.length ≤ 80) (H1 : Hid (RdW w (.slice p1 ks.length c1) ks)) : Calls Try.prog 10 #[.int .i64 n, .slice p1 ks.length c1] w fun e w' => e = .returned (.bool true) ∧ Below w.heap.size w w' := by
  obtain ⟨i0, hi', hz0, hz1, hz2⟩ := info_parts (P := Try.prog) (e := 3) (z := .int .i64 0) (size := 1) (bytes := 8) (by kernel_rfl)
  obtain ⟨b0, hb, hb0, hb1, hb2⟩ := info_parts (P := Try.prog) (e := 4) (z := .bool false) (size := 1) (bytes := 1) (by kernel_rfl)
  have hnA : ¬ (n : Int) < 1 := by omega
  have hnB : ¬ (150 : Int) < n := by omega
  have hnC : ¬ (80 : Int) < ks.length := by omega
  go_enter Try.func10, Try.ntmps10
  go_wp2_with (first
    | (go_at_call 13; refine (new_ar _).mono ?_; rintro ev w1 ⟨aa, F0, rfl, A0, hF0, B0⟩; have T0 := on_fresh A0 hF0 B0; clear A0 hF0 B0)
    | (go_at_call 14; refine (make_on T0 1 1 (v := .slice none 0 0) (xs := []) (.inl ⟨rfl, rfl⟩) (by omega) put_a1).mono ?_; rintro ev w2 ⟨rfl, T1, _⟩; clear T0)
    | (go_at_call 47; refine (rnew_ok 0 _).mono ?_; rintro ev w3 ⟨rfl, B3⟩; have T2 := T1.step B3; clear T1 B3))
  have T3 := (T2.add ((Below.refl _ w3).alloc (Nat.le_refl _) (.cells #[.int .i64 0, .int .i64 0, .slice none 0 0] 70)) (P := fun k => k = w3.heap.size) (fun k hk => by simp; omega)).mono (G' := fun k => k = w3.heap.size ∨ (Value.slice none 0 0).ownBlock = some k) (fun k hk => .inr (hk.elim id (fun h => by simp [Value.ownBlock] at h)))
  have V3 := Rv.new w3 0 0 (.slice none 0 0)
  have R3 := RtOk.new (L := [(1, 1, [])]) (c := 0) (by simp)
  have hrb := T2.below.size
  clear T2
  generalize w3.alloc (.cells #[.int .i64 0, .int .i64 0, .slice none 0 0] 70) = w4 at *
  generalize w3.heap.size = sb at *
  go_loopw [9, 10] (fun v i wq => ∃ (j : Nat) (L : List Tm) (c : Nat) (q : Option Addr) (d : Nat) (p : Option Addr) (cc : Nat) (xs : List Int), v = .slice p j cc ∧ i = .int .i64 j ∧ j ≤ n ∧ xs.length = j ∧ On w wq aa L (fun k => k = sb ∨ (Value.slice p j cc).ownBlock = some k) ∧ wq.ownsRow (sb + 1) 3 1 (.slice p j cc) j (xs.map (Value.int .i64)) ∧ Rv wq sb c j (.slice q 0 d) ∧ RtOk L 0 c j [] ∧ L.length ≤ 1 + 2 * j ∧ Kys L xs) (fun _ i _ => n - (intOf i).toNat)
  case atStart => exact ⟨0, _, 0, none, 0, none, 0, [], rfl, rfl, by omega, rfl, T3, World.ownsRow_nil _ _ _ _, V3, R3, by simp, ⟨fun i k h => by simp at h⟩⟩
  case round =>
    clear T3 V3 R3
    obtain ⟨j, L, c, q, d, p, cc, xs, rfl, rfl, hjF, hxl, T, O, V, R, hL, K⟩ := hrel
    have HXL := (show Hid (xs.length = j) from hxl)
    clear hxl
    have HR := (show Hid (RtOk L 0 c j []) from R)
    have HV := (show Hid (Rv wr sb c j (.slice q 0 d)) from V)
    have HO := (show Hid (wr.ownsRow (sb + 1) 3 1 (.slice p j cc) j (xs.map (Value.int .i64))) from O)
    have HK := (show Hid (Kys L xs) from K)
    have v0 := V.c0
    have v1 := V.c1
    have v2 := V.c2
    clear R V O K
    by_cases hlt : j < n
    · obtain ⟨k, L1, c', L2, K1, K2⟩ := turn_mk (L := L) (c := c) HR.out.pos.lt (by omega)
      have M1 := (show Hid (MkT L (4, 1, [(c : Int)]) k L1) from K1)
      have M2 := (show Hid (MkT L1 (4, 2, [(c : Int)]) c' L2) from K2)
      have hjI : (j : Int) < n := by omega
      clear K1 K2
      go_wp2_with (go_at_call 49; refine (send0 T M1.out M2.out HR.out (by omega)).mono ?_; rintro ev w5 ⟨q5, d5, rfl, T5, S5⟩
                   have HV5 := (show Hid (Rv (w5.alloc (.cells #[.int .i64 (c' : Int), .int .i64 ((j : Int) + 1), .slice q5 0 d5] 70)) sb c j (.slice q 0 d)) from (HV.out.stay S5 (.inl rfl)).alloc _)
                   have HO5 := (show Hid ((w5.alloc (.cells #[.int .i64 (c' : Int), .int .i64 ((j : Int) + 1), .slice q5 0 d5] 70)).ownsRow (sb + 1) 3 1 (.slice p j cc) j (xs.map (Value.int .i64))) from (row_keeps HO.out S5 (fun k hk hn => hn (.inr hk))).alloc _)
                   have HT5 := (show Hid (On w (w5.alloc (.cells #[.int .i64 (c' : Int), .int .i64 ((j : Int) + 1), .slice q5 0 d5] 70)) aa L2 (fun k => k = sb ∨ (Value.slice p j cc).ownBlock = some k)) from T5.alloc _)
                   have HN5 := (show Hid (Rv (w5.alloc (.cells #[.int .i64 (c' : Int), .int .i64 ((j : Int) + 1), .slice q5 0 d5] 70)) w5.heap.size (c' : Int) ((j : Int) + 1) (.slice q5 0 d5)) from Rv.new w5 _ _ _)
                   have hnb : sb < w5.heap.size := (HV.out.stay S5 (.inl rfl)).lt
                   have hkb := (show Hid (∀ k, (Value.slice p j cc).ownBlock = some k → sb < k ∧ k < w5.heap.size) from fun k hk => by
                     have := row_base HO.out hk
                     have := S5.size
                     omega)
                   clear v0 v1 v2 S5 T T5)
      have hkey := (HR.out.sent (by omega) M1.out M2.out).2
      have HKY := (show Hid (KeyAt L2 0 j k) from hkey)
      have hsent := (HR.out.sent (by omega) M1.out M2.out).1
      have HSN := (show Hid (RtOk L2 0 c' (j + 1) []) from hsent)
      have HK2 := (show Hid (Kys L2 xs) from HK.out.keep (fun i u h => M2.out.keep i u (M1.out.keep i u h)))
      have hL2 : L2.length ≤ 1 + 2 * (j + 1) := by have := M1.out.le1; have := M2.out.le1; omega
      clear hkey hsent HK HO HV
      generalize w5.alloc (.cells #[.int .i64 (c' : Int), .int .i64 ((j : Int) + 1), .slice q5 0 d5] 70) = w6 at *
      generalize w5.heap.size = nb at *
      go_loopw [15] (fun i wq => ∃ t : Nat, i = .int .i64 t ∧ t ≤ j ∧ wq = w6) (fun i _ => j - (intOf i).toNat)
      case atStart => exact ⟨0, rfl, by omega, rfl⟩
      case round =>
        obtain ⟨t, rfl, ht, rfl⟩ := hrel
        by_cases htl : t < j
        · obtain ⟨x, hx⟩ : ∃ x, xs[t]? = some x := ⟨_, List.getElem?_eq_getElem (by have := HXL.out; omega)⟩
          obtain ⟨s, rfl, hs⟩ := HK2.out.at' t x hx
          obtain ⟨g, rfl, _, _, _, hc⟩ := row_open HO5.out (by omega)
          have y1 := hc t (by omega)
          rw [List.getElem?_map, hx] at y1
          simp only [Option.map_some] at y1
          have hne : ¬ s = k := KeyAt.ne HT5.out.wf htl hs HKY.out
          have hneI : ¬ (s : Int) = (k : Int) := by omega
          have htI : (t : Int) < j := by omega
          clear hc hs hx
          go_wp2
          exact ⟨⟨t + 1, by simp, by omega, trivial⟩, by simp [intOf]; omega⟩
        · obtain rfl : j = t := by omega
          have z0 := HN5.out.c0
          have z1 := HN5.out.c1
          have z2 := HN5.out.c2
          have hnl := HN5.out.lt
          have hsl := HV5.out.lt
          have hnn : ∀ k, (Value.slice p j cc).ownBlock = some k → k ≠ nb ∧ k ≠ sb := fun k hk => by have := hkb.out k hk; omega
          have rowA : ∀ ob, ((wr.alloc ob).drew).ownsRow (sb + 1) 3 1 (.slice p j cc) j (xs.map (Value.int .i64)) := fun ob => row_keeps (F := fun _ => False) (HO5.out.alloc ob) (Keeps.of_below (Below.refl _ _).drew) (fun _ _ h => h)
          have a0 := (((Below.refl _ wr).alloc (Nat.le_refl _) (.cells #[.int .i64 (k : Int)] 3)).cell (p := ⟨nb, 0, none⟩) hnl).trans z0
          have a1 := (((Below.refl _ wr).alloc (Nat.le_refl _) (.cells #[.int .i64 (k : Int)] 3)).cell (p := ⟨nb, 1, none⟩) hnl).trans z1
          have a2 := (((Below.refl _ wr).alloc (Nat.le_refl _) (.cells #[.int .i64 (k : Int)] 3)).cell (p := ⟨nb, 2, none⟩) hnl).trans z2
          have hbw : sb + 1 ≤ ((wr.alloc (.cells #[.int .i64 (k : Int)] 3)).drew).heap.size := by
            have := (((Below.refl _ wr).alloc (Nat.le_refl _) (.cells #[.int .i64 (k : Int)] 3)).drew).size
            omega
          have hszA : wr.heap.size ≤ ((wr.alloc (.cells #[.int .i64 (k : Int)] 3)).drew).heap.size := (((Below.refl _ wr).alloc (Nat.le_refl _) (.cells #[.int .i64 (k : Int)] 3)).drew).size
          have HTA := (show Hid (On w ((wr.alloc (.cells #[.int .i64 (k : Int)] 3)).drew) aa L2 (fun k => k = sb ∨ (Value.slice p j cc).ownBlock = some k)) from HT5.out.step (((Below.refl _ wr).alloc (Nat.le_refl _) (.cells #[.int .i64 (k : Int)] 3)).drew))
          have HVA := (show Hid (Rv ((wr.alloc (.cells #[.int .i64 (k : Int)] 3)).drew) sb c j (.slice q 0 d)) from HV5.out.below (((Below.refl _ wr).alloc (Nat.le_refl _) (.cells #[.int .i64 (k : Int)] 3)).drew))
          have HAA := (show Hid (∀ (b i : Nat), b < wr.heap.size → ((wr.alloc (.cells #[.int .i64 (k : Int)] 3)).drew).cell? ⟨b, i, none⟩ = wr.cell? ⟨b, i, none⟩) from fun b i h => (((Below.refl _ wr).alloc (Nat.le_refl _) (.cells #[.int .i64 (k : Int)] 3)).drew).cell (p := ⟨b, i, none⟩) h)
          clear HN5
          go_wp2
          go_region_held3 (fun w' => w'.cell? ⟨nb, 0, none⟩ = some (.int .i64 (c' : Int)) ∧ w'.cell? ⟨nb, 1, none⟩ = some (.int .i64 ((j : Int) + 1)) ∧ w'.cell? ⟨nb, 2, none⟩ = some (.slice q5 0 d5))
            (first | exact ⟨z0, z1, z2⟩ | exact ⟨a0, a1, a2⟩ | exact ⟨s0, s1, s2⟩ | exact ⟨((keeps_set3 w7 sb _ _ _).cell (p := ⟨nb, 0, none⟩) hn7 (Nat.ne_of_gt hnb)).trans s0, ((keeps_set3 w7 sb _ _ _).cell (p := ⟨nb, 1, none⟩) hn7 (Nat.ne_of_gt hnb)).trans s1, ((keeps_set3 w7 sb _ _ _).cell (p := ⟨nb, 2, none⟩) hn7 (Nat.ne_of_gt hnb)).trans s2⟩)
            (first | (refine step_append_lies _ (by rfl) _ _ 22 (by rfl) (sb + 1) 3 i0 _ 1 8 Try.underlying22 hi' hz0 hz1 hz2 (by rfl) (by decide) (.slice p j cc) j (xs.map (Value.int .i64)) (by rfl) (rowA _) ⟨wr.heap.size, 0, none⟩ 1 1 [.int .i64 (k : Int)] (by rfl) (by rfl) (World.news_of_block (heap_alloc_new wr _)) (by simp [Value.oneCell']) (by omega) (by unfold maxLen; omega) (by omega) hbw _ rfl ?_; intro g cap w7 hown7 hg7 hat7 hlt7
                      have s0 := (hg7.cell_far ⟨nb, 0, none⟩ (Nat.lt_of_lt_of_le hnl hszA) (fun e => (hnn _ e.symm).1 rfl)).trans a0
                      have s1 := (hg7.cell_far ⟨nb, 1, none⟩ (Nat.lt_of_lt_of_le hnl hszA) (fun e => (hnn _ e.symm).1 rfl)).trans a1
                      have s2 := (hg7.cell_far ⟨nb, 2, none⟩ (Nat.lt_of_lt_of_le hnl hszA) (fun e => (hnn _ e.symm).1 rfl)).trans a2
                      have V7 := HVA.out.keep (Keeps.of_grown (F := fun k => (Value.slice p j cc).ownBlock = some k) hg7 (fun k hk => hk)) (fun e => (hnn _ e).2 rfl)
                      have HV7 := (show Hid (Rv w7 sb c j (.slice q 0 d)) from V7)
                      have t0 := V7.c0
                      have t1 := V7.c1
                      have t2 := V7.c2
                      have f0 := V7.f0
                      have f1 := V7.f1
                      have f2 := V7.f2
                      have HT7 := (show Hid (On w w7 aa L2 (fun k => k = sb ∨ k = g)) from on_grow2 HTA.out (fun k hk => by have := hkb.out k hk; omega) hg7 hat7 hlt7)
                      have hsg : sb < g := by
                        rcases hat7 with e | e
                        · exact (hkb.out g e).1
                        · omega
                      have HO7 := (show Hid (w7.ownsRow (sb + 1) 3 1 (.slice (some ⟨g, 0, none⟩) (j + 1) cap) (j + 1) (xs.map (Value.int .i64) ++ [.int .i64 (k : Int)])) from hown7)
                      have hn7 : nb < w7.heap.size := Nat.lt_of_lt_of_le hnl (Nat.le_trans hszA hg7.size)
                      clear hown7 hg7 hat7 V7))
          go_wp2
          have hT8 := HT7.out.own (keeps_set3 w7 sb (.int .i64 (c' : Int)) (.int .i64 ((j : Int) + 1)) (.slice q5 0 d5)) (fun k hk => .inl ⟨.inl hk, by omega⟩)
          have hV8 := HV7.out.set (c' : Int) ((j : Int) + 1) (.slice q5 0 d5)
          refine ⟨⟨j + 1, L2, c', q5, d5, some ⟨g, 0, none⟩, cap, xs ++ [(k : Int)], rfl, by simp, by omega, by have := HXL.out; simp; omega, hT8.mono (fun k hk => hk.elim .inl (fun h => .inr (by simpa [Value.ownBlock] using h.symm))), ?_, by simpa using hV8, HSN.out, hL2, HK2.out.snoc (by rw [HXL.out]; exact HKY.out)⟩, by simp [intOf]; omega⟩
          rw [List.map_append]
          exact row_keeps HO7.out (keeps_set3 w7 sb (.int .i64 (c' : Int)) (.int .i64 ((j : Int) + 1)) (.slice q5 0 d5)) (fun k hk he => by simp only [Value.ownBlock, Option.some.injEq] at hk; omega)
    · obtain rfl : n = j := by omega
      have hsb := HV.out.lt
      clear HV v0 v1 v2
      go_wp2_with (first
        | (go_at_call 47; refine (rnew_ok 0 _).mono ?_; rintro ev w8 ⟨rfl, B8⟩
           have HT8 := (show Hid (On w w8 aa L (fun k => k = sb ∨ (Value.slice p n cc).ownBlock = some k)) from T.step B8)
           have HO8 := (show Hid (w8.ownsRow (sb + 1) 3 1 (.slice p n cc) n (xs.map (Value.int .i64))) from row_keeps (F := fun _ => False) HO.out (Keeps.of_below B8) (fun _ _ h => h))
           have hs8 : sb < w8.heap.size := Nat.lt_of_lt_of_le hsb B8.size
           clear T HO B8)
        | (at_make; refine wpList_make_full _ rfl _ _ 38 rfl (w8.heap.size + 1) 4 b0 (.bool false) 1 Try.underlying38 hb hb0 hb1 .i64 .i64 _ _ n rfl rfl rfl rfl (by rw [hb2]; omega) (by unfold maxLen; omega) (by simp) ?_; intro w9 hown9 hgrow9
           have hm : (madeCells (Value.bool false).cells (n * 1)).toList = (List.replicate n false).map Value.bool := by
             rw [Nat.mul_one]
             exact (toList_madeCells_one (.bool false) n).trans (by simp)
           rw [hm] at hown9
           have hta : (w8.alloc (.cells #[.int .i64 0, .int .i64 0, .slice none 0 0] 70)).heap.size = w8.heap.size + 1 := by simp
           rw [hta] at hown9
           clear hm hta))
      have hBA : Below w8.heap.size w8 w9 := ((Below.refl _ w8).alloc (Nat.le_refl _) (.cells #[.int .i64 0, .int .i64 0, .slice none 0 0] 70)).grown hgrow9 (by simp) (fun _ h => by cases h)
      have V9 := (Rv.new w8 0 0 (.slice none 0 0)).keep (Keeps.of_grown (F := fun _ => False) hgrow9 (fun _ h => by cases h)) (fun h => h)
      have T9 := (HT8.out.add hBA (P := fun k => k = w8.heap.size ∨ k = w8.heap.size + 1) (fun k hk => by
        have := (row_base hown9 (k := w8.heap.size + 1) rfl).2
        omega)).mono (G' := fun k => (k = w8.heap.size ∨ k = w8.heap.size + 1 ∨ (Value.slice p n cc).ownBlock = some k) ∨ (Value.slice none 0 0).ownBlock = some k) (fun k hk => by
          rcases hk with (h | h | h) | h
          · exact .inr (.inl h)
          · exact .inr (.inr h)
          · exact .inl (.inr h)
          · simp [Value.ownBlock] at h)
      have HM := (show Hid (Mts w aa w8.heap.size sb n (.slice p n cc) xs w9 L 0 0 [] none 0 (List.replicate n false)) from ⟨T9, row_keeps (F := fun _ => False) HO8.out (Keeps.of_below hBA) (fun _ _ h => h), hown9, V9, World.ownsRow_nil _ _ _ _, RtOk.new (by have := HR.out.pos.lt; omega), Tak.start n, by omega, HK.out, fun k hk => (row_base HO8.out hk).2, HT8.out.below.size⟩)
      have hwk := HT8.out.below.size
      clear hown9 hgrow9 V9 T9 hBA HT8 HO8 HR HK
      generalize w8.heap.size = rb at *
      go_loopw [18] (fun i wq => ∃ (j : Nat) (L : List Tm) (c next : Nat) (sk : List Ky) (q : Option Addr) (d : Nat) (tk : List Bool), i = .int .i64 j ∧ j ≤ ks.length ∧ Mts w aa rb sb n (.slice p n cc) xs wq L c next sk q d tk) (fun i _ => ks.length - (intOf i).toNat)
      case atStart => exact ⟨0, _, 0, 0, [], none, 0, _, rfl, by omega, HM.out⟩
      case round =>
        clear HM
        obtain ⟨j, L, c, next, sk, q, d, tk, rfl, hjl, HM0⟩ := hrel
        have M := (show Hid (Mts w aa rb sb n (.slice p n cc) xs wr L c next sk q d tk) from HM0)
        clear HM0
        have v0 := M.out.rv.c0
        have v1 := M.out.rv.c1
        have v2 := M.out.rv.c2
        by_cases hlt : j < ks.length
        · obtain ⟨ba, oa, rfl, hba, hcell0⟩ := rdw_pos H1.out hlt
          have hcell := (M.out.on.below.cell (p := ⟨ba, oa + j, none⟩) hba).trans hcell0
          generalize ks.getD j 0 = z at hcell hcell0
          have hjI : (j : Int) < ks.length := by omega
          obtain ⟨a, ha, han⟩ := at_form z n hn1 hn
          obtain ⟨gk, rfl, _, _, _, _⟩ := row_open M.out.keys (by omega)
          obtain ⟨x, hxa⟩ : ∃ x, xs[a]? = some x := ⟨_, List.getElem?_eq_getElem (by have := HXL.out; omega)⟩
          obtain ⟨sa, rfl, hsa⟩ := M.out.kys.at' a x hxa
          have HSA := (show Hid (KeyAt L 0 a sa) from hsa)
          have HXA := (show Hid (xs[a]? = some (sa : Int)) from hxa)
          have haI : (a : Int) < n := by omega
          have hwr2 : w.heap.size ≤ wr.heap.size := M.out.on.below.size
          clear hsa
          by_cases hA : next ≤ a
          · obtain ⟨D, hD⟩ : ∃ D, a = next + D := ⟨a - next, by omega⟩
            have htk : bt tk a = false := Bool.eq_false_iff.2 (fun e => by have := (M.out.tak.i1 a e).1; omega)
            have HD := (show Hid (a = next + D) from hD)
            have hle := M.out.le
            have hnx := M.out.tak.nx
            clear hD
            go_wp2_with (first
            | (go_at_call 48; refine (take_ahead (show Hid _ from M.out.on) 0 c next D (a : Int) q d sk (show Hid _ from M.out.ok) (show Hid _ from rdk_row M.out.sk') (show Hid ((a : Int) = ((next + D : Nat) : Int)) from (by rw [HD.out] : (a : Int) = ((next + D : Nat) : Int))) (by omega) (by have := HD.out; omega) (by omega)).mono ?_; rintro ev w5 ⟨L', k, c', zs, q5, d5, rfl, T5, O5, S5, k1, k2, k3, k4, k5, k6⟩
               have hok := rt_ahead M.out.ok k6 k2 k3 k4 (by have := HD.out; omega)
               have htak := M.out.tak.ahead M.out.ok k3 k4 (by have := HD.out; omega)
               have hkk : sa = k := KeyAt.one T5.wf (HSA.out.keep k6) (by rw [HD.out]; exact k1)
               have hL5 : L'.length ≤ 1 + 2 * n + 2 * (next + D + 1) := by omega
               have hky := M.out.kys.keep k6
               generalize (sk ++ zs).drop ((sk ++ zs).length - 16) = ks5 at *
               have T5' := T5.mono (G' := fun j => (j = rb ∨ j = rb + 1 ∨ (Value.slice (some ⟨gk, 0, none⟩) n cc).ownBlock = some j) ∨ (Value.slice q5 ks5.length d5).ownBlock = some j) (fun j hj => hj.elim (fun h => .inl (.inl h)) .inr)
               have hna : next + D + 1 = a + 1 := by have := HD.out; omega
               rw [hna] at hok htak hL5
               rw [← HD.out] at htak
               have hcast : ((a + 1 : Nat) : Int) = (a : Int) + 1 := by omega
               have hput := M.out.put (c' := c') (next' := a + 1) (at0 := a) S5 T5' O5 hok htak hL5 hky (.cells #[.int .i64 (c' : Int), .int .i64 ((a : Int) + 1), .slice q5 ks5.length d5] 70)
               rw [hcast] at hput
               have HP := (show Hid _ from hput)
               subst hkk
               clear T5 T5' O5 k1 k2 k3 k4 k5 k6 hok htak hL5 hky hput hcast hna v0 v1 v2 hcell
               obtain ⟨hf1, hf2, hf3⟩ := M.out.far S5 (.cells #[.int .i64 (c' : Int), .int .i64 ((a : Int) + 1 : Int), .slice q5 ks5.length d5] 70)
               have x0 := hf1.c0
               have x1 := hf1.c1
               have x2 := hf1.c2
               have f0 := hf1.f0
               have f1 := hf1.f1
               have f2 := hf1.f2
               have x3 := (World.ownsRow.cellAt hf2 a (by omega)).trans (kn_at (by rw [M.out.tak.len]; exact han))
               have x4 := World.ownsRow.frozenAt hf2 a
               rw [htk] at x3
               have x5 := World.ownsRow.cellAt hf3 a (by omega)
               rw [List.getElem?_map, hxa] at x5
               simp only [Option.map_some] at x5
               have VZ := ((((M.out.rv.stay S5 (.inl (.inl rfl))).keep (Keeps.of_grown (F := fun k => k = rb + 1) (put_grown w5 ⟨rb + 1, a, none⟩ (.bool true)) (fun k hk => by cases hk; rfl)) (show ¬ rb = rb + 1 by omega)).alloc (.cells #[.int .i64 (c' : Int), .int .i64 ((a : Int) + 1 : Int), .slice q5 ks5.length d5] 70)).keep (F := fun _ => False) (w' := (((w5.setCell ⟨rb + 1, a, none⟩ (.bool true)).alloc (.cells #[.int .i64 (c' : Int), .int .i64 ((a : Int) + 1 : Int), .slice q5 ks5.length d5] 70)).drew)) ⟨rfl, rfl, rfl, Nat.le_refl _, fun _ _ _ => rfl⟩ (fun h => h))
               have VY := (((M.out.rv.stay S5 (.inl (.inl rfl))).keep (Keeps.of_grown (F := fun k => k = rb + 1) (put_grown w5 ⟨rb + 1, a, none⟩ (.bool true)) (fun k hk => by cases hk; rfl)) (show ¬ rb = rb + 1 by omega)).alloc (.cells #[.int .i64 (c' : Int), .int .i64 ((a : Int) + 1 : Int), .slice q5 ks5.length d5] 70))
               have p0 := VY.c0
               have p1 := VY.c1
               have p2 := VY.c2
               have r0 := VY.f0
               have r1 := VY.f1
               have r2 := VY.f2
               have y0 := VZ.c0
               have y1 := VZ.c1
               have y2 := VZ.c2
               have e0 := VZ.f0
               have e1 := VZ.f1
               have e2 := VZ.f2
               have N5 := Rv.new w5 (c' : Int) ((a : Int) + 1 : Int) (.slice q5 ks5.length d5)
               have z0 := N5.c0
               have z1 := N5.c1
               have z2 := N5.c2
               have hnb := M.out.hb
               have hn5 : rb + 1 < w5.heap.size := Nat.lt_of_lt_of_le hnb S5.size
               clear hf1 hf2 hf3 N5 S5 VZ VY))
            go_region
            go_wp2
            exact ⟨⟨j + 1, _, _, _, _, _, _, _, by simp, by omega, HP.out⟩, by simp [intOf]; omega⟩
          · have hle := M.out.le
            have hnx := M.out.tak.nx
            have haN : a < next := by omega
            by_cases hB : ∃ k ∈ sk, k.1 = (a : Int)
            · have htk : bt tk a = false := Bool.eq_false_iff.2 (fun e => by obtain ⟨k, hk, e2⟩ := hB; exact (M.out.tak.i1 a e).2 k hk e2)
              have HB := (show Hid (∃ k ∈ sk, k.1 = (a : Int)) from hB)
              clear hB
              go_wp2_with (first
              | (go_at_call 48; refine (take_old_yes (show Hid _ from M.out.on) 0 c next (a : Int) q d sk (show Hid _ from M.out.ok) (show Hid _ from rdk_row M.out.sk') (by omega) (by omega) HB).mono ?_; rintro ev w5 ⟨t, s5, q5, d5, ht, rfl, O5, B5⟩
                 have S5 : Stay (fun k => (k = rb ∨ k = rb + 1 ∨ (Value.slice (some ⟨gk, 0, none⟩) n cc).ownBlock = some k) ∨ (Value.slice q sk.length d).ownBlock = some k) wr w5 := stay_below B5
                 obtain ⟨i2, s2, he2, hk2⟩ := M.out.ok.keys _ (at_mem ht)
                 have hi2 : a = i2 := by simp only [Prod.mk.injEq] at he2; omega
                 have hs2 : s5 = (s2 : Int) := by simp only [Prod.mk.injEq] at he2; exact he2.2
                 have hkk : sa = s2 := KeyAt.one M.out.on.wf HSA.out (by rw [hi2]; exact hk2)
                 have hok := M.out.ok.erase t
                 have htak := M.out.tak.take M.out.ok.right ht
                 have hky := M.out.kys
                 have T5 := (M.out.on.add B5 (P := fun k => (Value.slice q5 (sk.eraseIdx t).length d5).ownBlock = some k) (fun k hk => row_base O5 hk)).mono (G' := fun j => (j = rb ∨ j = rb + 1 ∨ (Value.slice (some ⟨gk, 0, none⟩) n cc).ownBlock = some j) ∨ (Value.slice q5 (sk.eraseIdx t).length d5).ownBlock = some j) (fun j hj => hj.elim (fun h => .inl (.inl h)) .inr)
                 generalize sk.eraseIdx t = ks5 at *
                 have hput := M.out.put (c' := c) (next' := next) (at0 := a) S5 T5 O5 hok htak hle hky (.cells #[.int .i64 (c : Int), .int .i64 (next : Int), .slice q5 ks5.length d5] 70)
                 have HP := (show Hid _ from hput)
                 subst hs2
                 subst hkk
                 clear T5 O5 B5 ht he2 hk2 hi2 hok htak hky hput v0 v1 v2 hcell
                 obtain ⟨hf1, hf2, hf3⟩ := M.out.far S5 (.cells #[.int .i64 (c : Int), .int .i64 (next : Int), .slice q5 ks5.length d5] 70)
                 have x0 := hf1.c0
                 have x1 := hf1.c1
                 have x2 := hf1.c2
                 have f0 := hf1.f0
                 have f1 := hf1.f1
                 have f2 := hf1.f2
                 have x3 := (World.ownsRow.cellAt hf2 a (by omega)).trans (kn_at (by rw [M.out.tak.len]; exact han))
                 have x4 := World.ownsRow.frozenAt hf2 a
                 rw [htk] at x3
                 have x5 := World.ownsRow.cellAt hf3 a (by omega)
                 rw [List.getElem?_map, hxa] at x5
                 simp only [Option.map_some] at x5
                 have VZ := ((((M.out.rv.stay S5 (.inl (.inl rfl))).keep (Keeps.of_grown (F := fun k => k = rb + 1) (put_grown w5 ⟨rb + 1, a, none⟩ (.bool true)) (fun k hk => by cases hk; rfl)) (show ¬ rb = rb + 1 by omega)).alloc (.cells #[.int .i64 (c : Int), .int .i64 (next : Int), .slice q5 ks5.length d5] 70)).keep (F := fun _ => False) (w' := (((w5.setCell ⟨rb + 1, a, none⟩ (.bool true)).alloc (.cells #[.int .i64 (c : Int), .int .i64 (next : Int), .slice q5 ks5.length d5] 70)).drew)) ⟨rfl, rfl, rfl, Nat.le_refl _, fun _ _ _ => rfl⟩ (fun h => h))
                 have VY := (((M.out.rv.stay S5 (.inl (.inl rfl))).keep (Keeps.of_grown (F := fun k => k = rb + 1) (put_grown w5 ⟨rb + 1, a, none⟩ (.bool true)) (fun k hk => by cases hk; rfl)) (show ¬ rb = rb + 1 by omega)).alloc (.cells #[.int .i64 (c : Int), .int .i64 (next : Int), .slice q5 ks5.length d5] 70))
                 have p0 := VY.c0
                 have p1 := VY.c1
                 have p2 := VY.c2
                 have r0 := VY.f0
                 have r1 := VY.f1
                 have r2 := VY.f2
                 have y0 := VZ.c0
                 have y1 := VZ.c1
                 have y2 := VZ.c2
                 have e0 := VZ.f0
                 have e1 := VZ.f1
                 have e2 := VZ.f2
                 have N5 := Rv.new w5 (c : Int) (next : Int) (.slice q5 ks5.length d5)
                 have z0 := N5.c0
                 have z1 := N5.c1
                 have z2 := N5.c2
                 have hnb := M.out.hb
                 have hn5 : rb + 1 < w5.heap.size := Nat.lt_of_lt_of_le hnb S5.size
                 clear hf1 hf2 hf3 N5 S5 VZ VY))
              go_region
              go_wp2
              exact ⟨⟨j + 1, _, _, _, _, _, _, _, by simp, by omega, HP.out⟩, by simp [intOf]; omega⟩
            · have HN := (show Hid (∀ k ∈ sk, k.1 ≠ (a : Int)) from fun k hk e => hB ⟨k, hk, e⟩)
              have hge : ¬ (next : Int) ≤ a := by omega
              have hnM := M.out.ok.right.nM
              have hws : IntKind.i64.wrap ((next : Int) - a) = next - a := IntWalk.i64_in _ (by omega)
              clear hnM
              rcases (show bt tk a = true ∨ (bt tk a = false ∧ ¬ (next : Int) - a ≤ 16) from by
                  cases hb : bt tk a with
                  | true => exact .inl rfl
                  | false =>
                    refine .inr ⟨rfl, ?_⟩
                    rcases M.out.tak.i2 a haN hb with h | h
                    · exact absurd h hB
                    · omega) with htk | ⟨htk, hfar⟩
              all_goals (
                clear hB
                go_wp2_with (first
                  | (go_at_call 48; refine (take_old_no (show Hid _ from M.out.on) 0 c next (a : Int) q d sk (show Hid _ from M.out.ok) (show Hid _ from rdk_row M.out.sk') (by omega) (by omega) HN).mono ?_; rintro ev w5 ⟨rfl, B5⟩
                     have HM5 := (show Hid (Mts w aa rb sb n (.slice (some ⟨gk, 0, none⟩) n cc) xs (w5.alloc (.cells #[.int .i64 0, .int .i64 0, .slice none 0 0] 70)) L c next sk q d tk) from M.out.step (B5.alloc B5.size _))
                     have x1 := HM5.out.rv.c1
                     have x3 := (World.ownsRow.cellAt HM5.out.taken a (by omega)).trans (kn_at (by rw [M.out.tak.len]; exact han))
                     rw [htk] at x3
                     clear v0 v1 v2 hcell B5))
                exact ⟨⟨j + 1, _, _, _, _, _, _, _, by simp, by omega, HM5.out⟩, by simp [intOf]; omega⟩)
        · have hM := M.out.ok.right
          go_wp2_with (first
            | (go_at_call 44; refine (check_yes M.out.ok.right (rdk_row M.out.sk')).mono ?_; rintro ev w5 ⟨rfl, B5⟩; have hB5 := M.out.on.below.trans (B5.mono M.out.on.below.size))
            | (go_at_call 54; refine (wakes19_ok _).mono ?_; rintro ev w6 ⟨rfl, B6⟩))
          go_ret
          exact ⟨rfl, hB5.trans (B6.mono hB5.size)⟩
end Go.Proofs.Ytikbeagcflofhaa
