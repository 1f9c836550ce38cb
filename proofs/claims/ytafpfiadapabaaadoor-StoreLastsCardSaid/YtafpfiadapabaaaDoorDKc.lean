/-
  DISK: slices that are read, slices.Clone; Trip, Read. Own work.
-/
import Derived.Test.YtafpfiadapabaaaDoorDKb
namespace Go.Proofs.YtafpfiadapabaaaDoor
open Go.ChangeShapes Go.WideShapes Go.ChangeAt Go.RowKit Go.Maps
set_option maxRecDepth 100000
attribute [local go_sem ↓] Go.wp_at_zero Go.wp_at_succ
/-- Cells that are read, wherever they lie. -/
def RdV (w : World) (v : Value) (cs : List Value) : Prop :=
  ∃ p c, v = .slice p cs.length c ∧ (cs = [] ∨ ∃ b o, p = some ⟨b, o, none⟩ ∧ b < w.heap.size ∧ ∀ j, j < cs.length → w.cell? ⟨b, o + j, none⟩ = cs[j]?)
theorem addr_mid (b o j : Nat) : (⟨b, o, none⟩ : Addr).add j = ⟨b, o + j, none⟩ := by unfold Addr.add; split <;> simp_all
theorem RdV.keeps {F : Nat → Prop} {w w' : World} {v : Value} {cs : List Value} (h : RdV w v cs) (hK : Keeps F w w') (hn : cs ≠ [] → ∀ k, v.ownBlock = some k → ¬ F k) : RdV w' v cs := by
  obtain ⟨p, c, rfl, h | ⟨b, o, rfl, hb, hc⟩⟩ := h
  · exact ⟨p, c, rfl, .inl h⟩
  · by_cases h0 : cs = []
    · exact ⟨_, c, rfl, .inl h0⟩
    · exact ⟨_, c, rfl, .inr ⟨b, o, rfl, Nat.lt_of_lt_of_le hb hK.size, fun t ht => (hK.cell (p := ⟨b, o + t, none⟩) hb (hn h0 b rfl)).trans (hc t ht)⟩⟩
theorem RdV.below {w w' : World} {v : Value} {cs : List Value} (h : RdV w v cs) (hB : Below w.heap.size w w') : RdV w' v cs := h.keeps (Keeps.of_below (F := fun _ => False) hB) (fun _ _ _ h => h)
theorem RdV.lt {w : World} {v : Value} {cs : List Value} (h : RdV w v cs) (h0 : cs ≠ []) {k : Nat} (hk : v.ownBlock = some k) : k < w.heap.size := by
  obtain ⟨p, c, rfl, h | ⟨b, o, rfl, hb, hc⟩⟩ := h
  · exact absurd h h0
  · cases hk
    exact hb
/-- As long as nothing below a place changes, what came in stays readable. -/
theorem RdV.old {B : Nat} {w w' : World} {v : Value} {cs : List Value} (h : RdV w v cs) (hB : Below B w w') (hw : w.heap.size ≤ B) : RdV w' v cs := by
  obtain ⟨p, c, rfl, h | ⟨b, o, rfl, hb, hc⟩⟩ := h
  · exact ⟨p, c, rfl, .inl h⟩
  · exact ⟨_, c, rfl, .inr ⟨b, o, rfl, Nat.lt_of_lt_of_le hb hB.size, fun t ht => by rw [World.cell?_of_block (show w'.heap[(⟨b, o + t, none⟩ : Addr).block]? = _ from hB.block b (by omega))]; exact hc t ht⟩⟩
theorem rdv_row {w : World} {base e n : Nat} {v : Value} {cs : List Value} (h : w.ownsRow base e 1 v n cs) : RdV w v cs := by
  have hl := h.1
  rcases h.2 with ⟨rfl, rfl⟩ | ⟨g, cap, cur, rfl, _, hg, hn, _, hs, ht⟩
  · exact ⟨none, 0, by rw [show cs.length = 0 by omega], .inl (List.eq_nil_of_length_eq_zero (by omega))⟩
  · refine ⟨_, cap, by rw [show cs.length = n by omega], ?_⟩
    by_cases h0 : n = 0
    · exact .inl (List.eq_nil_of_length_eq_zero (by omega))
    · obtain ⟨g', e1, _, hlt, _, hc⟩ := row_open h (by omega)
      simp at e1
      subst e1
      exact .inr ⟨g, 0, rfl, hlt, fun j hj => by rw [Nat.zero_add]; exact hc j (by omega)⟩
theorem rdv_news {w : World} {a : Addr} {n c : Nat} {cs : List Value} (h : RdV w (.slice (some a) n c) cs) : ∀ j u, cs[j]? = some u → w.cell? (a.add j) = some u := by
  obtain ⟨p, c', e, rfl | ⟨b, o, rfl, hb, hc⟩⟩ := h
  · intro j u hj; simp at hj
  · cases e
    intro j u hj
    rw [addr_mid, hc j (List.getElem?_eq_some_iff.1 hj).1, hj]
theorem rdv_nth {w : World} {p : Option Addr} {n c t : Nat} {cs : List Value} (h : RdV w (.slice p n c) cs) (ht : t < cs.length) : ∃ b o, p = some ⟨b, o, none⟩ ∧ b < w.heap.size ∧ w.cell? ⟨b, o + t, none⟩ = cs[t]? := by
  obtain ⟨p', c', e, rfl | ⟨b, o, rfl, hb, hc⟩⟩ := h
  · exact absurd ht (Nat.not_lt_zero _)
  · cases e
    exact ⟨b, o, rfl, hb, hc t ht⟩

set_option maxHeartbeats 1000000 in
theorem cloneL_some (a : Addr) (c : Nat) (cs : List Value) (w : World) (h4 : cs.length ≤ 100000) (h1 : ∀ u ∈ cs, u.oneCell' = true) (hc : ∀ j u, cs[j]? = some u → w.cell? (a.add j) = some u) : Calls Tryd.prog 25 #[.slice (some a) cs.length c] w fun e w' => ∃ v, e = .returned v ∧ w'.ownsRow w.heap.size 4 1 v cs.length cs ∧ Below w.heap.size w w' := by
  obtain ⟨i0, hi, hz0, hz1, hz2⟩ := info_parts (P := Tryd.prog) (e := 4) (z := .bool false) (size := 1) (bytes := 1) (by kernel_rfl)
  have heq := fun w => run_eql_slice_nil (P := Tryd.prog) w 33 4 (some a) cs.length c Tryd.underlying33
  have hc2 : ∀ j u, cs[j]? = some u → (w.alloc (.cells #[] 4)).cell? (a.add j) = some u := fun j u hj => by
    rw [World.cell?_alloc_lt _ _ _ (World.block_lt_of_cell? w _ (hc j u hj))]
    exact hc j u hj
  have HC := (show Hid _ from hc2)
  have H1 := (show Hid _ from h1)
  clear hc hc2 h1
  go_enter Tryd.func25, Tryd.ntmps25
  go_wp2_with (at_builtin; refine wpList_append_own _ rfl (.tmp 5) (.tmp 6) 33 rfl w.heap.size 4 i0 (.bool false) 1 1 Tryd.underlying33 hi hz0 hz1 hz2 rfl (by decide) (.slice (some ⟨w.heap.size, 0, none⟩) 0 0) 0 [] rfl (World.ownsRow_made w #[] 0 (Nat.le_refl _) (by decide) rfl) a cs.length c cs rfl (by simp) HC.out H1.out (by unfold maxLen; omega) (by omega) (by simp) ?_; intro v' w1 hown1 hgrow1 _)
  go_ret
  exact ⟨v', rfl, by simpa using hown1, ((Below.refl _ _).alloc (Nat.le_refl _) _).grown hgrow1 (by simp) (fun _ hk => by simp [Value.ownBlock] at hk; omega)⟩
theorem cloneL_nil (c : Nat) (w : World) : Calls Tryd.prog 25 #[.slice none 0 c] w fun e w' => e = .returned (.slice none 0 0) ∧ w' = w := by
  have heq := fun w => run_eql_slice_nil (P := Tryd.prog) w 33 4 none 0 c Tryd.underlying33
  go_enter Tryd.func25, Tryd.ntmps25
  go_wp2_with fail
  go_ret
  exact ⟨rfl, rfl⟩
theorem cloneL_ok {w : World} {v : Value} {cs : List Value} (h : RdV w v cs) (h4 : cs.length ≤ 100000) (h1 : ∀ u ∈ cs, u.oneCell' = true) : Calls Tryd.prog 25 #[v] w fun e w' => ∃ v, e = .returned v ∧ w'.ownsRow w.heap.size 4 1 v cs.length cs ∧ Below w.heap.size w w' := by
  have h0 := h
  obtain ⟨p, c, rfl, hcs⟩ := h
  cases p with
  | none =>
    have : cs = [] := by
      rcases hcs with h | ⟨b, o, h, _⟩
      · exact h
      · cases h
    subst this
    refine (cloneL_nil c w).mono ?_
    rintro e w' ⟨rfl, rfl⟩
    exact ⟨_, rfl, World.ownsRow_nil _ _ _ _, Below.refl _ _⟩
  | some a => exact cloneL_some a c cs w h4 h1 (rdv_news h0)

set_option maxHeartbeats 1000000 in
theorem cloneB_some (a : Addr) (c : Nat) (cs : List Value) (w : World) (h4 : cs.length ≤ 100000) (h1 : ∀ u ∈ cs, u.oneCell' = true) (hc : ∀ j u, cs[j]? = some u → w.cell? (a.add j) = some u) : Calls Tryd.prog 27 #[.slice (some a) cs.length c] w fun e w' => ∃ v, e = .returned v ∧ w'.ownsRow w.heap.size 5 1 v cs.length cs ∧ Below w.heap.size w w' := by
  obtain ⟨i0, hi, hz0, hz1, hz2⟩ := info_parts (P := Tryd.prog) (e := 5) (z := .int .u8 0) (size := 1) (bytes := 1) (by kernel_rfl)
  have heq := fun w => run_eql_slice_nil (P := Tryd.prog) w 31 5 (some a) cs.length c Tryd.underlying31
  have hc2 : ∀ j u, cs[j]? = some u → (w.alloc (.cells #[] 5)).cell? (a.add j) = some u := fun j u hj => by
    rw [World.cell?_alloc_lt _ _ _ (World.block_lt_of_cell? w _ (hc j u hj))]
    exact hc j u hj
  have HC := (show Hid _ from hc2)
  have H1 := (show Hid _ from h1)
  clear hc hc2 h1
  go_enter Tryd.func27, Tryd.ntmps27
  go_wp2_with (at_builtin; refine wpList_append_own _ rfl (.tmp 5) (.tmp 6) 31 rfl w.heap.size 5 i0 (.int .u8 0) 1 1 Tryd.underlying31 hi hz0 hz1 hz2 rfl (by decide) (.slice (some ⟨w.heap.size, 0, none⟩) 0 0) 0 [] rfl (World.ownsRow_made w #[] 0 (Nat.le_refl _) (by decide) rfl) a cs.length c cs rfl (by simp) HC.out H1.out (by unfold maxLen; omega) (by omega) (by simp) ?_; intro v' w1 hown1 hgrow1 _)
  go_ret
  exact ⟨v', rfl, by simpa using hown1, ((Below.refl _ _).alloc (Nat.le_refl _) _).grown hgrow1 (by simp) (fun _ hk => by simp [Value.ownBlock] at hk; omega)⟩
theorem cloneB_nil (c : Nat) (w : World) : Calls Tryd.prog 27 #[.slice none 0 c] w fun e w' => e = .returned (.slice none 0 0) ∧ w' = w := by
  have heq := fun w => run_eql_slice_nil (P := Tryd.prog) w 31 5 none 0 c Tryd.underlying31
  go_enter Tryd.func27, Tryd.ntmps27
  go_wp2_with fail
  go_ret
  exact ⟨rfl, rfl⟩
theorem cloneB_ok {w : World} {v : Value} {cs : List Value} (h : RdV w v cs) (h4 : cs.length ≤ 100000) (h1 : ∀ u ∈ cs, u.oneCell' = true) : Calls Tryd.prog 27 #[v] w fun e w' => ∃ v, e = .returned v ∧ w'.ownsRow w.heap.size 5 1 v cs.length cs ∧ Below w.heap.size w w' := by
  have h0 := h
  obtain ⟨p, c, rfl, hcs⟩ := h
  cases p with
  | none =>
    have : cs = [] := by
      rcases hcs with h | ⟨b, o, h, _⟩
      · exact h
      · cases h
    subst this
    refine (cloneB_nil c w).mono ?_
    rintro e w' ⟨rfl, rfl⟩
    exact ⟨_, rfl, World.ownsRow_nil _ _ _ _, Below.refl _ _⟩
  | some a => exact cloneB_some a c cs w h4 h1 (rdv_news h0)
theorem one_map {α : Type} (f : α → Value) (h : ∀ x, (f x).oneCell' = true) (l : List α) : ∀ u ∈ l.map f, u.oneCell' = true := fun u hu => by
  obtain ⟨x, _, rfl⟩ := List.mem_map.1 hu
  exact h x
theorem setcell_keeps (w : World) (b j : Nat) (u : Value) : Keeps (fun k => k = b) w (w.setCell ⟨b, j, none⟩ u) := Keeps.of_grown (put_grown w ⟨b, j, none⟩ u) (fun k hk => by cases hk; rfl)
section
variable {w0 w w' : World} {db n : Nat} {d : Dk} {vs vn vw vk : Value} {R : List RowD}
set_option maxHeartbeats 4000000 in
theorem trip_ok (T : Dsk w0 w db n d vs vn vw vk R) (i t : Int) {v : Value} {ks : List Bool} (hv : RdV w v (ks.map Value.bool)) (hne : ks.map Value.bool ≠ [] → ∀ k, v.ownBlock = some k → k ≠ db) (h4 : ks.length ≤ 100000) : Calls Tryd.prog 12 #[.pointer (some ⟨db, 0, none⟩), .int .i64 i, v, .int .i64 t] w fun e w' => e = .returned (.tuple #[]) ∧ ∃ vk', Dsk w0 w' db n { d with left := i.toNat, keep := if 0 < i then ks else [], torn := if 0 < i then t else 0 } vs vn vw vk' R := by
  have c4 := T.c4
  have c5 := T.c5
  have c6 := T.c6
  have z4 := T.z 4
  have z5 := T.z 5
  have z6 := T.z 6
  have T1 := T.setTrip (v' := .slice none 0 0) (l := []) (Below.refl _ w) (World.ownsRow_nil _ _ _ _) (fun k hk => by simp [Value.ownBlock] at hk) 0 0
  by_cases hi : 0 < i
  · have k1 := setcell_keeps w db 4 (.int .i64 0)
    have k2 := setcell_keeps (w.setCell ⟨db, 4, none⟩ (.int .i64 0)) db 5 (.slice none 0 0)
    have k3 := setcell_keeps ((w.setCell ⟨db, 4, none⟩ (.int .i64 0)).setCell ⟨db, 5, none⟩ (.slice none 0 0)) db 6 (.int .i64 0)
    have hv3 := ((hv.keeps k1 hne).keeps k2 hne).keeps k3 hne
    have T1' : Dsk w0 (((w.setCell ⟨db, 4, none⟩ (.int .i64 0)).setCell ⟨db, 5, none⟩ (.slice none 0 0)).setCell ⟨db, 6, none⟩ (.int .i64 0)) db n { d with left := 0, keep := [], torn := 0 } vs vn vw (.slice none 0 0) R := T1
    clear T1 k1 k2 k3
    go_enter Tryd.func12, Tryd.ntmps12
    go_wp2_with (go_at_call 25; refine (cloneL_ok hv3 (by simpa using h4) (one_map _ (fun _ => rfl) _)).mono ?_; rintro ev w4 ⟨v4, rfl, hr4, hB4⟩
                 obtain ⟨p4, c4', rfl⟩ := row_slice hr4
                 have T2 := T1'.step hB4
                 have y4 := T2.c4
                 have y5 := T2.c5
                 have y6 := T2.c6
                 have q4 := T2.z 4
                 have q5 := T2.z 5
                 have q6 := T2.z 6
                 have T3 := T1'.setTrip (v' := _) (l := ks) hB4 (row_lower (by simpa using hr4) T1'.fam.below.size) (fun k hk => (row_base hr4 hk).1) i.toNat t
                 have hiN : ((i.toNat : Nat) : Int) = i := by omega
                 rw [hiN] at T3
                 clear hr4 T1' hv3 c4 c5 c6 z4 z5 z6 hiN)
    go_end0
    exact ⟨rfl, _, by simpa [hi] using T3⟩
  · have h0 : i.toNat = 0 := by omega
    rw [h0]
    go_enter Tryd.func12, Tryd.ntmps12
    go_wp2
    go_end0
    exact ⟨rfl, _, T1⟩
set_option maxHeartbeats 4000000 in
theorem read_ok (T : Dsk w0 w db n d vs vn vw vk R) (i : Nat) (s : Sec) (hs : d.now[i]? = some s) (hoff : d.off = false) (ht : s.2 = false) : Calls Tryd.prog 30 #[.pointer (some ⟨db, 0, none⟩), .int .i64 (i : Int)] w fun e w' => ∃ v, e = .returned (.tuple #[v, .int .i64 0]) ∧ Dsk w0 w' db n d vs vn vw vk (R ++ [byteRow v s.1]) ∧ w'.ownsRow w.heap.size 5 1 v s.1.length (s.1.map (Value.int .u8)) := by
  have hi : i < n := by rw [← T.ok.ln]; exact (List.getElem?_eq_some_iff.1 hs).1
  have c3 := T.c3
  rw [hoff] at c3
  have c1 := T.c1
  obtain ⟨g, c, rfl, hrow⟩ := T.rn
  have h64 := T.ok.n64 s (List.mem_of_getElem? hs)
  have hx := fun j (hj : j < 65) => wide_cell (sv_len T.ok.n64) hrow i j s hs hj
  have c64 : w.cell? ⟨g, i * 65 + 64, none⟩ = some (.bool false) := by
    rw [hx 64 (by omega), sv, List.getElem?_append_right (by simp [h64])]
    simp [h64, ht]
  have hgl := World.block_lt_of_cell? w _ c64
  have RV : RdV w (.slice (some ⟨g, i * 65, none⟩) 64 64) (s.1.map (Value.int .u8)) := ⟨_, 64, by simp [h64], .inr ⟨g, i * 65, rfl, hgl, fun j hj => by
    have hj' : j < 64 := by simpa [h64] using hj
    rw [hx j (by omega), sv, List.getElem?_append_left (by simpa using hj)]⟩⟩
  clear hx
  have hiI : (i : Int) < n := by omega
  go_enter Tryd.func30, Tryd.ntmps30
  go_wp2_with (first
    | (go_at_call 39; refine (has_ok T _).mono ?_; rintro ev w1 ⟨rfl, rfl⟩)
    | (go_at_call 27; refine (cloneB_ok RV (by simp [h64]) (one_map _ (fun _ => rfl) _)).mono ?_; rintro ev w4 ⟨v4, rfl, hr4, hB4⟩))
  refine bodyPost_ret (v := .tuple #[v4, .int .i64 0]) (by simp [results, Tryd.results30, go_sem]) rfl ?_
  have hr4' : w4.ownsRow w1.heap.size 5 1 v4 s.1.length (s.1.map (Value.int .u8)) := by simpa using hr4
  refine ⟨v4, rfl, ⟨?_, T.ok⟩, hr4'⟩
  have h := T.fam.add (r := byteRow v4 s.1) hB4 hr4'
  rw [List.append_assoc] at h
  exact h
set_option maxHeartbeats 4000000 in
theorem read_torn (T : Dsk w0 w db n d vs vn vw vk R) (i : Nat) (s : Sec) (hs : d.now[i]? = some s) (hoff : d.off = false) (ht : s.2 = true) : Calls Tryd.prog 30 #[.pointer (some ⟨db, 0, none⟩), .int .i64 (i : Int)] w fun e w' => e = .returned (.tuple #[.slice none 0 0, .int .i64 10]) ∧ w' = w := by
  have hi : i < n := by rw [← T.ok.ln]; exact (List.getElem?_eq_some_iff.1 hs).1
  have c3 := T.c3
  rw [hoff] at c3
  have c1 := T.c1
  obtain ⟨g, c, rfl, hrow⟩ := T.rn
  have h64 := T.ok.n64 s (List.mem_of_getElem? hs)
  have hx := fun j (hj : j < 65) => wide_cell (sv_len T.ok.n64) hrow i j s hs hj
  have c64 : w.cell? ⟨g, i * 65 + 64, none⟩ = some (.bool true) := by
    rw [hx 64 (by omega), sv, List.getElem?_append_right (by simp [h64])]
    simp [h64, ht]
  clear hx
  have hiI : (i : Int) < n := by omega
  go_enter Tryd.func30, Tryd.ntmps30
  go_wp2_with (go_at_call 39; refine (has_ok T _).mono ?_; rintro ev w1 ⟨rfl, rfl⟩)
  refine bodyPost_ret (v := .tuple #[.slice none 0 0, .int .i64 10]) (by simp [results, Tryd.results30, go_sem]) rfl ?_
  exact ⟨rfl, rfl⟩
set_option maxHeartbeats 4000000 in
theorem read_off (T : Dsk w0 w db n d vs vn vw vk R) (i : Int) (hoff : d.off = true) : Calls Tryd.prog 30 #[.pointer (some ⟨db, 0, none⟩), .int .i64 i] w fun e w' => e = .returned (.tuple #[.slice none 0 0, .int .i64 9]) ∧ w' = w := by
  have c3 := T.c3
  rw [hoff] at c3
  go_enter Tryd.func30, Tryd.ntmps30
  go_wp2
  refine bodyPost_ret (v := .tuple #[.slice none 0 0, .int .i64 9]) (by simp [results, Tryd.results30, go_sem]) rfl ?_
  exact ⟨rfl, rfl⟩
set_option maxHeartbeats 4000000 in
theorem read_out (T : Dsk w0 w db n d vs vn vw vk R) (i : Int) (hoff : d.off = false) (hi : ¬ (0 ≤ i ∧ i < n)) : Calls Tryd.prog 30 #[.pointer (some ⟨db, 0, none⟩), .int .i64 i] w fun e w' => e = .returned (.tuple #[.slice none 0 0, .int .i64 1]) ∧ w' = w := by
  have c3 := T.c3
  rw [hoff] at c3
  have hd : decide (0 ≤ i ∧ i < (n : Int)) = false := decide_eq_false hi
  go_enter Tryd.func30, Tryd.ntmps30
  go_wp2_with (go_at_call 39; refine (has_ok T _).mono ?_; rintro ev w1 ⟨rfl, rfl⟩; rw [hd])
  refine bodyPost_ret (v := .tuple #[.slice none 0 0, .int .i64 1]) (by simp [results, Tryd.results30, go_sem]) rfl ?_
  exact ⟨rfl, rfl⟩
end
end Go.Proofs.YtafpfiadapabaaaDoor
