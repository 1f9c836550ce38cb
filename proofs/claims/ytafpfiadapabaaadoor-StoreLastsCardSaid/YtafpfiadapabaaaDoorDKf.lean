/-
  DISK: Crash. Own work.
-/
import Derived.Test.YtafpfiadapabaaaDoorDKe
namespace Go.Proofs.YtafpfiadapabaaaDoor
open Go.ChangeShapes Go.WideShapes Go.ChangeAt Go.RowKit Go.Maps
set_option maxRecDepth 100000
attribute [local go_sem ↓] Go.wp_at_zero Go.wp_at_succ
theorem flat_set1 {α : Type} {f : α → List Value} {m : Nat} : ∀ {l : List α} (_ : ∀ x ∈ l, (f x).length = m) (i j : Nat) (x y : α) (v : Value), l[i]? = some y → j < m → (f y).set j v = f x → (l.flatMap f).set (i * m + j) v = (l.set i x).flatMap f
  | [], _, i, j, x, y, v, hy, _, _ => by simp at hy
  | z :: l, h, i, j, x, y, v, hy, hj, hx => by
    have hz := h z (by simp)
    cases i with
    | zero =>
      simp at hy
      subst hy
      rw [List.flatMap_cons, Nat.zero_mul, Nat.zero_add, List.set_append_left _ _ (by omega), hx, List.set_cons_zero, List.flatMap_cons]
    | succ i =>
      rw [List.flatMap_cons, List.set_append_right _ _ (by rw [hz, Nat.succ_mul]; omega), hz, show (i + 1) * m + j - m = i * m + j by rw [Nat.succ_mul]; omega, flat_set1 (fun q hq => h q (by simp [hq])) i j x y v (by simpa using hy) hj hx, List.set_cons_succ, List.flatMap_cons]
theorem set_len {l : List Sec} (h : ∀ s ∈ l, s.1.length = 64) (i : Nat) (x : Sec) (hx : x.1.length = 64) : ∀ s ∈ l.set i x, s.1.length = 64 := fun s hs => by
  rcases List.mem_or_eq_of_mem_set hs with hs | rfl
  · exact h s hs
  · exact hx
section
variable {w0 w w' : World} {db n g c : Nat} {d : Dk} {vs vn vw vk : Value} {R : List RowD}
theorem Dsk.putS (T : Dsk w0 w db n d (.slice (some ⟨g, 0, none⟩) n c) vn vw vk R) (i : Nat) (hi : i < n) (x : Sec) (hx : x.1.length = 64) : Dsk w0 (w.setCells g (i * 65) (sv x)) db n { d with safe := d.safe.set i x } (.slice (some ⟨g, 0, none⟩) n c) vn vw vk R := by
  have h : w.ownsRow w0.heap.size 71 65 (.slice (some ⟨g, 0, none⟩) n c) d.safe.length (d.safe.flatMap sv) := T.fam.row 1 _ rfl
  rw [T.ok.ls] at h
  obtain ⟨hr, hg⟩ := stored_many (sv x) w _ (i * 65) h
  rw [flat_set (sv_len T.ok.s64) i (by rw [T.ok.ls]; exact hi) x (by simp [sv, hx])] at hr
  refine ⟨T.fam.put 1 rfl (r' := secRow (.slice (some ⟨g, 0, none⟩) n c) (d.safe.set i x)) hg (show World.ownsRow _ _ _ _ _ ((d.safe.set i x)).length _ by rw [show ((d.safe.set i x)).length = n by simp [T.ok.ls]]; exact hr) (fun k hk => .inl hk), ⟨T.ok.pos, T.ok.le, by simp [T.ok.ls], T.ok.ln, set_len T.ok.s64 i x hx, T.ok.n64, T.ok.w64⟩⟩
theorem Dsk.tornS (T : Dsk w0 w db n d (.slice (some ⟨g, 0, none⟩) n c) vn vw vk R) (i : Nat) (y : Sec) (hy : d.safe[i]? = some y) : Dsk w0 (w.setCell ⟨g, i * 65 + 64, none⟩ (.bool true)) db n { d with safe := d.safe.set i (y.1, true) } (.slice (some ⟨g, 0, none⟩) n c) vn vw vk R := by
  have h : w.ownsRow w0.heap.size 71 65 (.slice (some ⟨g, 0, none⟩) n c) d.safe.length (d.safe.flatMap sv) := T.fam.row 1 _ rfl
  rw [T.ok.ls] at h
  have h64 := T.ok.s64 y (List.mem_of_getElem? hy)
  obtain ⟨hr, hg⟩ := World.ownsRow.stored h (i * 65 + 64) (.bool true)
  rw [flat_set1 (sv_len T.ok.s64) i 64 (y.1, true) y (.bool true) hy (by omega) (by
    unfold sv
    rw [List.set_append_right _ _ (by simp [h64])]
    simp [h64])] at hr
  refine ⟨T.fam.put 1 rfl (r' := secRow (.slice (some ⟨g, 0, none⟩) n c) (d.safe.set i (y.1, true))) hg (show World.ownsRow _ _ _ _ _ ((d.safe.set i (y.1, true))).length _ by rw [show ((d.safe.set i (y.1, true))).length = n by simp [T.ok.ls]]; exact hr) (fun k hk => .inl hk), ⟨T.ok.pos, T.ok.le, by simp [T.ok.ls], T.ok.ln, set_len T.ok.s64 i _ h64, T.ok.n64, T.ok.w64⟩⟩
theorem Dsk.putN (T : Dsk w0 w db n d vs (.slice (some ⟨g, 0, none⟩) n c) vw vk R) (i : Nat) (hi : i < n) (x : Sec) (hx : x.1.length = 64) : Dsk w0 (w.setCells g (i * 65) (sv x)) db n { d with now := d.now.set i x } vs (.slice (some ⟨g, 0, none⟩) n c) vw vk R := by
  have h : w.ownsRow w0.heap.size 71 65 (.slice (some ⟨g, 0, none⟩) n c) d.now.length (d.now.flatMap sv) := T.fam.row 2 _ rfl
  rw [T.ok.ln] at h
  obtain ⟨hr, hg⟩ := stored_many (sv x) w _ (i * 65) h
  rw [flat_set (sv_len T.ok.n64) i (by rw [T.ok.ln]; exact hi) x (by simp [sv, hx])] at hr
  refine ⟨T.fam.put 2 rfl (r' := secRow (.slice (some ⟨g, 0, none⟩) n c) (d.now.set i x)) hg (show World.ownsRow _ _ _ _ _ ((d.now.set i x)).length _ by rw [show ((d.now.set i x)).length = n by simp [T.ok.ln]]; exact hr) (fun k hk => .inl hk), ⟨T.ok.pos, T.ok.le, T.ok.ls, by simp [T.ok.ln], T.ok.s64, set_len T.ok.n64 i x hx, T.ok.w64⟩⟩
end
def stepC (ks : List Bool) (t : Int) (j : Nat) (x : Wri) (s : List Sec) : List Sec :=
  if (j : Int) = t then (match s[x.1]? with | some y => s.set x.1 (y.1, true) | none => s)
  else if ks.getD j false then s.set x.1 (x.2, false) else s
def crs (ks : List Bool) (t : Int) (l : List Wri) (s : List Sec) : Nat → List Sec
  | 0 => s
  | j + 1 => match l[j]? with | some x => stepC ks t j x (crs ks t l s j) | none => crs ks t l s j
theorem storeCells_one (a : Addr) (v : Value) (i : Nat) : storeCells a [v] i = (do store (a.add i) v) := by
  simp [storeCells]
theorem storeCells_three (a : Addr) (u v x : Value) (i : Nat) : storeCells a [u, v, x] i = (do store (a.add i) u; store (a.add (i + 1)) v; store (a.add (i + 1 + 1)) x) := by
  simp [storeCells]
theorem sv_one (s : Sec) : ∀ u ∈ sv s, u.oneCell' = true := fun u hu => by
  simp only [sv, List.mem_append, List.mem_map, List.mem_singleton] at hu
  rcases hu with ⟨x, _, rfl⟩ | rfl <;> rfl
theorem wv_one (s : Wri) : ∀ u ∈ wv s, u.oneCell' = true := fun u hu => by
  simp only [wv, List.mem_cons, List.mem_map] at hu
  rcases hu with rfl | ⟨x, _, rfl⟩ <;> rfl
theorem flat_one {α : Type} {f : α → List Value} (h : ∀ x, ∀ u ∈ f x, u.oneCell' = true) (l : List α) : ∀ u ∈ l.flatMap f, u.oneCell' = true := fun u hu => by
  obtain ⟨x, _, hx⟩ := List.mem_flatMap.1 hu
  exact h x u hx
/-- Cells that lie in a row are loaded. -/
theorem row_max {w : World} {base e size n : Nat} {v : Value} {xs : List Value} (h : w.ownsRow base e size v n xs) : n ≤ maxLen := by
  rcases h.2 with ⟨_, rfl⟩ | ⟨g, cap, cur, _, _, _, h1, h2, _⟩
  · exact Nat.zero_le _
  · omega
theorem cell_heap {w w' : World} (h : w'.heap = w.heap) (p : Addr) : w'.cell? p = w.cell? p := World.cell?_of_block (by rw [h])
theorem frozen_heap {w w' : World} (h : w'.heap = w.heap) (p : Addr) : w'.frozen? p = w.frozen? p := World.frozen?_of_block (by rw [h])
theorem load_mid (w : World) (b o : Nat) (cs : List Value) (m : Nat) (hm : cs.length = m) (h : ∀ j, j < m → w.cell? ⟨b, o + j, none⟩ = cs[j]?) : (loadCells ⟨b, o, none⟩ m).run Tryd.prog w = .ok cs.toArray w := by
  subst hm
  exact run_loadCells_list (P := Tryd.prog) w ⟨b, o, none⟩ cs (fun j v hv => by rw [addr_mid, h j (List.getElem?_eq_some_iff.1 hv).1, hv])
theorem store_mid (w : World) (b o : Nat) (cs : List Value) (hc : ∀ j, j < cs.length → (w.cell? ⟨b, o + j, none⟩).isSome = true) (hf : ∀ j, w.frozen? ⟨b, o + j, none⟩ = false) (h1 : ∀ u ∈ cs, u.oneCell' = true) : (storeCells ⟨b, o, none⟩ cs 0).run Tryd.prog w = .ok () (w.setCells b o cs) := by
  have h := run_storeCells_cells (P := Tryd.prog) b o cs 0 w (by simpa using hc) (by simpa using fun j _ => hf j) h1
  simpa using h
/-- A write, copied into a variable of its own. -/
theorem own_wri (w : World) (x : Wri) (hx : x.2.length = 64) : ∃ w2, (storeCells ⟨w.heap.size, 0, none⟩ (wv x) 0).run Tryd.prog (w.alloc (.cells zw 69)) = .ok () w2 ∧ Below w.heap.size w w2 ∧ w2.cell? ⟨w.heap.size, 0, none⟩ = some (.int .i64 (x.1 : Int)) ∧ (∀ q, q < 64 → w2.cell? ⟨w.heap.size, 1 + q, none⟩ = (x.2.map (Value.int .u8))[q]?) ∧ (∀ q, q < 65 → w2.cell? ⟨w.heap.size, 0 + q, none⟩ = (wv x)[q]?) ∧ w.heap.size < w2.heap.size ∧ (∀ j, w2.frozen? ⟨w.heap.size, j, none⟩ = false) := by
  have h0 := World.ownsRow_lit (base := w.heap.size) (e := 69) (size := 65) w zw 1 (Nat.le_refl _) (by decide) rfl
  have hl : (wv x).length = 65 := by simp [wv, hx]
  have hz : zw.toList.length = 65 := rfl
  have hc0 : ∀ j, j < 65 → ((w.alloc (.cells zw 69)).cell? ⟨w.heap.size, 0 + j, none⟩).isSome = true := fun j hj => by
    rw [World.ownsRow.cellAt h0 (0 + j) (by omega), List.getElem?_eq_getElem (by omega)]
    rfl
  obtain ⟨h1, g1⟩ := stored_many (wv x) _ _ 0 h0
  have e1 : setL zw.toList 0 (wv x) = wv x := by
    have := setL_mid [] zw.toList [] (wv x) (by rw [hz, hl])
    simpa using this
  rw [e1] at h1
  have hcell := fun j (hj : j < 65) => World.ownsRow.cellAt h1 j (by omega)
  refine ⟨_, store_mid _ _ 0 (wv x) (fun j hj => hc0 j (by omega)) (fun j => World.ownsRow.frozenAt h0 _) (wv_one x), ?_, ?_, ?_, ?_, ?_, fun j => World.ownsRow.frozenAt h1 _⟩
  · exact ((Below.refl _ w).alloc (Nat.le_refl _) _).grown g1 (by simp) (fun k hk => by cases hk; exact Nat.le_refl _)
  · rw [hcell 0 (by omega)]; rfl
  · intro j hj
    rw [hcell (1 + j) (by omega), wv, Nat.add_comm 1 j, List.getElem?_cons_succ]
  · intro j hj
    rw [hcell (0 + j) (by omega), Nat.zero_add]
  · have := g1.size
    simp only [World.size_alloc] at this
    omega
theorem copy_wide {base elem g a n cg ca size : Nat} {w : World} {xs ys : List Value} {t ty : TypeId} (hu : Tryd.prog.underlying t = some (.slice elem)) (hs : (Tryd.prog.info? elem).map (·.size) = some size) (_ : 0 < n * size) (h : w.ownsRow base elem size (.slice (some ⟨g, 0, none⟩) n cg) n xs) (h' : w.ownsRow base elem size (.slice (some ⟨a, 0, none⟩) n ca) n ys) (h1 : ∀ u ∈ ys, u.oneCell' = true) : ∃ w5, (Builtin.copy_ #[t, t] ty #[.slice (some ⟨g, 0, none⟩) n cg, .slice (some ⟨a, 0, none⟩) n ca]).run Tryd.prog w = .ok (goInt n) w5 ∧ w5.ownsRow base elem size (.slice (some ⟨g, 0, none⟩) n cg) n ys ∧ w.grownBy w5 (some g) := by
  have hl := h'.1
  rcases h.2 with ⟨e, _⟩ | ⟨g', cap, cur, e, hb, hg, hnc, hcm, hcs, htk⟩
  · cases e
  · cases e
    have hfit : n * size ≤ cg * size := Nat.mul_le_mul_right _ hnc
    have hr := run_copy_wide (P := Tryd.prog) w t t ty elem g n cg ⟨a, 0, none⟩ n ca size cur elem ys hu hs hg (by simp [hl]) (fun j v hv => by
      rw [addr_mid, Nat.zero_add, World.ownsRow.cellAt h' j (by have := (List.getElem?_eq_some_iff.1 hv).1; omega), hv]) (by omega) h1
    simp only [Nat.min_self] at hr
    refine ⟨_, hr, ⟨hl, .inr ⟨g, cg, _, rfl, hb, setRow_heap w g cur _ elem _ hg, hnc, hcm, ?_, ?_⟩⟩, ⟨rfl, rfl, rfl, by simp [World.setRow], fun k _ hk => setRow_other w g k _ (fun e => hk (by simp [e]))⟩⟩
    · simp [hl]
      omega
    · simp [← hl]
section
attribute [-go_sem] Go.loadCells Go.storeCells Go.Instr.alloc Go.Instr.buildSlice Go.Instr.build Go.Instr.fill
attribute [local go_sem] storeCells_one storeCells_three
variable {w0 w w' : World} {db n : Nat} {d : Dk} {vs vn vw vk : Value} {R : List RowD}
theorem Dsk.copyN {gs gn cs cn : Nat} (T : Dsk w0 w db n d (.slice (some ⟨gs, 0, none⟩) n cs) (.slice (some ⟨gn, 0, none⟩) n cn) vw vk R) : ∃ w5, (Builtin.copy_ #[51, 51] 3 #[.slice (some ⟨gn, 0, none⟩) n cn, .slice (some ⟨gs, 0, none⟩) n cs]).run Tryd.prog w = .ok (goInt n) w5 ∧ Dsk w0 w5 db n { d with now := d.safe } (.slice (some ⟨gs, 0, none⟩) n cs) (.slice (some ⟨gn, 0, none⟩) n cn) vw vk R := by
  have hS : w.ownsRow w0.heap.size 71 65 (.slice (some ⟨gs, 0, none⟩) n cs) d.safe.length (d.safe.flatMap sv) := T.fam.row 1 _ rfl
  have hN : w.ownsRow w0.heap.size 71 65 (.slice (some ⟨gn, 0, none⟩) n cn) d.now.length (d.now.flatMap sv) := T.fam.row 2 _ rfl
  rw [T.ok.ls] at hS
  rw [T.ok.ln] at hN
  obtain ⟨w5, hr, h5, g5⟩ := copy_wide (ty := 3) Tryd.underlying51 (by kernel_rfl) (by have := T.ok.pos; omega) hN hS (flat_one sv_one _)
  refine ⟨w5, hr, ⟨T.fam.put 2 rfl (r' := secRow (.slice (some ⟨gn, 0, none⟩) n cn) d.safe) g5 (show World.ownsRow _ _ _ _ _ (d.safe).length _ by rw [show (d.safe).length = n by simp [T.ok.ls]]; exact h5) (fun k hk => .inl hk), ⟨T.ok.pos, T.ok.le, T.ok.ls, T.ok.ls, T.ok.s64, T.ok.s64, T.ok.w64⟩⟩⟩
set_option maxHeartbeats 4000000 in
theorem crash_on (T : Dsk w0 w db n d vs vn vw vk R) (hoff : d.off = false) (t : Int) {v : Value} {ks : List Bool} (hv : RdV w v (ks.map Value.bool)) (hne : ks.map Value.bool ≠ [] → ∀ k, v.ownBlock = some k → vs.ownBlock ≠ some k) : Calls Tryd.prog 20 #[.pointer (some ⟨db, 0, none⟩), v, .int .i64 t] w fun e w' => e = .returned (.tuple #[]) ∧ Dsk w0 w' db n ⟨crs ks t d.wr d.safe d.wr.length, crs ks t d.wr d.safe d.wr.length, [], true, 0, [], 0⟩ vs vn (.slice none 0 0) (.slice none 0 0) R := by
  have c3 := T.c3
  rw [hoff] at c3
  have c2 := T.c2
  obtain ⟨gs, cs, rfl, _⟩ := T.rs
  obtain ⟨gn, cn, rfl, _⟩ := T.rn
  obtain ⟨pw, cw, rfl⟩ := row_slice T.rw
  obtain ⟨pv, cv, rfl, hvr⟩ := id hv
  clear hvr
  simp only [List.length_map] at hv hne ⊢
  have hA := alloc_wri (.tuple #[])
  go_enter Tryd.func20, Tryd.ntmps20
  go_wp2
  go_loopw [17] (fun i wq => ∃ j : Nat, i = .int .i64 j ∧ j ≤ d.wr.length ∧ Dsk w0 wq db n { d with safe := crs ks t d.wr d.safe j } (.slice (some ⟨gs, 0, none⟩) n cs) (.slice (some ⟨gn, 0, none⟩) n cn) (.slice pw d.wr.length cw) vk R ∧ RdV wq (.slice pv ks.length cv) (ks.map Value.bool)) (fun i _ => d.wr.length - (intOf i).toNat)
  case atStart => exact ⟨0, rfl, by omega, T, hv⟩
  case round =>
    obtain ⟨j, rfl, hj, T1, hv1⟩ := hrel
    have hwI : (d.wr.length : Int) ≤ 9223372036854775807 := by have := row_max T.rw; unfold maxLen at this; omega
    by_cases hlt : j < d.wr.length
    · have hjI : (j : Int) < d.wr.length := by omega
      obtain ⟨x, hx⟩ : ∃ x, d.wr[j]? = some x := ⟨_, List.getElem?_eq_getElem hlt⟩
      have hxw := T.ok.w64 x (List.mem_of_getElem? hx)
      obtain ⟨gw, rfl, _⟩ := row_open T1.rw (by show 0 < d.wr.length; omega)
      have L1 : (loadCells ⟨gw, j * 65, none⟩ 65).run Tryd.prog wr = .ok (wv x).toArray wr := load_mid _ _ _ _ 65 (wv_len T.ok.w64 x (List.mem_of_getElem? hx)) (fun q hq => wide_cell (wv_len T.ok.w64) T1.rw j q x hx hq)
      obtain ⟨w2, hS2, B2, e0, LC, _, hhl, _⟩ := own_wri wr x hxw.2
      have LB2 : ∀ w', w'.heap = w2.heap → (loadCells ⟨wr.heap.size, 1, none⟩ 64).run Tryd.prog w' = .ok (x.2.map (Value.int .u8)).toArray w' := fun w' hw' => load_mid w' _ 1 _ 64 (by simp [hxw.2]) (fun q hq => by rw [cell_heap hw']; exact LC q hq)
      have T2 := T1.step B2
      have hv2 := hv1.below B2
      have k0 := T2.c0
      have hwl := wv_len T.ok.w64 x (List.mem_of_getElem? hx)
      have hxI : (x.1 : Int) < n := by omega
      have hcr : crs ks t d.wr d.safe (j + 1) = stepC ks t j x (crs ks t d.wr d.safe j) := by rw [crs, hx]
      obtain ⟨y, hy⟩ : ∃ y, (crs ks t d.wr d.safe j)[x.1]? = some y := ⟨_, List.getElem?_eq_getElem (by have := T2.ok.ls; simp only at this; omega)⟩
      have hrowS : w2.ownsRow w0.heap.size 71 65 (.slice (some ⟨gs, 0, none⟩) (crs ks t d.wr d.safe j).length cs) (crs ks t d.wr d.safe j).length ((crs ks t d.wr d.safe j).flatMap sv) := by
        have h : w2.ownsRow w0.heap.size 71 65 (.slice (some ⟨gs, 0, none⟩) n cs) (crs ks t d.wr d.safe j).length ((crs ks t d.wr d.safe j).flatMap sv) := T2.fam.row 1 _ rfl
        have e := T2.ok.ls
        simp only at e
        rw [← e] at h
        exact h
      have hcs := fun q (hq : q < 65) => wide_cell (sv_len T2.ok.s64) hrowS x.1 q y hy hq
      have hfs := fun q => World.ownsRow.frozenAt hrowS q
      have hyl := sv_len T2.ok.s64 y (List.mem_of_getElem? hy)
      by_cases hjt : (j : Int) = t
      · subst hjt
        have q1 : w2.cell? ⟨gs, x.1 * 65 + 64, none⟩ = some (.bool y.2) := by
          rw [hcs 64 (by omega), sv, List.getElem?_append_right (by simp [T2.ok.s64 y (List.mem_of_getElem? hy)])]
          simp [T2.ok.s64 y (List.mem_of_getElem? hy)]
        have q2 := hfs (x.1 * 65 + 64)
        clear hcs hfs
        have hst : crs ks (j : Int) d.wr d.safe (j + 1) = (crs ks (j : Int) d.wr d.safe j).set x.1 (y.1, true) := by rw [hcr, stepC, if_pos rfl, hy]
        go_wp2
        go_region
        simp only [Exit.inBlock]
        go_wp2
        refine ⟨⟨j + 1, by simp, by omega, ?_, ?_⟩, by simp [intOf]; omega⟩
        · rw [hst]
          exact (T2.tornS x.1 y hy).step (Below.refl _ _).drew
        · exact ((hv2.keeps (setcell_keeps _ gs (x.1 * 65 + 64) (.bool true)) (fun h0 k hk he => hne h0 k hk (by have he' : k = gs := he; rw [he']; rfl)))).below (Below.refl _ _).drew
      · have hskip : ks.getD j false = false → crs ks t d.wr d.safe (j + 1) = crs ks t d.wr d.safe j := fun h => by rw [hcr, stepC, if_neg hjt, h]; simp
        by_cases hjk : j < ks.length
        · have hjkI : (j : Int) < ks.length := by omega
          obtain ⟨b, o, rfl, _, hbc⟩ := rdv_nth hv2 (t := j) (by simpa using hjk)
          rw [List.getElem?_map, List.getElem?_eq_getElem hjk, Option.map_some] at hbc
          have hgd : ks.getD j false = ks[j] := by rw [List.getD_eq_getElem?_getD, List.getElem?_eq_getElem hjk]; rfl
          generalize ks[j] = kb at hbc hgd
          cases kb with
          | false =>
            clear hcs hfs
            go_wp2
            refine ⟨⟨j + 1, by simp, by omega, ?_, hv2⟩, by simp [intOf]; omega⟩
            rw [hskip hgd]
            exact T2
          | true =>
            have hst : crs ks t d.wr d.safe (j + 1) = (crs ks t d.wr d.safe j).set x.1 (x.2, false) := by rw [hcr, stepC, if_neg hjt, hgd]; simp
            have hB := build_sec x.2 hxw.2
            have hxl : (sv (x.2, false)).length = 65 := by simp [sv, hxw.2]
            have hS7 : ∀ w', w'.heap = w2.heap → (storeCells ⟨gs, x.1 * 65, none⟩ (sv (x.2, false)) 0).run Tryd.prog w' = .ok () (w'.setCells gs (x.1 * 65) (sv (x.2, false))) := fun w' hw' => store_mid w' gs (x.1 * 65) (sv (x.2, false)) (fun q hq => by rw [cell_heap hw', hcs q (by omega), List.getElem?_eq_getElem (by omega)]; rfl) (fun q => by rw [frozen_heap hw']; exact hfs _) (sv_one _)
            have LBd := LB2 w2.drew rfl
            have hSd := hS7 w2.drew rfl
            clear hcs hfs LB2 hS7
            go_wp2
            go_region
            simp only [Exit.inBlock]
            go_wp2
            refine ⟨⟨j + 1, by simp, by omega, ?_, ?_⟩, by simp [intOf]; omega⟩
            · rw [hst]
              exact (T2.step (by first | exact Below.refl _ _ | exact (Below.refl _ _).drew | exact (Below.refl _ _).drew.drew)).putS x.1 hxw.1 (x.2, false) hxw.2
            · exact (hv2.below (by first | exact Below.refl _ _ | exact (Below.refl _ _).drew | exact (Below.refl _ _).drew.drew)).keeps (F := fun k => k = gs) (Keeps.of_grown (stored_many (sv (x.2, false)) _ _ (x.1 * 65) (by first | exact hrowS | exact own_below hrowS ((Below.refl _ w2).drew) (fun k hk => (row_base hrowS hk).2) | exact own_below hrowS ((Below.refl _ w2).drew.drew) (fun k hk => (row_base hrowS hk).2))).2 (fun k hk => by cases hk; rfl)) (fun h0 k hk he => hne h0 k hk (by rw [he]; rfl))
        · have hjkI : ¬ (j : Int) < ks.length := by omega
          clear hcs hfs
          go_wp2
          refine ⟨⟨j + 1, by simp, by omega, ?_, hv2⟩, by simp [intOf]; omega⟩
          rw [hskip (by rw [List.getD_eq_getElem?_getD, List.getElem?_eq_none (by omega)]; rfl)]
          exact T2
    · obtain rfl : j = d.wr.length := by omega
      have k0 := T1.c0
      have k1 := T1.c1
      obtain ⟨w5, h5, T5⟩ := (T1.step (Below.refl _ wr).drew).copyN
      have y2 := T5.c2
      have y3 := T5.c3
      have y4 := T5.c4
      have y5 := T5.c5
      have y6 := T5.c6
      have z2 := T5.z 2
      have z3 := T5.z 3
      have z4 := T5.z 4
      have z5 := T5.z 5
      have z6 := T5.z 6
      have hz55 := fun w => run_build (P := Tryd.prog) w 54 #[] #[.int .i64 0, .slice none 0 0, .int .i64 0] (by kernel_rfl)
      have T6 := T5.clearW
      have T7 := T6.setTrip (v' := .slice none 0 0) (l := []) (Below.refl _ _) (World.ownsRow_nil _ _ _ _) (fun k hk => by simp [Value.ownBlock] at hk) 0 0
      have T8 := (show Hid _ from T7.setOff true)
      clear T5 T6 T7
      go_wp2
      go_region
      simp only [Exit.then]
      go_wp2
      go_end0
      exact ⟨rfl, T8.out⟩
theorem crash_off (T : Dsk w0 w db n d vs vn vw vk R) (hoff : d.off = true) (t : Int) (v : Value) : Calls Tryd.prog 20 #[.pointer (some ⟨db, 0, none⟩), v, .int .i64 t] w fun e w' => e = .returned (.tuple #[]) ∧ w' = w := by
  have c3 := T.c3
  rw [hoff] at c3
  go_enter Tryd.func20, Tryd.ntmps20
  go_wp2
  refine bodyPost_ret (v := .tuple #[]) (by simp [results, Tryd.results20, go_sem]) rfl ?_
  exact ⟨rfl, rfl⟩
end
end Go.Proofs.YtafpfiadapabaaaDoor
