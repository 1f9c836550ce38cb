/-
  KNOW: newSearch, its rows. Own work.
-/
import Derived.Test.YtikbeagcflofhaaKNi
import Derived.Deep.CutRange
import Derived.Deep.DeepCutAuto
namespace Go.Proofs.Ytikbeagcflofhaa
open Go.RowKit Go.Maps
set_option maxRecDepth 100000
attribute [local go_sem ↓] Go.wp_at_zero Go.wp_at_succ
theorem make_row {t e : TypeId} {z : Value} {size bytes : Nat} (n : Nat) {i : TypeInfo} (ht : Try.prog.underlying t = some (.slice e)) (hi : Try.prog.info? e = some i) (hz : i.zero = some z) (hs : i.size = size) (hb : i.bytes = bytes) (hby : bytes * n ≤ 281474976710656) (h63 : n ≤ 9223372036854775807) : ∀ w, (Instr.makeSlice t (.int .i64 (n : Int)) (.int .i64 (n : Int))).run Try.prog w = .ok (.slice (some ⟨w.heap.size, 0, none⟩) n n) (w.alloc (.cells (madeCells z.cells (n * size)) e)) := by
  intro w
  have hb' : (i.bytes : Int) * (n : Int) ≤ 281474976710656 := by
    rw [hb]
    have h1 : ((bytes * n : Nat) : Int) ≤ 281474976710656 := by omega
    rwa [Int.natCast_mul] at h1
  have h := run_make (P := Try.prog) w t e i z ht hi hz .i64 .i64 n n (by omega) (Int.le_refl _) hb' (by omega)
  simpa [hs] using h
/-- Five rows and the search, just made. -/
structure NewS (w W : World) (n : Nat) (oT oK oM oF : Obj) (v4 v29 : Value) : Prop where
  ex : ∃ nb kb ob mb fb, v29 = .agg #[.slice (some ⟨nb, 0, none⟩) n n, .slice (some ⟨kb, 0, none⟩) n n, .slice (some ⟨ob, 0, none⟩) n n, .slice (some ⟨mb, 0, none⟩) n n, .slice (some ⟨fb, 0, none⟩) (n + 1) (n + 1), .slice none 0 0, .slice none 0 0] ∧
    v4 = .pointer (some ⟨w.heap.size + 5, 0, none⟩) ∧ W.heap[w.heap.size + 5]? = some (.cells #[.slice (some ⟨nb, 0, none⟩) n n, .slice (some ⟨kb, 0, none⟩) n n, .slice (some ⟨ob, 0, none⟩) n n, .slice (some ⟨mb, 0, none⟩) n n, .slice (some ⟨fb, 0, none⟩) (n + 1) (n + 1), .slice none 0 0, .slice none 0 0] 107 (0, 0)) ∧
    W.heap[nb]? = some oT ∧ W.heap[kb]? = some oK ∧ W.heap[ob]? = some oK ∧ W.heap[mb]? = some oM ∧ W.heap[fb]? = some oF ∧ w.heap.size ≤ nb ∧ w.heap.size ≤ kb ∧ w.heap.size ≤ ob ∧ w.heap.size ≤ mb ∧ w.heap.size ≤ fb ∧
    nb ≠ kb ∧ nb ≠ ob ∧ nb ≠ mb ∧ nb ≠ fb ∧ kb ≠ ob ∧ kb ≠ mb ∧ kb ≠ fb ∧ ob ≠ mb ∧ ob ≠ fb ∧ mb ≠ fb
  size : W.heap.size = w.heap.size + 6
  below : Below w.heap.size w W
theorem alloc_old (w : World) (o : Obj) {k : Nat} (h : k < w.heap.size) : (w.alloc o).heap[k]? = w.heap[k]? := ((Below.refl _ w).alloc (Nat.le_refl _) o).block k h
theorem alloc_at (w : World) (o : Obj) {k : Nat} (h : k = w.heap.size) : (w.alloc o).heap[k]? = some o := by
  subst h
  exact heap_alloc_new w o
theorem six_heap (w w1 w2 w3 w4 w5 w6 : World) (o1 o2 o3 o4 o5 o6 : Obj) (h1 : w1 = w.alloc o1) (h2 : w2 = w1.alloc o2) (h3 : w3 = w2.alloc o3) (h4 : w4 = w3.alloc o4) (h5 : w5 = w4.alloc o5) (h6 : w6 = w5.alloc o6) :
    w6.heap[w.heap.size]? = some o1 ∧ w6.heap[w.heap.size + 1]? = some o2 ∧ w6.heap[w.heap.size + 1 + 1]? = some o3 ∧ w6.heap[w.heap.size + 1 + 1 + 1]? = some o4 ∧ w6.heap[w.heap.size + 1 + 1 + 1 + 1]? = some o5 ∧ w6.heap[w.heap.size + 1 + 1 + 1 + 1 + 1]? = some o6 ∧ w6.heap.size = w.heap.size + 6 ∧ Below w.heap.size w w6 := by
  have s1 : w1.heap.size = w.heap.size + 1 := by rw [h1, World.size_alloc]
  have s2 : w2.heap.size = w.heap.size + 2 := by rw [h2, World.size_alloc, s1]
  have s3 : w3.heap.size = w.heap.size + 3 := by rw [h3, World.size_alloc, s2]
  have s4 : w4.heap.size = w.heap.size + 4 := by rw [h4, World.size_alloc, s3]
  have s5 : w5.heap.size = w.heap.size + 5 := by rw [h5, World.size_alloc, s4]
  have s6 : w6.heap.size = w.heap.size + 6 := by rw [h6, World.size_alloc, s5]
  have b1 : Below w.heap.size w w1 := by rw [h1]; exact (Below.refl _ w).alloc (Nat.le_refl _) _
  have b2 : Below w.heap.size w w2 := by rw [h2]; exact b1.alloc (by omega) _
  have b3 : Below w.heap.size w w3 := by rw [h3]; exact b2.alloc (by omega) _
  have b4 : Below w.heap.size w w4 := by rw [h4]; exact b3.alloc (by omega) _
  have b5 : Below w.heap.size w w5 := by rw [h5]; exact b4.alloc (by omega) _
  have b6 : Below w.heap.size w w6 := by rw [h6]; exact b5.alloc (by omega) _
  refine ⟨?_, ?_, ?_, ?_, ?_, ?_, s6, b6⟩
  · rw [h6, alloc_old _ _ (by omega), h5, alloc_old _ _ (by omega), h4, alloc_old _ _ (by omega), h3, alloc_old _ _ (by omega), h2, alloc_old _ _ (by omega), h1, alloc_at _ _ (by omega)]
  · rw [h6, alloc_old _ _ (by omega), h5, alloc_old _ _ (by omega), h4, alloc_old _ _ (by omega), h3, alloc_old _ _ (by omega), h2, alloc_at _ _ (by omega)]
  · rw [h6, alloc_old _ _ (by omega), h5, alloc_old _ _ (by omega), h4, alloc_old _ _ (by omega), h3, alloc_at _ _ (by omega)]
  · rw [h6, alloc_old _ _ (by omega), h5, alloc_old _ _ (by omega), h4, alloc_at _ _ (by omega)]
  · rw [h6, alloc_old _ _ (by omega), h5, alloc_at _ _ (by omega)]
  · rw [h6, alloc_at _ _ (by omega)]
end Go.Proofs.Ytikbeagcflofhaa
namespace Go.Proofs.Ytikbeagcflofhaa
open Go.RowKit Go.Maps
set_option maxRecDepth 100000
/-- The arguments of the first i terms, each with the term whose it is. -/
def edg (L : List Tm) (i : Nat) : List (Nat × Nat) := (List.range i).flatMap (fun u => (ar L u).map (fun x => (u, x)))
def usOf (E : List (Nat × Nat)) (x : Nat) : List Nat := (E.filter (fun e => decide (e.2 = x))).map (·.1)
def usr (L : List Tm) (x : Nat) : List Nat := usOf (edg L L.length) x
theorem usOf_append (E F : List (Nat × Nat)) (x : Nat) : usOf (E ++ F) x = usOf E x ++ usOf F x := by
  unfold usOf
  rw [List.filter_append, List.map_append]
theorem usOf_one (u x y : Nat) : usOf [(u, x)] y = if x = y then [u] else [] := by
  unfold usOf
  by_cases h : x = y
  · simp [h]
  · simp [h]
theorem edg_succ (L : List Tm) (i : Nat) : edg L (i + 1) = edg L i ++ (ar L i).map (fun x => (i, x)) := by
  unfold edg
  rw [List.range_succ, List.flatMap_append]
  simp
theorem usOf_row (u y : Nat) : ∀ A : List Nat, usOf (A.map (fun x => (u, x))) y = List.replicate (A.count y) u := by
  intro A
  induction A with
  | nil => rfl
  | cons a A ih =>
    have h1 : (a :: A).map (fun x => (u, x)) = [(u, a)] ++ A.map (fun x => (u, x)) := rfl
    rw [h1, usOf_append, ih, usOf_one, List.count_cons]
    by_cases h : a = y
    · subst h
      simp [List.replicate_succ]
    · simp [h]
theorem usOf_count (L : List Tm) (i u : Nat) : ∀ m, (usOf (edg L m) i).count u = if u < m then (ar L u).count i else 0 := by
  intro m
  induction m with
  | zero => simp [edg, usOf]
  | succ m ih =>
    rw [edg_succ, usOf_append, List.count_append, ih, usOf_row, List.count_replicate]
    by_cases h1 : u < m
    · have h2 : ¬ m = u := by omega
      simp [h1, h2, show u < m + 1 by omega]
    · by_cases h2 : m = u
      · subst h2
        simp
      · simp [h1, h2, show ¬ u < m + 1 by omega]
/-- Terms as they should be are a net. -/
theorem net_of {L : List Tm} (hW : Wf L) : Net L (usr L) := by
  have sh : ∀ i, i < L.length → ∃ (k n : Int) (xs : List Int), kd L i = k ∧ ar L i = xs.map Int.toNat ∧ rightOf k n xs.length = 0 ∧ ∀ x ∈ xs, 0 ≤ x ∧ x < (i : Int) := fun i hi => by
    have hg := hW.good i hi
    have ht := tm_at (List.getElem?_eq_getElem hi)
    generalize L[i] = t at *
    obtain ⟨k, m, xs⟩ := t
    exact ⟨k, m, xs, by unfold kd; rw [ht], by unfold ar; rw [ht], hg.1, hg.2.2⟩
  refine ⟨fun i hi x hx => ?_, fun i h1 => ?_, fun i hi h5 => ?_, fun i hi h6 => ?_, fun i hi h7 => ?_, fun i u _ => usOf_count L i u _⟩
  · obtain ⟨k, n, xs, _, ha, _, hx'⟩ := sh i hi
    rw [ha] at hx
    obtain ⟨z, hz, rfl⟩ := List.mem_map.1 hx
    have := hx' z hz
    omega
  · rcases Nat.lt_or_ge i L.length with hi | hi
    · obtain ⟨k, n, xs, hk, ha, hr, _⟩ := sh i hi
      rw [hk] at h1
      subst h1
      have : xs.length = 0 := by
        unfold rightOf leastOf mostOf at hr
        repeat' split at hr
        all_goals omega
      rw [ha, List.eq_nil_of_length_eq_zero this]
      rfl
    · unfold kd tmAt at h1
      rw [List.getD_eq_getElem?_getD, List.getElem?_eq_none hi] at h1
      simp at h1
  · obtain ⟨k, n, xs, hk, ha, hr, _⟩ := sh i hi
    rw [hk] at h5
    subst h5
    rw [ha, List.length_map]
    unfold rightOf leastOf mostOf at hr
    repeat' split at hr
    all_goals omega
  · obtain ⟨k, n, xs, hk, ha, hr, _⟩ := sh i hi
    rw [hk] at h6
    subst h6
    rw [ha, List.length_map]
    unfold rightOf leastOf mostOf at hr
    repeat' split at hr
    all_goals omega
  · obtain ⟨k, n, xs, hk, ha, hr, _⟩ := sh i hi
    rw [hk] at h7
    subst h7
    rw [ha, List.length_map]
    unfold rightOf leastOf mostOf at hr
    repeat' split at hr
    all_goals omega
/-- Where the uses of each begin. -/
def off (L : List Tm) : Nat → Nat
  | 0 => 0
  | x + 1 => off L x + (usr L x).length
theorem off_mono (L : List Tm) {x y : Nat} (h : x ≤ y) : off L x ≤ off L y := by
  induction h with
  | refl => exact Nat.le_refl _
  | step _ ih => exact Nat.le_trans ih (Nat.le_add_right _ _)
/-- The uses, as far as they have been laid. -/
structure Laid (L : List Tm) (E : List (Nat × Nat)) (nx us : List Int) : Prop where
  ln : nx.length = L.length + 1
  lu : us.length = off L L.length
  nx : ∀ x, x < L.length → nx.getD x 0 = (off L x + (usOf E x).length : Nat)
  us : ∀ x, x < L.length → ∀ j, j < (usOf E x).length → us.getD (off L x + j) 0 = ((usOf E x).getD j 0 : Nat)
/-- Of the edges those that are laid come first. -/
theorem part_le {L : List Tm} {E F : List (Nat × Nat)} {u x : Nat} (h : edg L L.length = E ++ (u, x) :: F) : (usOf E x).length < (usr L x).length := by
  unfold usr
  have h1 : E ++ (u, x) :: F = E ++ ([(u, x)] ++ F) := rfl
  rw [h, h1, usOf_append, usOf_append, usOf_one, if_pos rfl]
  simp
theorem part_le' {L : List Tm} {E F : List (Nat × Nat)} (h : edg L L.length = E ++ F) (y : Nat) : (usOf E y).length ≤ (usr L y).length := by
  unfold usr
  rw [h, usOf_append]
  simp
theorem getD_set_ne {l : List Int} {i j : Nat} {v : Int} (h : i ≠ j) : (l.set i v).getD j 0 = l.getD j 0 := by
  rw [List.getD_eq_getElem?_getD, List.getElem?_set_ne h, ← List.getD_eq_getElem?_getD]
theorem getD_set_eq {l : List Int} {i : Nat} {v : Int} (h : i < l.length) : (l.set i v).getD i 0 = v := by
  rw [List.getD_eq_getElem?_getD, List.getElem?_set_self h]
  rfl
/-- One more is laid. -/
theorem Laid.more {L : List Tm} {E F : List (Nat × Nat)} {nx us : List Int} {u x : Nat} (h : Laid L E nx us) (hE : edg L L.length = E ++ (u, x) :: F) (hx : x < L.length) :
    off L x + (usOf E x).length < us.length ∧ Laid L (E ++ [(u, x)]) (nx.set x ((off L x + (usOf E x).length : Nat) + 1)) (us.set (off L x + (usOf E x).length) u) := by
  have hp := part_le hE
  have h1 : off L x + (usOf E x).length < off L (x + 1) := by
    show _ < off L x + (usr L x).length
    omega
  have h2 : off L (x + 1) ≤ off L L.length := off_mono L hx
  have hlu : off L x + (usOf E x).length < us.length := by rw [h.lu]; omega
  refine ⟨hlu, by simp [h.ln], by simp [h.lu], fun y hy => ?_, fun y hy j hj => ?_⟩
  · rw [usOf_append, usOf_one]
    by_cases e : x = y
    · subst e
      rw [getD_set_eq (by rw [h.ln]; omega), if_pos rfl, List.length_append]
      simp
      omega
    · rw [getD_set_ne e, if_neg e, List.append_nil, h.nx y hy]
  · rw [usOf_append, usOf_one] at hj ⊢
    by_cases e : x = y
    · subst e
      rw [if_pos rfl] at hj ⊢
      rw [List.length_append] at hj
      simp only [List.length_cons, List.length_nil] at hj
      rcases Nat.lt_or_ge j (usOf E x).length with h3 | h3
      · rw [getD_set_ne (by omega), h.us x hx j h3, List.getD_eq_getElem?_getD, List.getD_eq_getElem?_getD, List.getElem?_append_left h3]
      · obtain rfl : j = (usOf E x).length := by omega
        rw [getD_set_eq hlu, List.getD_eq_getElem?_getD, List.getElem?_append_right (Nat.le_refl _)]
        simp
    · rw [if_neg e, List.append_nil] at hj ⊢
      rw [getD_set_ne ?_, h.us y hy j hj]
      intro he
      have hq := part_le' hE y
      rcases Nat.lt_or_gt_of_ne e with h3 | h3
      · have h4 := off_mono L (show x + 1 ≤ y from h3)
        omega
      · have h4 := off_mono L (show y + 1 ≤ x from h3)
        have h5 : off L (y + 1) = off L y + (usr L y).length := rfl
        omega
/-- All are laid. -/
theorem Laid.done {L : List Tm} {nx us : List Int} (h : Laid L (edg L L.length) nx us) {i : Nat} (hi : i < L.length) : (us.drop (off L i)).take (off L (i + 1) - off L i) = (usr L i).map (fun u : Nat => (u : Int)) := by
  have h1 : off L (i + 1) = off L i + (usr L i).length := rfl
  have h2 : off L (i + 1) ≤ us.length := by rw [h.lu]; exact off_mono L hi
  refine getD_ext (by simp; omega) fun t ht => ?_
  have ht' : t < (usr L i).length := by simp at ht; omega
  have h3 := h.us i hi t ht'
  rw [List.getD_eq_getElem?_getD, List.getElem?_take, if_pos (by omega), List.getElem?_drop, ← List.getD_eq_getElem?_getD, h3, List.getD_eq_getElem?_getD, List.getD_eq_getElem?_getD, List.getElem?_map]
  show _ = (Option.map _ (usr L i)[t]?).getD 0
  rw [List.getElem?_eq_getElem ht']
  unfold usr at ht' ⊢
  rw [List.getElem?_eq_getElem ht']
  rfl
end Go.Proofs.Ytikbeagcflofhaa
namespace Go.Proofs.Ytikbeagcflofhaa
open Go.RowKit Go.Maps
set_option maxRecDepth 100000
/-- The blocks of the search that is being made. -/
structure Six (b sb nb kb ob mb fb : Nat) : Prop where
  lo : ∀ k, (k = sb ∨ k = nb ∨ k = kb ∨ k = ob ∨ k = mb ∨ k = fb) → b ≤ k ∧ k < b + 6
  d1 : sb ≠ nb ∧ sb ≠ kb ∧ sb ≠ ob ∧ sb ≠ mb ∧ sb ≠ fb
  d2 : nb ≠ kb ∧ nb ≠ ob ∧ nb ≠ mb ∧ nb ≠ fb
  d3 : kb ≠ ob ∧ kb ≠ mb ∧ kb ≠ fb ∧ ob ≠ mb ∧ ob ≠ fb ∧ mb ≠ fb
/-- A node that was copied. -/
structure Cop (b : Nat) (wq : World) (cs : List Value) (j : Nat) (v : Value) (t : Tm) : Prop where
  c0 : cs[j * 3]? = some (.int .i64 t.1)
  c1 : cs[j * 3 + 1]? = some (.int .i64 t.2.1)
  c2 : cs[j * 3 + 2]? = some v
  rd : RdW wq v t.2.2
  hi : ∀ k, v.ownBlock = some k → b + 6 ≤ k
  cap : ∀ p n c, v = .slice p n c → n ≤ c
structure Bd (w1 : World) (L : List Tm) (n sb nb kb ob mb fb : Nat) (uv : Value) (cs : List Value) (ms fs : List Int) (vs : Nat → Value) (i : Nat) (wq : World) : Prop where
  s0 : wq.cell? ⟨sb, 0, none⟩ = some (.slice (some ⟨nb, 0, none⟩) n n)
  s1 : wq.cell? ⟨sb, 1, none⟩ = some (.slice (some ⟨kb, 0, none⟩) n n)
  s2 : wq.cell? ⟨sb, 2, none⟩ = some (.slice (some ⟨ob, 0, none⟩) n n)
  s3 : wq.cell? ⟨sb, 3, none⟩ = some (.slice (some ⟨mb, 0, none⟩) n n)
  s4 : wq.cell? ⟨sb, 4, none⟩ = some (.slice (some ⟨fb, 0, none⟩) (n + 1) (n + 1))
  s5 : wq.cell? ⟨sb, 5, none⟩ = some uv
  s6 : wq.cell? ⟨sb, 6, none⟩ = some (.slice none 0 0)
  z5 : wq.frozen? ⟨sb, 5, none⟩ = false
  z6 : wq.frozen? ⟨sb, 6, none⟩ = false
  nd : wq.ownsRow w1.heap.size 43 3 (.slice (some ⟨nb, 0, none⟩) n n) n cs
  kn : wq.ownsRow w1.heap.size 4 1 (.slice (some ⟨kb, 0, none⟩) n n) n ((List.replicate n false).map Value.bool)
  op : wq.ownsRow w1.heap.size 4 1 (.slice (some ⟨ob, 0, none⟩) n n) n ((List.replicate n false).map Value.bool)
  ms : wq.ownsRow w1.heap.size 3 1 (.slice (some ⟨mb, 0, none⟩) n n) n (ms.map (Value.int .i64))
  fs : wq.ownsRow w1.heap.size 3 1 (.slice (some ⟨fb, 0, none⟩) (n + 1) (n + 1)) (n + 1) (fs.map (Value.int .i64))
  done : ∀ j, j < i → ∀ t, L[j]? = some t → Cop w1.heap.size wq cs j (vs j) t
  six : Six w1.heap.size sb nb kb ob mb fb
  room : w1.heap.size + 6 ≤ wq.heap.size
  below : Below w1.heap.size w1 wq
theorem row_of_heap {w : World} {base e size n g : Nat} {cur : Array Value} (h : w.heap[g]? = some (.cells cur e (0, 0))) (hb : base ≤ g) (hs : cur.size = n * size) (hn : n ≤ maxLen) : w.ownsRow base e size (.slice (some ⟨g, 0, none⟩) n n) n cur.toList := by
  have e1 : cur.toList.take (n * size) = cur.toList := by
    rw [List.take_of_length_le]
    simp [hs]
  exact ⟨by simp [hs], .inr ⟨g, n, cur, rfl, hb, h, Nat.le_refl _, hn, hs, e1⟩⟩
theorem made_bools (n : Nat) : (madeCells (Value.bool false).cells (n * 1)).toList = (List.replicate n false).map Value.bool := by
  rw [Nat.mul_one]
  exact (toList_madeCells_one (.bool false) n).trans (by simp)
theorem made_ints (n : Nat) : (madeCells (Value.int .i64 0).cells (n * 1)).toList = (List.replicate n (0 : Int)).map (Value.int .i64) := by
  rw [Nat.mul_one]
  exact (toList_madeCells_one (.int .i64 0) n).trans (by simp)
/-- Just made. -/
theorem NewS.bd {w1 wc : World} {n : Nat} {oT oK oM oF : Obj} {v4 v29 : Value} {L : List Tm} (h : NewS w1 wc n oT oK oM oF v4 v29) (hn : n ≤ 1048576) (eT : oT = .cells (madeCells (Value.agg #[.int .i64 0, .int .i64 0, .slice none 0 0]).cells (n * 3)) 43) (eK : oK = .cells (madeCells (Value.bool false).cells (n * 1)) 4) (eM : oM = .cells (madeCells (Value.int .i64 0).cells (n * 1)) 3) (eF : oF = .cells (madeCells (Value.int .i64 0).cells ((n + 1) * 1)) 3) :
    ∃ sb nb kb ob mb fb cs, v4 = .pointer (some ⟨sb, 0, none⟩) ∧ Bd w1 L n sb nb kb ob mb fb (.slice none 0 0) cs (List.replicate n 0) (List.replicate (n + 1) 0) (fun _ => .slice none 0 0) 0 wc := by
  obtain ⟨nb, kb, ob, mb, fb, _, h4, hS, hN, hK, hO, hM, hF, l1, l2, l3, l4, l5, d1, d2, d3, d4, d5, d6, d7, d8, d9, d10⟩ := h.ex
  subst eT eK eM eF
  have lt : ∀ {k : Nat} {o : Obj}, wc.heap[k]? = some o → k < wc.heap.size := fun hk => (Array.getElem?_eq_some_iff.1 hk).1
  have hsz := h.size
  have k1 := lt hN
  have k2 := lt hK
  have k3 := lt hO
  have k4 := lt hM
  have k5 := lt hF
  have c0 : ∀ j u, (#[Value.slice (some ⟨nb, 0, none⟩) n n, .slice (some ⟨kb, 0, none⟩) n n, .slice (some ⟨ob, 0, none⟩) n n, .slice (some ⟨mb, 0, none⟩) n n, .slice (some ⟨fb, 0, none⟩) (n + 1) (n + 1), .slice none 0 0, .slice none 0 0] : Array Value)[j]? = some u → wc.cell? ⟨w1.heap.size + 5, j, none⟩ = some u := fun j u hu => by
    rw [cell_of_row _ (w1.heap.size + 5) j _ _ (0, 0) hS]
    exact hu
  have ns : ∀ {k : Nat} {cur : Array Value} {e : TypeId}, wc.heap[k]? = some (.cells cur e (0, 0)) → e ≠ 107 → k ≠ w1.heap.size + 5 := fun hk he e1 => by
    subst e1
    rw [hS] at hk
    cases hk
    exact he rfl
  have x1 := ns hN (by decide)
  have x2 := ns hK (by decide)
  have x3 := ns hO (by decide)
  have x4 := ns hM (by decide)
  have x5 := ns hF (by decide)
  have rN := row_of_heap (base := w1.heap.size) hN l1 (size_madeCells _ _) (by unfold maxLen; omega)
  have rK := row_of_heap (base := w1.heap.size) hK l2 (size_madeCells _ _) (by unfold maxLen; omega)
  have rO := row_of_heap (base := w1.heap.size) hO l3 (size_madeCells _ _) (by unfold maxLen; omega)
  have rM := row_of_heap (base := w1.heap.size) hM l4 (size_madeCells _ _) (by unfold maxLen; omega)
  have rF := row_of_heap (base := w1.heap.size) hF l5 (size_madeCells _ _) (by unfold maxLen; omega)
  rw [made_bools] at rK rO
  rw [made_ints] at rM rF
  refine ⟨w1.heap.size + 5, nb, kb, ob, mb, fb, _, h4, c0 0 _ rfl, c0 1 _ rfl, c0 2 _ rfl, c0 3 _ rfl, c0 4 _ rfl, c0 5 _ rfl, c0 6 _ rfl, ?_, ?_, rN, rK, rO, rM, rF, fun j hj => absurd hj (Nat.not_lt_zero _), ⟨fun k hk => ?_, ⟨by omega, by omega, by omega, by omega, by omega⟩, ⟨d1, d2, d3, d4⟩, ⟨d5, d6, d7, d8, d9, d10⟩⟩, by omega, h.below⟩
  · simp [World.frozen?, hS]
  · simp [World.frozen?, hS]
  · rcases hk with h | h | h | h | h | h <;> omega
section
variable {w1 wq w' : World} {L : List Tm} {n sb nb kb ob mb fb i : Nat} {uv : Value} {cs : List Value} {ms fs : List Int} {vs : Nat → Value}
/-- What is not one of the six blocks, and was not there, may change. -/
theorem Bd.step (T : Bd w1 L n sb nb kb ob mb fb uv cs ms fs vs i wq) (hB : Below wq.heap.size wq w') : Bd w1 L n sb nb kb ob mb fb uv cs ms fs vs i w' := by
  have hK : Keeps (fun _ => False) wq w' := Keeps.of_below hB
  have hs : ∀ k, (k = sb ∨ k = nb ∨ k = kb ∨ k = ob ∨ k = mb ∨ k = fb) → k < wq.heap.size := fun k hk => Nat.lt_of_lt_of_le (T.six.lo k hk).2 T.room
  have hsb := hs sb (.inl rfl)
  refine ⟨(hB.cell (p := ⟨sb, 0, none⟩) hsb).trans T.s0, (hB.cell (p := ⟨sb, 1, none⟩) hsb).trans T.s1, (hB.cell (p := ⟨sb, 2, none⟩) hsb).trans T.s2, (hB.cell (p := ⟨sb, 3, none⟩) hsb).trans T.s3, (hB.cell (p := ⟨sb, 4, none⟩) hsb).trans T.s4, (hB.cell (p := ⟨sb, 5, none⟩) hsb).trans T.s5, (hB.cell (p := ⟨sb, 6, none⟩) hsb).trans T.s6, (hB.frozen (p := ⟨sb, 5, none⟩) hsb).trans T.z5, (hB.frozen (p := ⟨sb, 6, none⟩) hsb).trans T.z6, row_keeps T.nd hK (fun _ _ h => h), row_keeps T.kn hK (fun _ _ h => h), row_keeps T.op hK (fun _ _ h => h), row_keeps T.ms hK (fun _ _ h => h), row_keeps T.fs hK (fun _ _ h => h), fun j hj t ht => ?_, T.six, Nat.le_trans T.room hB.size, T.below.trans (hB.mono T.below.size)⟩
  obtain ⟨c0, c1, c2, rd, hh, cap⟩ := T.done j hj t ht
  exact ⟨c0, c1, c2, rdw_kept rd hK (fun _ _ _ h => h.2), hh, cap⟩
theorem own_ne {b c n m : Nat} (h : b ≠ c) : ∀ k, (Value.slice (some ⟨b, 0, none⟩) n m).ownBlock = some k → ¬ k = c := fun k hk he => by
  cases hk
  exact h he
/-- A number of the row 'first' is written. -/
theorem Bd.setFs (T : Bd w1 L n sb nb kb ob mb fb uv cs ms fs vs i wq) (j : Nat) (x : Int) : Bd w1 L n sb nb kb ob mb fb uv cs ms (fs.set j x) vs i (wq.setCell ⟨fb, j, none⟩ (.int .i64 x)) := by
  obtain ⟨hr, hg⟩ := World.ownsRow.stored T.fs j (.int .i64 x)
  rw [iset] at hr
  have hK : Keeps (fun k => k = fb) wq (wq.setCell ⟨fb, j, none⟩ (.int .i64 x)) := Keeps.of_grown hg (fun k hk => by cases hk; rfl)
  have hsb := Nat.lt_of_lt_of_le (T.six.lo sb (.inl rfl)).2 T.room
  have hns : ¬ sb = fb := T.six.d1.2.2.2.2
  refine ⟨(hK.cell (p := ⟨sb, 0, none⟩) hsb hns).trans T.s0, (hK.cell (p := ⟨sb, 1, none⟩) hsb hns).trans T.s1, (hK.cell (p := ⟨sb, 2, none⟩) hsb hns).trans T.s2, (hK.cell (p := ⟨sb, 3, none⟩) hsb hns).trans T.s3, (hK.cell (p := ⟨sb, 4, none⟩) hsb hns).trans T.s4, (hK.cell (p := ⟨sb, 5, none⟩) hsb hns).trans T.s5, (hK.cell (p := ⟨sb, 6, none⟩) hsb hns).trans T.s6, (hK.frozen (p := ⟨sb, 5, none⟩) hsb hns).trans T.z5, (hK.frozen (p := ⟨sb, 6, none⟩) hsb hns).trans T.z6, row_keeps T.nd hK (own_ne T.six.d2.2.2.2), row_keeps T.kn hK (own_ne T.six.d3.2.2.1), row_keeps T.op hK (own_ne T.six.d3.2.2.2.2.1), row_keeps T.ms hK (own_ne T.six.d3.2.2.2.2.2), hr, fun q hq t ht => ?_, T.six, Nat.le_trans T.room hK.size, T.below.trans (hK.below T.below.size (fun k hk => by subst hk; exact (T.six.lo k (by simp)).1))⟩
  obtain ⟨c0, c1, c2, rd, hh, cap⟩ := T.done q hq t ht
  refine ⟨c0, c1, c2, rdw_kept rd hK (fun _ k hk h => ?_), hh, cap⟩
  have h1 := hh k hk
  have h2 := (T.six.lo fb (by simp)).2
  have h3 : k = fb := h.2
  omega
/-- A node is copied, and how much it lacks. -/
theorem Bd.copy (T : Bd w1 L n sb nb kb ob mb fb uv cs ms fs vs i wq) {t : Tm} (ht : L[i]? = some t) (hi : i < n) {v : Value} (hv : RdW wq v t.2.2) (hhi : ∀ k, v.ownBlock = some k → w1.heap.size + 6 ≤ k) (hcap : ∀ p n c, v = .slice p n c → n ≤ c) (x : Int) :
    Bd w1 L n sb nb kb ob mb fb uv (((cs.set (i * 3) (.int .i64 t.1)).set (i * 3 + 1) (.int .i64 t.2.1)).set (i * 3 + 2) v) (ms.set i x) fs (fun j => if j = i then v else vs j) (i + 1) ((((wq.setCell ⟨nb, i * 3, none⟩ (.int .i64 t.1)).setCell ⟨nb, i * 3 + 1, none⟩ (.int .i64 t.2.1)).setCell ⟨nb, i * 3 + 2, none⟩ v).setCell ⟨mb, i, none⟩ (.int .i64 x)) := by
  obtain ⟨r1, g1⟩ := World.ownsRow.stored T.nd (i * 3) (.int .i64 t.1)
  obtain ⟨r2, g2⟩ := World.ownsRow.stored r1 (i * 3 + 1) (.int .i64 t.2.1)
  obtain ⟨r3, g3⟩ := World.ownsRow.stored r2 (i * 3 + 2) v
  have K1 : Keeps (fun k => k = nb) wq _ := Keeps.of_grown g1 (fun k hk => by cases hk; rfl)
  have K2 : Keeps (fun k => k = nb) wq _ := K1.trans (Keeps.of_grown g2 (F := fun k => k = nb) (fun k hk => by cases hk; rfl)) (fun _ _ h => h)
  have K3 : Keeps (fun k => k = nb) wq _ := K2.trans (Keeps.of_grown g3 (F := fun k => k = nb) (fun k hk => by cases hk; rfl)) (fun _ _ h => h)
  have m3 := row_keeps T.ms K3 (own_ne (Ne.symm T.six.d2.2.2.1))
  obtain ⟨r4, g4⟩ := World.ownsRow.stored m3 i (.int .i64 x)
  rw [iset] at r4
  have K4 : Keeps (fun k => k = mb) _ _ := Keeps.of_grown g4 (fun k hk => by cases hk; rfl)
  have hK : Keeps (fun k => k = nb ∨ k = mb) wq ((((wq.setCell ⟨nb, i * 3, none⟩ (.int .i64 t.1)).setCell ⟨nb, i * 3 + 1, none⟩ (.int .i64 t.2.1)).setCell ⟨nb, i * 3 + 2, none⟩ v).setCell ⟨mb, i, none⟩ (.int .i64 x)) := (K3.mono (fun _ _ h => .inl h)).trans (K4.mono (fun _ _ h => .inr h)) (fun _ _ h => h)
  have hsb := Nat.lt_of_lt_of_le (T.six.lo sb (.inl rfl)).2 T.room
  have hns : ¬ (sb = nb ∨ sb = mb) := fun h => h.elim T.six.d1.1 T.six.d1.2.2.2.1
  have far : ∀ {b c m : Nat}, b ≠ nb → b ≠ mb → ∀ k, (Value.slice (some ⟨b, 0, none⟩) c m).ownBlock = some k → ¬ (k = nb ∨ k = mb) := fun h1 h2 k hk he => by
    cases hk
    exact he.elim h1 h2
  have hlen : cs.length = n * 3 := T.nd.1
  refine ⟨(hK.cell (p := ⟨sb, 0, none⟩) hsb hns).trans T.s0, (hK.cell (p := ⟨sb, 1, none⟩) hsb hns).trans T.s1, (hK.cell (p := ⟨sb, 2, none⟩) hsb hns).trans T.s2, (hK.cell (p := ⟨sb, 3, none⟩) hsb hns).trans T.s3, (hK.cell (p := ⟨sb, 4, none⟩) hsb hns).trans T.s4, (hK.cell (p := ⟨sb, 5, none⟩) hsb hns).trans T.s5, (hK.cell (p := ⟨sb, 6, none⟩) hsb hns).trans T.s6, (hK.frozen (p := ⟨sb, 5, none⟩) hsb hns).trans T.z5, (hK.frozen (p := ⟨sb, 6, none⟩) hsb hns).trans T.z6, row_keeps r3 K4 (own_ne T.six.d2.2.2.1), row_keeps T.kn hK (far (Ne.symm T.six.d2.1) T.six.d3.2.1), row_keeps T.op hK (far (Ne.symm T.six.d2.2.1) T.six.d3.2.2.2.1), r4, row_keeps T.fs hK (far (Ne.symm T.six.d2.2.2.2) (Ne.symm T.six.d3.2.2.2.2.2)), fun q hq u hu => ?_, T.six, Nat.le_trans T.room hK.size, T.below.trans (hK.below T.below.size (fun k hk => ?_))⟩
  · have hrd : ∀ {u : Value} {xs : List Int}, RdW wq u xs → (∀ k, u.ownBlock = some k → w1.heap.size + 6 ≤ k) → RdW ((((wq.setCell ⟨nb, i * 3, none⟩ (.int .i64 t.1)).setCell ⟨nb, i * 3 + 1, none⟩ (.int .i64 t.2.1)).setCell ⟨nb, i * 3 + 2, none⟩ v).setCell ⟨mb, i, none⟩ (.int .i64 x)) u xs := fun h1 h2 => rdw_kept h1 hK (fun _ k hk h => by
      have h3 := h2 k hk
      have h4 := (T.six.lo nb (by simp)).2
      have h5 := (T.six.lo mb (by simp)).2
      rcases h.2 with h6 | h6 <;> omega)
    rcases Nat.lt_or_ge q i with h1 | h1
    · obtain ⟨c0, c1, c2, rd, hh, cap⟩ := T.done q h1 u hu
      have hne : ¬ q = i := by omega
      simp only [if_neg hne]
      refine ⟨?_, ?_, ?_, hrd rd hh, hh, cap⟩
      · rw [List.getElem?_set_ne (by omega), List.getElem?_set_ne (by omega), List.getElem?_set_ne (by omega)]
        exact c0
      · rw [List.getElem?_set_ne (by omega), List.getElem?_set_ne (by omega), List.getElem?_set_ne (by omega)]
        exact c1
      · rw [List.getElem?_set_ne (by omega), List.getElem?_set_ne (by omega), List.getElem?_set_ne (by omega)]
        exact c2
    · obtain rfl : q = i := by omega
      rw [ht] at hu
      cases hu
      simp only [if_pos rfl]
      refine ⟨?_, ?_, ?_, hrd hv hhi, hhi, hcap⟩
      · rw [List.getElem?_set_ne (by omega), List.getElem?_set_ne (by omega), List.getElem?_set_self (by omega)]
      · rw [List.getElem?_set_ne (by omega), List.getElem?_set_self (by simp; omega)]
      · rw [List.getElem?_set_self (by simp; omega)]
        simp
  · rcases hk with rfl | rfl
    · exact (T.six.lo k (by simp)).1
    · exact (T.six.lo k (by simp)).1
end
end Go.Proofs.Ytikbeagcflofhaa
namespace Go.Proofs.Ytikbeagcflofhaa
open Go.RowKit Go.Maps
set_option maxRecDepth 100000
/-- What is lacked by the first q. -/
def msF (L : List Tm) (n q : Nat) : List Int := (List.range n).map (fun j => if j < q then ((ar L j).length : Int) else 0)
/-- How often each is an argument, one place behind. -/
def fsE (n : Nat) (E : List (Nat × Nat)) : List Int := (List.range (n + 1)).map (fun x => if x = 0 then 0 else ((usOf E (x - 1)).length : Int))
theorem own_cap {w : World} {base e size n : Nat} {v : Value} {xs : List Value} (h : w.ownsRow base e size v n xs) : ∀ p m c, v = .slice p m c → m ≤ c := by
  intro p m c hv
  rcases h.2 with ⟨h1, _⟩ | ⟨g, cap, cur, h1, _, _, hc, _⟩
  · rw [h1] at hv
    cases hv
    exact Nat.le_refl _
  · rw [h1] at hv
    cases hv
    exact hc
theorem usOf_le (E : List (Nat × Nat)) (x : Nat) : (usOf E x).length ≤ E.length := by
  unfold usOf
  rw [List.length_map]
  exact List.length_filter_le _ _
theorem ar_le {L : List Tm} (hW : Wf L) {i : Nat} (hi : i < L.length) : (ar L i).length ≤ 400 := by
  have h1 := (shape_k (hW.good i hi).1).2.2.2
  unfold ar
  rw [tm_at (List.getElem?_eq_getElem hi), List.length_map]
  exact h1
theorem edg_le {L : List Tm} (hW : Wf L) : ∀ i, i ≤ L.length → (edg L i).length ≤ 400 * i := by
  intro i
  induction i with
  | zero => intro _; simp [edg]
  | succ i ih =>
    intro hi
    rw [edg_succ, List.length_append, List.length_map]
    have := ih (by omega)
    have := ar_le hW (show i < L.length by omega)
    omega
theorem msF_zero (L : List Tm) (n : Nat) : msF L n 0 = List.replicate n 0 := by
  unfold msF
  refine List.ext_getElem (by simp) fun i h1 h2 => ?_
  simp
theorem msF_succ (L : List Tm) {n q : Nat} (_ : q < n) : (msF L n q).set q ((ar L q).length : Int) = msF L n (q + 1) := by
  unfold msF
  refine List.ext_getElem (by simp) fun i h1 h2 => ?_
  rw [List.getElem_set]
  by_cases e : q = i
  · subst e
    simp
  · rw [if_neg e]
    simp only [List.getElem_map, List.getElem_range]
    by_cases h3 : i < q
    · rw [if_pos h3, if_pos (by omega)]
    · rw [if_neg h3, if_neg (by omega)]
theorem fsE_nil (n : Nat) : fsE n [] = List.replicate (n + 1) 0 := by
  unfold fsE
  refine List.ext_getElem (by simp) fun i h1 h2 => ?_
  simp [usOf]
/-- The sums, as far as they have been made. -/
def fsP (L : List Tm) (n q : Nat) : List Int := (List.range (n + 1)).map (fun x => if x ≤ q then (off L x : Int) else ((usr L (x - 1)).length : Int))
theorem fsP_zero {L : List Tm} {n : Nat} (hn : L.length = n) : fsE n (edg L n) = fsP L n 0 := by
  unfold fsE fsP
  refine List.ext_getElem (by simp) fun i h1 h2 => ?_
  simp only [List.getElem_map, List.getElem_range]
  by_cases h0 : i = 0
  · subst h0
    rfl
  · rw [if_neg h0, if_neg (by omega)]
    unfold usr
    rw [hn]
theorem fsP_len (L : List Tm) (n q : Nat) : (fsP L n q).length = n + 1 := by simp [fsP]
theorem fsP_at {L : List Tm} {n q x : Nat} (hx : x ≤ n) : (fsP L n q).getD x 0 = if x ≤ q then (off L x : Int) else ((usr L (x - 1)).length : Int) := by
  unfold fsP
  rw [List.getD_eq_getElem?_getD, List.getElem?_map, List.getElem?_range (by omega)]
  simp
theorem fsP_succ {L : List Tm} {n q : Nat} (_ : q < n) : (fsP L n q).set (q + 1) (((usr L q).length : Int) + (off L q : Int)) = fsP L n (q + 1) := by
  unfold fsP
  refine List.ext_getElem (by simp) fun i h1 h2 => ?_
  rw [List.getElem_set]
  simp only [List.getElem_map, List.getElem_range]
  by_cases e : q + 1 = i
  · subst e
    rw [if_pos rfl, if_pos (Nat.le_refl _)]
    show _ = ((off L q + (usr L q).length : Nat) : Int)
    omega
  · rw [if_neg e]
    by_cases h3 : i ≤ q
    · rw [if_pos h3, if_pos (by omega)]
    · rw [if_neg h3, if_neg (by omega)]
theorem filter_lt (x : Nat) : ∀ E : List (Nat × Nat), (E.filter (fun e => decide (e.2 < x + 1))).length = (E.filter (fun e => decide (e.2 < x))).length + (E.filter (fun e => decide (e.2 = x))).length := by
  intro E
  induction E with
  | nil => rfl
  | cons a E ih =>
    by_cases h1 : a.2 < x
    · simp [h1, show a.2 < x + 1 by omega, show ¬ a.2 = x by omega] at ih ⊢
      omega
    · by_cases h2 : a.2 = x
      · simp [h2] at ih ⊢
        omega
      · simp [h1, h2, show ¬ a.2 < x + 1 by omega] at ih ⊢
        omega
theorem off_count (L : List Tm) : ∀ x, off L x = ((edg L L.length).filter (fun e => decide (e.2 < x))).length := by
  intro x
  induction x with
  | zero =>
    have h0 : (edg L L.length).filter (fun e => decide (e.2 < 0)) = [] := List.filter_eq_nil_iff.2 (fun a _ => by simp)
    rw [h0]
    rfl
  | succ x ih =>
    rw [filter_lt, ← ih]
    show off L x + (usr L x).length = _
    unfold usr usOf
    rw [List.length_map]
theorem off_le {L : List Tm} (hW : Wf L) (x : Nat) : off L x ≤ 400 * L.length := by
  rw [off_count]
  exact Nat.le_trans (List.length_filter_le _ _) (edg_le hW L.length (Nat.le_refl _))
theorem edg_take {L : List Tm} {q j a : Nat} (h : (ar L q)[j]? = some a) : edg L q ++ ((ar L q).take j).map (fun x => (q, x)) ++ [(q, a)] = edg L q ++ ((ar L q).take (j + 1)).map (fun x => (q, x)) := by
  rw [List.take_add_one, h, List.map_append, List.append_assoc]
  rfl
theorem fsE_len (n : Nat) (E : List (Nat × Nat)) : (fsE n E).length = n + 1 := by simp [fsE]
theorem fsE_at {n : Nat} {E : List (Nat × Nat)} {x : Nat} (hx : x < n) : (fsE n E).getD (x + 1) 0 = (usOf E x).length := by
  unfold fsE
  rw [List.getD_eq_getElem?_getD, List.getElem?_map, List.getElem?_range (by omega)]
  simp
theorem fsE_more {n : Nat} {E : List (Nat × Nat)} {u x : Nat} (_ : x < n) : (fsE n E).set (x + 1) (((usOf E x).length : Int) + 1) = fsE n (E ++ [(u, x)]) := by
  unfold fsE
  refine List.ext_getElem (by simp) fun i h1 h2 => ?_
  rw [List.getElem_set]
  simp only [List.getElem_map, List.getElem_range]
  by_cases e : x + 1 = i
  · subst e
    rw [if_pos rfl, if_neg (by omega), usOf_append, usOf_one, Nat.add_sub_cancel, if_pos rfl, List.length_append]
    simp
  · rw [if_neg e]
    by_cases h0 : i = 0
    · rw [if_pos h0, if_pos h0]
    · rw [if_neg h0, if_neg h0, usOf_append, usOf_one, if_neg (by omega), List.append_nil]
end Go.Proofs.Ytikbeagcflofhaa
