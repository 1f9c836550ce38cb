/-
  STORE: sectors of noughts; what a crash and a sync leave alone; the page's Twin, SpoilBytes. Own work.
-/
import Derived.Test.YtafpfiadapabaaaDoorDKh
import Derived.Deep.Grids
namespace Go.Proofs.YtafpfiadapabaaaDoor
open Go.ChangeShapes Go.WideShapes Go.ChangeAt Go.RowKit Go.Maps Go.Deep
set_option maxRecDepth 100000
attribute [local go_sem ↓] Go.wp_at_zero Go.wp_at_succ
def pad (bs : List Int) : List Int := bs.take 64 ++ List.replicate (64 - bs.length) 0
theorem pad_len (bs : List Int) : (pad bs).length = 64 := by simp [pad]; omega
def z64 : Array Value := (List.replicate 64 (Value.int .u8 0)).toArray
theorem byte_make (w : World) : (Instr.makeSlice 31 (.int .i64 64) (.int .i64 64)).run Tryd.prog w = .ok (.slice (some ⟨w.heap.size, 0, none⟩) 64 64) (w.alloc (.cells z64 5)) := by
  obtain ⟨i0, hi, hz0, hz1, hz2⟩ := info_parts (P := Tryd.prog) (e := 5) (z := .int .u8 0) (size := 1) (bytes := 1) (by kernel_rfl)
  have h := make_row 64 Tryd.underlying31 hi hz0 hz1 hz2 (by omega) (by omega) w
  have e : madeCells (Value.int .u8 0).cells (64 * 1) = (List.replicate 64 (Value.int .u8 0)).toArray := by
    apply Array.ext'
    exact toList_madeCells_one _ _
  rw [e] at h
  exact h
theorem splice_pad (n : Nat) (xs : List Value) (z : Value) : splice (List.replicate n z) 0 (xs.take n) = xs.take n ++ List.replicate (n - xs.length) z := by
  simp [splice, List.drop_replicate]
  omega
theorem pad_cells (bs : List Int) : (pad bs).map (Value.int .u8) = (bs.map (Value.int .u8)).take 64 ++ List.replicate (64 - (bs.map (Value.int .u8)).length) (Value.int .u8 0) := by
  rw [pad, List.map_append, List.map_replicate, List.map_take, List.length_map]
theorem crs_far {ks : List Bool} {t : Int} {l : List Wri} {s : List Sec} {p : Nat} (h : ∀ x ∈ l, p ≠ x.1) : ∀ j, (crs ks t l s j)[p]? = s[p]?
  | 0 => rfl
  | j + 1 => by
    rw [crs]
    cases hl : l[j]? with
    | none => exact crs_far h j
    | some x =>
      have hx := h x (List.mem_of_getElem? hl)
      show (stepC ks t j x (crs ks t l s j))[p]? = _
      rw [stepC]
      split
      · split
        · rw [List.getElem?_set_ne (Ne.symm hx)]
          exact crs_far h j
        · exact crs_far h j
      · split
        · rw [List.getElem?_set_ne (Ne.symm hx)]
          exact crs_far h j
        · exact crs_far h j
theorem syn_len {l : List Wri} {nw s : List Sec} : ∀ j, (syn l nw s j).length = s.length
  | 0 => rfl
  | j + 1 => by
    rw [syn]
    cases hl : l[j]? with
    | none => exact syn_len j
    | some x =>
      simp only
      split
      · rw [List.length_set]
        exact syn_len j
      · exact syn_len j
theorem Dsk.dbl {w0 w : World} {db n : Nat} {d : Dk} {vs vn vw vk : Value} {R : List RowD} (T : Dsk w0 w db n d vs vn vw vk R) : w0.heap.size ≤ db := (row_base T.h rfl).1
theorem rdv_shape {w : World} {v : Value} {cs : List Value} (h : RdV w v cs) : ∃ p c, v = .slice p cs.length c := by
  obtain ⟨p, c, e, _⟩ := h
  exact ⟨p, c, e⟩
set_option maxHeartbeats 1000000 in
theorem twinB_ok {w : World} {v : Value} {cs : List Value} (h : RdV w v cs) (h4 : cs.length ≤ 100000) (h1 : ∀ u ∈ cs, u.oneCell' = true) : Calls Tryd.prog 13 #[v] w fun e w' => ∃ v, e = .returned v ∧ w'.ownsRow w.heap.size 5 1 v cs.length cs ∧ Below w.heap.size w w' := by
  obtain ⟨i0, hi, hz0, hz1, hz2⟩ := info_parts (P := Tryd.prog) (e := 5) (z := .int .u8 0) (size := 1) (bytes := 1) (by kernel_rfl)
  have h0 := h
  obtain ⟨p, c, rfl, hcs⟩ := h
  cases p with
  | none =>
    have : cs = [] := by
      rcases hcs with h | ⟨b, o, h, _⟩
      · exact h
      · cases h
    subst this
    clear h0 hcs
    go_enter Tryd.func13, Tryd.ntmps13
    go_wp2
    go_ret
    exact ⟨_, rfl, World.ownsRow_nil _ _ _ _, Below.refl _ _⟩
  | some a =>
    have HC := (show Hid _ from rdv_news h0)
    have H1 := (show Hid _ from h1)
    clear h0 hcs h1
    go_enter Tryd.func13, Tryd.ntmps13
    go_wp2_with (at_builtin; refine wpList_append_own _ rfl (.tmp 4) (.tmp 5) 31 rfl w.heap.size 5 i0 (.int .u8 0) 1 1 Tryd.underlying31 hi hz0 hz1 hz2 rfl (by decide) (.slice none 0 0) 0 [] rfl (World.ownsRow_nil _ _ _ _) a cs.length c cs rfl (by simp) HC.out H1.out (by unfold maxLen; omega) (by omega) (by simp) ?_; intro v' w1 hown1 hgrow1 _)
    go_ret
    exact ⟨v', rfl, by simpa using hown1, (Below.refl _ _).grown hgrow1 (Nat.le_refl _) (fun _ hk => by simp [Value.ownBlock] at hk)⟩

set_option maxHeartbeats 2000000 in
theorem spoil_ok {w : World} {v : Value} {n : Nat} {bs : List Int} (h : w.ownsRow 0 5 1 v n (bs.map (Value.int .u8))) (h4 : n ≤ 100000) : Calls Tryd.prog 16 #[v] w fun e w' => e = .returned (.tuple #[]) ∧ Keeps (fun k => v.ownBlock = some k) w w' := by
  obtain ⟨p, c, rfl⟩ := row_slice h
  by_cases h0 : n = 0
  · subst h0
    go_enter Tryd.func16, Tryd.ntmps16
    go_wp2
    go_loopw [2] (fun i wr => i = .int .i64 0 ∧ wr = w) (fun _ _ => 0)
    case atStart => exact ⟨rfl, rfl⟩
    case round =>
      obtain ⟨rfl, rfl⟩ := hrel
      go_wp2
      go_end0
      exact ⟨rfl, Keeps.refl _ _⟩
  · obtain ⟨g, rfl, _⟩ := row_open h (by omega)
    go_enter Tryd.func16, Tryd.ntmps16
    go_wp2
    go_loopw [2] (fun i wr => ∃ (j : Nat) (zs : List Int), j ≤ n ∧ i = .int .i64 j ∧ wr.ownsRow 0 5 1 (.slice (some ⟨g, 0, none⟩) n c) n (zs.map (Value.int .u8)) ∧ Keeps (fun k => k = g) w wr) (fun i _ => n - (intOf i).toNat)
    case atStart => exact ⟨0, bs, by omega, rfl, h, Keeps.refl _ _⟩
    case round =>
      obtain ⟨j, zs, hj, rfl, hown, hK⟩ := hrel
      by_cases hlt : j < n
      · have hjI : (j : Int) < n := by omega
        have hlen := hown.1
        rw [List.length_map] at hlen
        have hc := World.ownsRow.cellAt hown j (by omega)
        rw [List.getElem?_map, List.getElem?_eq_getElem (by omega), Option.map_some] at hc
        have hf := World.ownsRow.frozenAt hown j
        generalize zs[j] = z at hc
        go_wp2
        obtain ⟨hs1, hs2⟩ := World.ownsRow.stored hown j (.int .u8 (IntKind.u8.wrap (z + 101)))
        have e : (zs.map (Value.int .u8)).set j (.int .u8 (IntKind.u8.wrap (z + 101))) = (zs.set j (IntKind.u8.wrap (z + 101))).map (Value.int .u8) := by rw [List.map_set]
        rw [e] at hs1
        exact ⟨⟨j + 1, _, by omega, by simp, hs1, hK.trans (Keeps.of_grown (F := fun k => k = g) hs2 (fun k hk => by cases hk; rfl)) (fun _ _ h => h)⟩, by simp [intOf]; omega⟩
      · have hjI : ¬ (j : Int) < n := by omega
        go_wp2
        go_end0
        exact ⟨rfl, hK.mono (fun k _ hk => by subst hk; rfl)⟩
end Go.Proofs.YtafpfiadapabaaaDoor
