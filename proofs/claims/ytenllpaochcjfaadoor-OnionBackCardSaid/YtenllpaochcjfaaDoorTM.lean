/-
  TERMS: contracts of term.right, term.has, term.name, walked with the kit's tactics (the beginning of an arena's contracts). Own work.
-/
import Derived.Test.YtenllpaochcjfaaDoorProg
import Derived.WalkKit
import Derived.LaidEql
import Derived.RowKitTokens
import Derived.Laws.BytesString
import Derived.Laws.Cells
import Derived.Lib.LazyBuf
namespace Go.Proofs.YtenllpaochcjfaaDoor
open Go.RowKit
set_option maxRecDepth 100000

theorem news1 (w : World) (v : Value) (t : Nat) : ∀ j u, [v][j]? = some u → (w.alloc (.cells #[v] t)).cell? ((⟨w.heap.size, 0, none⟩ : Addr).add j) = some u := by
  intro j u hj
  match j, hj with
  | 0, hj =>
    simp at hj
    subst hj
    simp [Addr.add]
  | j + 1, hj => simp at hj
def byN (n : Int) (i : Nat) : Value := .int .u8 (n / 2 ^ (8 * i) % 256)
def nmH (k n : Int) : List Value := .int .u8 (k % 256) :: (List.range 8).map (byN n)
def nmA (x : Int) : List Value := [.int .u8 (x % 256), .int .u8 (x / 256 % 256), .int .u8 (x / 65536 % 256)]
theorem nmH_len (k n : Int) : (nmH k n).length = 9 := by simp [nmH]
theorem nmA_next (xs : List Int) (j : Nat) (h : j < xs.length) : (xs.take (j + 1)).flatMap nmA = (xs.take j).flatMap nmA ++ nmA xs[j] := by
  rw [List.take_add_one, List.getElem?_eq_getElem h, List.flatMap_append]
  simp
theorem news3 (w : World) (x y z : Value) (t : Nat) : ∀ j u, [x, y, z][j]? = some u → (w.alloc (.cells #[x, y, z] t)).cell? ((⟨w.heap.size, 0, none⟩ : Addr).add j) = some u := by
  intro j u hj
  match j, hj with
  | 0, hj => simp at hj; subst hj; simp [Addr.add]
  | 1, hj => simp at hj; subst hj; simp [Addr.add]
  | 2, hj => simp at hj; subst hj; simp [Addr.add]
  | j + 3, hj => simp at hj
def nameL (k n : Int) (xs : List Int) : List Int := (k % 256 :: (List.range 8).map fun i => n / 2 ^ (8 * i) % 256) ++ xs.flatMap fun x => [x % 256, x / 256 % 256, x / 65536 % 256]
theorem nameL_cells (k n : Int) (xs : List Int) : nmH k n ++ xs.flatMap nmA = (nameL k n xs).map (Value.int .u8) := by
  unfold nmH nameL
  rw [List.map_append, List.map_cons, List.map_map, List.map_flatMap]
  rfl
theorem nameL_len (k n : Int) (xs : List Int) : (nameL k n xs).length = 9 + 3 * xs.length := by
  unfold nameL
  induction xs with
  | nil => simp
  | cons x r ih =>
    simp only [List.length_append, List.length_cons, List.length_map, List.length_range, List.flatMap_cons, List.length_nil] at ih ⊢
    omega
def bstr (ns : List Int) : ByteArray := ns.foldl (fun r n => r.push (UInt8.ofNat n.toNat)) ByteArray.empty
theorem row_string {w : World} {base g m cap : Nat} {ns : List Int} (h : w.ownsRow base 5 1 (.slice (some ⟨g, 0, none⟩) m cap) m (ns.map (Value.int .u8))) (hn : ns.length = m) : (convert 110 9 (.slice (some ⟨g, 0, none⟩) m cap)).run Tryd.prog w = .ok (.string (bstr ns)) w := by
  rw [run_convert_bytes_string w 110 9 5 _ _ _ Tryd.underlying110 Tryd.underlying5 Tryd.underlying9]
  refine run_bytesToString w _ _ _ ns ?_
  have h2 := run_loadCells_list (P := Tryd.prog) (w := w) ⟨g, 0, none⟩ (ns.map (Value.int .u8)) (h.cells rfl)
  rwa [List.length_map, hn] at h2
set_option maxHeartbeats 4000000 in
theorem name_ok (k n : Int) (xs : List Int) (b o l c : Nat) (w : World) (hl : xs.length = l) (h4 : l ≤ 1000) (hb : b < w.heap.size) (hc : ∀ t, t < l → w.cell? ⟨b, o + t, none⟩ = some (.int .i64 (xs.getD t 0))) : Calls Tryd.prog 44 #[.int .i64 k, .int .i64 n, .slice (some ⟨b, o, none⟩) l c] w fun e w' => e = .returned (.string (bstr (nameL k n xs))) ∧ Below w.heap.size w w' := by
  obtain ⟨i0, hi, hz0, hz1, hz2⟩ := info_parts (P := Tryd.prog) (e := 5) (z := .int .u8 0) (size := 1) (bytes := 1) (by kernel_rfl)
  have hw1 : wrap64 (3 * (l : Int)) = 3 * (l : Int) := by unfold wrap64; omega
  have hw2 : wrap64 (9 + 3 * (l : Int)) = ((9 + 3 * l : Nat) : Int) := by unfold wrap64; omega
  go_enter Tryd.func44, Tryd.ntmps44
  go_wp2_with (first
    | (at_make; refine wpList_make_own _ rfl _ _ 110 rfl w.heap.size 5 i0 (.int .u8 0) 1 Tryd.underlying110 hi hz0 hz1 _ _ _ (9 + 3 * l) rfl rfl (by omega) (by rw [hz2]; omega) (by unfold maxLen; omega) (Nat.le_refl _) ?_; intro w0 hown0 hgrow0)
    | (at_builtin; refine wpList_append_fits _ rfl (.tmp 16) (.tmp 19) 110 rfl w.heap.size 5 i0 1 Tryd.underlying110 hi hz1 w.heap.size 0 (9 + 3 * l) [] rfl (hown0.alloc _) ⟨w0.heap.size, 0, none⟩ 1 1 [.int .u8 (k % 256)] rfl rfl (news1 _ _ _) (fun u hu => by simp at hu; subst hu; rfl) (by omega) ?_; intro w1 hown1 hgrow1))
  go_loopw [7, 21] (fun b i wr => ∃ j : Nat, j ≤ 8 ∧ i = .int .i64 j ∧ b = .slice (some ⟨w.heap.size, 0, none⟩) (1 + j) (9 + 3 * l) ∧ wr.ownsRow w.heap.size 5 1 (.slice (some ⟨w.heap.size, 0, none⟩) (1 + j) (9 + 3 * l)) (1 + j) (.int .u8 (k % 256) :: (List.range j).map (byN n)) ∧ Below w.heap.size w wr)
    (fun _ i _ => 8 - (intOf i).toNat)
  case atStart => exact ⟨0, by omega, rfl, rfl, hown1, ((((Below.refl _ _).grown hgrow0 (Nat.le_refl _) (fun _ h => by cases h)).alloc hgrow0.size _).grown hgrow1 (by have := hgrow0.size; simp; omega) (fun _ hk => Nat.le_of_eq (Option.some.inj hk)))⟩
  case round =>
    obtain ⟨j, hj, rfl, rfl, hown, hB⟩ := hrel
    go_wp2_with (at_builtin; refine wpList_append_fits _ rfl (.tmp 24) (.tmp 30) 110 rfl w.heap.size 5 i0 1 Tryd.underlying110 hi hz1 w.heap.size (1 + j) (9 + 3 * l) _ rfl (hown.alloc _) ⟨wr.heap.size, 0, none⟩ 1 1 [byN n j] rfl rfl (news1 _ _ _) (fun u hu => by simp at hu; subst hu; rfl) (by omega) ?_; intro w2 hown2 hgrow2)
    · refine ⟨⟨j + 1, by omega, by simp, by simp [Nat.add_assoc], ?_, (hB.alloc hB.size _).grown hgrow2 (by have := hB.size; simp; omega) (fun _ hk => Nat.le_of_eq (Option.some.inj hk))⟩, by simp [intOf]; omega⟩
      rw [List.range_succ, List.map_append, ← List.cons_append]
      simpa [Nat.add_assoc] using hown2
    · have e8 : j = 8 := by omega
      subst e8
      go_loopw [7, 35] (fun b' i wr => ∃ j : Nat, j ≤ l ∧ i = .int .i64 j ∧ b' = .slice (some ⟨w.heap.size, 0, none⟩) (9 + 3 * j) (9 + 3 * l) ∧ wr.ownsRow w.heap.size 5 1 (.slice (some ⟨w.heap.size, 0, none⟩) (9 + 3 * j) (9 + 3 * l)) (9 + 3 * j) (nmH k n ++ (xs.take j).flatMap nmA) ∧ Below w.heap.size w wr)
        (fun _ i _ => l - (intOf i).toNat)
      case atStart => exact ⟨0, by omega, rfl, rfl, by simpa [nmH] using hown, hB⟩
      case round =>
        obtain ⟨j, hj, rfl, rfl, hown3, hB3⟩ := hrel
        have hcj : j < l → wr.cell? ⟨b, o + j, none⟩ = some (.int .i64 (xs.getD j 0)) := fun h => (hB3.cell (by exact hb)).trans (hc j h)
        go_wp2_with (at_builtin; refine wpList_append_fits _ rfl (.tmp 39) (.tmp 48) 110 rfl w.heap.size 5 i0 1 Tryd.underlying110 hi hz1 w.heap.size (9 + 3 * j) (9 + 3 * l) _ rfl (hown3.alloc _) ⟨wr.heap.size, 0, none⟩ 3 3 _ rfl (by exact rfl) (news3 _ _ _ _ _) (fun u hu => by simp at hu; rcases hu with rfl | rfl | rfl <;> rfl) (by omega) ?_; intro w2 hown2 hgrow2)
        · refine ⟨⟨_, _, _, _, _, _, _, _, _, _, _, _, _, _, _, _, _, _, ⟨j + 1, by omega, rfl, rfl, ?_, (hB3.alloc hB3.size _).grown hgrow2 (by have := hB3.size; simp; omega) (fun _ hk => Nat.le_of_eq (Option.some.inj hk))⟩, rfl⟩, ?_⟩
          · rw [show 9 + 3 * (j + 1) = 9 + 3 * j + 3 by omega, nmA_next xs j (by omega), ← List.append_assoc]
            exact hown2
          · show l - (intOf (.int .i64 ((j : Int) + 1))).toNat < l - (intOf (.int .i64 (j : Int))).toNat
            simp [intOf]
            omega
        · have e9 : j = l := by omega
          subst e9
          rw [List.take_of_length_le (by omega), nameL_cells] at hown3
          have hs := row_string hown3 (by rw [nameL_len, hl])
          rw [hs]
          go_wp2
          go_ret
          exact ⟨rfl, hB3⟩

/-! term.right: what a term may be -/
def leastOf (k : Int) : Nat := if k = 4 ∨ k = 5 ∨ k = 6 ∨ k = 8 then 1 else if k = 7 then 2 else 0
def mostOf (k : Int) : Nat := if k = 1 ∨ k = 2 then 0 else if k = 4 ∨ k = 5 then 1 else 400
def rightOf (k n : Int) (l : Nat) : Int :=
  if k < 1 ∨ 9 < k then 6 else if n < 0 ∨ (0 < n ∧ k ≠ 1 ∧ k ≠ 2 ∧ k ≠ 4) then 1 else if l < leastOf k ∨ mostOf k < l then 2 else 0
set_option maxHeartbeats 4000000 in
theorem right_ok (k n : Int) (p : Option Addr) (l c : Nat) (w : World) : Calls Tryd.prog 42 #[.int .i64 k, .int .i64 n, .slice p l c] w fun e w' => e = .returned (.int .i64 (rightOf k n l)) ∧ w' = w := by
  go_enter Tryd.func42, Tryd.ntmps42
  go_wp2
  all_goals go_ret
  all_goals refine ⟨congrArg (fun x => Ending.returned (Value.int .i64 x)) ?_, rfl⟩
  all_goals simp only [beq_iff_eq, beq_eq_false_iff_ne, ne_eq, Bool.not_eq_true, bne_iff_ne] at *
  all_goals unfold rightOf leastOf mostOf
  all_goals (repeat' split) <;> omega

set_option maxHeartbeats 1000000 in
theorem has_ok (a : Addr) (i : Int) (p : Option Addr) (n c : Nat) (w : World) (h : w.cell? a = some (.slice p n c)) : Calls Tryd.prog 43 #[.pointer (some a), .int .i64 i] w fun e w' => e = .returned (.bool (decide (0 ≤ i ∧ i < n))) ∧ w' = w := by
  obtain ⟨b, o, q⟩ := a
  go_enter Tryd.func43, Tryd.ntmps43
  go_wp2
  all_goals go_ret
  all_goals refine ⟨congrArg (fun x => Ending.returned (Value.bool x)) ?_, rfl⟩
  · rw [decide_eq_decide]
    omega
  · have : decide (0 ≤ i) = false := decide_eq_false (by omega)
    rw [this]
    rfl

/-! slices.Clone of numbers -/
/-- A row of numbers, as cells. -/
theorem ints_news {w : World} {b o l : Nat} {xs : List Int} (hl : xs.length = l) (hc : ∀ t, t < l → w.cell? ⟨b, o + t, none⟩ = some (.int .i64 (xs.getD t 0))) : ∀ j u, (xs.map (Value.int .i64))[j]? = some u → w.cell? ((⟨b, o, none⟩ : Addr).add j) = some u := by
  intro j u hj
  rw [List.getElem?_map, Option.map_eq_some_iff] at hj
  obtain ⟨z, hz, rfl⟩ := hj
  have hlt : j < l := by
    have := (List.getElem?_eq_some_iff.1 hz).1
    omega
  have h := hc j hlt
  rw [List.getD_eq_getElem?_getD, hz] at h
  have hadd : (⟨b, o, none⟩ : Addr).add j = ⟨b, o + j, none⟩ := by unfold Addr.add; split <;> simp_all
  rw [hadd]
  simpa using h
set_option maxHeartbeats 1000000 in
theorem clone_ok (b o l c : Nat) (xs : List Int) (w : World) (hl : xs.length = l) (h4 : l ≤ 1000) (hb : b < w.heap.size) (hc : ∀ t, t < l → w.cell? ⟨b, o + t, none⟩ = some (.int .i64 (xs.getD t 0))) : Calls Tryd.prog 45 #[.slice (some ⟨b, o, none⟩) l c] w fun e w' => ∃ v, e = .returned v ∧ w'.ownsRow w.heap.size 3 1 v l (xs.map (Value.int .i64)) ∧ Below w.heap.size w w' := by
  obtain ⟨i0, hi, hz0, hz1, hz2⟩ := info_parts (P := Tryd.prog) (e := 3) (z := .int .i64 0) (size := 1) (bytes := 8) (by kernel_rfl)
  have heq := fun w => run_eql_slice_nil (P := Tryd.prog) w 23 3 (some ⟨b, o, none⟩) l c Tryd.underlying23
  have hc2 : ∀ t, t < l → (w.alloc (.cells #[] 3)).cell? ⟨b, o + t, none⟩ = some (.int .i64 (xs.getD t 0)) := fun t ht => by rw [World.cell?_alloc_lt _ _ ⟨b, o + t, none⟩ hb]; exact hc t ht
  go_enter Tryd.func45, Tryd.ntmps45
  go_wp2_with (at_builtin; refine wpList_append_own _ rfl (.tmp 5) (.tmp 6) 23 rfl w.heap.size 3 i0 (.int .i64 0) 1 8 Tryd.underlying23 hi hz0 hz1 hz2 rfl (by decide) (.slice (some ⟨w.heap.size, 0, none⟩) 0 0) 0 [] rfl (World.ownsRow_made w #[] 0 (Nat.le_refl _) (by decide) rfl) ⟨b, o, none⟩ l c (xs.map (Value.int .i64)) rfl (by simp [hl]) (ints_news hl hc2) (ints_oneCell _ _) (by unfold maxLen; omega) (by omega) (by simp) ?_; intro v' w1 hown1 hgrow1 _)
  go_ret
  exact ⟨v', rfl, by simpa using hown1, ((Below.refl _ _).alloc (Nat.le_refl _) _).grown hgrow1 (by simp) (fun _ hk => by simp [Value.ownBlock] at hk; omega)⟩
end Go.Proofs.YtenllpaochcjfaaDoor
