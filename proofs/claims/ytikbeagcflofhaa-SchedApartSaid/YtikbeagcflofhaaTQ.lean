/-
  TERMS: the first node of New's arena. Own work.
-/
import Derived.Test.YtikbeagcflofhaaTP
import Derived.Deep.AppendLies
import Derived.Deep.DrawnRows
import Derived.Deep.RegionHeld3
import Derived.RangeFuncBox
import Derived.StringKeys
namespace Go.Proofs.Ytikbeagcflofhaa
open Go.RowKit Go.Maps
set_option maxRecDepth 100000
section
variable {ab ao mb m : Nat} {nv : Value} {nodes : List Value} {k n : Int} {b o l c : Nat} {xs : List Int} {w : World} {np : Option Addr} {cp : Nat}
set_option maxHeartbeats 8000000 in
theorem make_first {H : Type} {kl : Lit} (h0 : rightOf k n 0 = 0) (c0 : w.cell? ⟨ab, ao, none⟩ = some (.slice none 0 0)) (c1 : w.cell? ⟨ab, ao + 1, none⟩ = some (.map none)) (f0 : w.frozen? ⟨ab, ao, none⟩ = false) (f1 : w.frozen? ⟨ab, ao + 1, none⟩ = false) (hab : ab < w.heap.size)
    (hkey : keyOf Try.prog 9 (.string (bstr (nameL k n []))) = some kl) :
    Calls Try.prog 14 #[.pointer (some ⟨ab, ao, none⟩), .int .i64 k, .int .i64 n, .slice none 0 0] w fun e w' => ∃ g cap mb, e = .returned (.tuple #[.int .i64 0, .int .i64 0]) ∧
      Arena w' ab ao (some ⟨g, 0, none⟩) 1 cap mb [.int .i64 k, .int .i64 n, .slice none 0 0] ((.map [] : DataW H).put kl (.lit (.int .i64 0))) := by
  have hz : (rightOf k n 0 != 0) = false := by simp [h0]
  go_enter Try.func14, Try.ntmps14
  go_wp2_with (go_at_call 55; refine (right_ok _ _ _ _ _ _).mono ?_; rintro ev w ⟨rfl, rfl⟩)
  go_loopw [26] (fun i wr => i = .int .i64 0 ∧ wr = w) (fun _ _ => 0)
  case atStart => exact ⟨rfl, rfl⟩
  case round =>
    obtain ⟨rfl, rfl⟩ := hrel
    have law9 : Keyed Try.prog 9 := string_keyed Try.underlying9
    have hmk : ∀ w, (Instr.makeMap 89 none).run Try.prog w = .ok (.map (some w.heap.size)) (w.alloc (.map #[] 0)) := fun w => run_makeMap 89 w
    have heqm : ∀ w, (binOp .eql 89 (.map none) (.map none)).run Try.prog w = .ok (.bool true) w := fun w => by kernel_rfl
    go_wp2_with (first
      | (go_at_call 57; refine (name_nil k n _).mono ?_; rintro ev w3 ⟨rfl, hB3⟩; have c0' := (hB3.cell (p := ⟨ab, ao, none⟩) hab).trans c0; have c1' := (hB3.cell (p := ⟨ab, ao + 1, none⟩) hab).trans c1; have f0' := (hB3.frozen (p := ⟨ab, ao, none⟩) hab).trans f0; have f1' := (hB3.frozen (p := ⟨ab, ao + 1, none⟩) hab).trans f1; have hlook := Maps.look_nil (w := w3) true law9 Try.underlying89 (zero3 w3) hkey; have hab3 : ab < w3.heap.size := Nat.lt_of_lt_of_le hab hB3.size; have cA0 := (World.cell?_alloc_lt w3 (.map #[] 0) ⟨ab, ao, none⟩ hab3).trans c0'; have cA1 := (World.cell?_alloc_lt w3 (.map #[] 0) ⟨ab, ao + 1, none⟩ hab3).trans c1'; have fA0 := (((Below.refl _ w3).alloc (Nat.le_refl _) (.map #[] 0)).frozen (p := ⟨ab, ao, none⟩) hab3).trans f0'; have fA1 := (((Below.refl _ w3).alloc (Nat.le_refl _) (.map #[] 0)).frozen (p := ⟨ab, ao + 1, none⟩) hab3).trans f1'; have cB0 := (World.cell?_setCell_other (w3.alloc (.map #[] 0)) ⟨ab, ao + 1, none⟩ ⟨ab, ao, none⟩ (.map (some w3.heap.size)) (by simp)).trans cA0; have cB1 := World.cell?_setCell_same (v := .map (some w3.heap.size)) (h := cA1)))
    have hab3' : ab < (w3.setCell ⟨ab, ao + 1, none⟩ (.map (some w3.heap.size))).heap.size := by rw [World.size_setCell]; exact hab3
    have A : Arena ((w3.setCell ⟨ab, ao + 1, none⟩ (.map (some w3.heap.size))).alloc (.map #[] 0)) ab ao none 0 0 w3.heap.size [] (.map [] : DataW H) :=
      ⟨(World.cell?_alloc_lt _ _ ⟨ab, ao, none⟩ hab3').trans ((World.cell?_setCell_other w3 _ ⟨ab, ao, none⟩ _ (by simp)).trans c0'), (World.cell?_alloc_lt _ _ ⟨ab, ao + 1, none⟩ hab3').trans (World.cell?_setCell_same w3 _ _ c1'),
        (((Below.refl _ _).alloc (Nat.le_refl _) (.map #[] 0)).frozen (p := ⟨ab, ao, none⟩) hab3').trans (by rw [World.frozen?_setCell]; exact f0'), World.ownsRow_nil _ _ _ _,
        by have h := World.ownsMap_made (H := H) (w3.setCell ⟨ab, ao + 1, none⟩ (.map (some w3.heap.size))) Try.prog 9 (plainElem Try.prog 3); rwa [World.size_setCell] at h, by simp; omega, by omega, fun a h => by cases h⟩
    clear cA0 cA1 fA0 fA1 cB0 cB1 hlook hab3'
    generalize (w3.setCell ⟨ab, ao + 1, none⟩ (.map (some w3.heap.size))).alloc (.map #[] 0) = wq at A ⊢
    generalize w3.heap.size = mb at A ⊢
    have hhas : True := trivial
    have hab3 : ab < wq.heap.size := A.lt
    have hrow3 : wq.ownsRow 0 43 3 (.slice none 0 0) 0 [] := A.row
    obtain ⟨i0, hi, hz0, hz1, hz2⟩ := info_parts (P := Try.prog) (e := 43) (z := .agg #[.int .i64 0, .int .i64 0, .slice none 0 0]) (size := 3) (bytes := 40) (by kernel_rfl)
    have keepRow : ∀ {w1 w2 : World}, Below w1.heap.size w1 w2 → w1.ownsRow 0 43 3 (.slice none 0 0) 0 [] → w2.ownsRow 0 43 3 (.slice none 0 0) 0 [] := fun hB h => h.kept (grown_of hB) (by by_cases h : (Value.slice none 0 0).ownBlock = none; exact .inl h; exact .inr h)
    have hs3 : wq.cell? ⟨ab, ao, none⟩ = some (.slice none 0 0) := A.c0
    have hf3 : wq.frozen? ⟨ab, ao, none⟩ = false := A.f0
    have hnbo : some ab ≠ (Value.slice none 0 0).ownBlock := by simp [Value.ownBlock]
    have hnbm : some mb ≠ (Value.slice none 0 0).ownBlock := by simp [Value.ownBlock]
    have hs3' : wq.cell? ⟨ab, ao + 1, none⟩ = some (.map (some mb)) := A.c1
    go_region_law (first
      | (refine step_append_lies _ (by rfl) _ _ 39 (by rfl) 0 43 i0 _ 3 40 Try.underlying39 hi hz0 hz1 hz2 (by rfl) (by decide) (.slice none 0 0) 0 [] (by rfl) (keepRow ((Below.refl _ wq.drew).alloc (Nat.le_refl _) _) hrow4) ⟨wq.drew.heap.size, 0, none⟩ 1 1 [.int .i64 k, .int .i64 n, .slice none 0 0] (by rfl) (by rfl) (World.news_of_block (heap_alloc_new wq.drew _)) (by simp [Value.oneCell']) (by omega) (by unfold maxLen; omega) (by omega) (Nat.zero_le _) _ rfl ?_; intro g cap w6 hown6 hg6 hat6 hlt6; have hs6 := (hg6.cell_far ⟨ab, ao, none⟩ (hab5 _) hnbo).trans ((World.cell?_alloc_lt _ _ ⟨ab, ao, none⟩ hab4).trans hs4); have hm6 := (((show wq.drew.ownsMap Try.prog 9 (plainElem Try.prog 3) mb 0 (.map [] : DataW H) from A.own).kept (grown_of hB4) (by simp)).alloc (.cells #[.int .i64 k, .int .i64 n, .slice none 0 0] 43)).kept hg6 hnbm; have hs6' := (hg6.cell_far ⟨ab, ao + 1, none⟩ (hab5 _) hnbo).trans hs5'; have hf6 : w6.frozen? ⟨ab, ao, none⟩ = false := (hg6.frozen_far ⟨ab, ao, none⟩ (hab5 _) hnbo).trans ((((Below.refl _ wq.drew).alloc (Nat.le_refl _) _).frozen (p := ⟨ab, ao, none⟩) hab4).trans ((hB4.frozen (p := ⟨ab, ao, none⟩) hab3).trans hf3)))
      | (go_simp; go_at_call 58; refine (clone_nil _).mono ?_; rintro ev w4 ⟨rfl, rfl⟩; have hB4 := Below.refl wq.drew.heap.size wq.drew; have hown4 := World.ownsRow_nil wq.drew wq.drew.heap.size 3 1; have hs4 := (hB4.cell (p := ⟨ab, ao, none⟩) hab3).trans hs3; have hs4' := (hB4.cell (p := ⟨ab, ao + 1, none⟩) hab3).trans hs3'; have hrow4 := keepRow hB4 hrow3; have hab4 : ab < wq.drew.heap.size := Nat.lt_of_lt_of_le hab3 hB4.size; have hab5 := fun ob => Nat.lt_of_lt_of_le hab4 ((Below.refl _ wq.drew).alloc (Nat.le_refl _) ob).size; have hs5' := (World.cell?_alloc_lt wq.drew (.cells #[.int .i64 k, .int .i64 n, .slice none 0 0] 43) ⟨ab, ao + 1, none⟩ hab4).trans hs4'))
    all_goals (
      have hm7 := hm6.setCell (a := ⟨ab, ao, none⟩) A.map (.slice (some ⟨g, 0, none⟩) (0 + 1) cap)
      have hs7 := (World.cell?_setCell_other w6 ⟨ab, ao, none⟩ ⟨ab, ao + 1, none⟩ (.slice (some ⟨g, 0, none⟩) (0 + 1) cap) (by simp)).trans hs6'
      try simp only [Exit.then]
      go_wp2_with (first
        | (at_mapUpdate; refine wpList_mapUpdate_in _ rfl _ _ _ 89 rfl 9 3 law9 Try.underlying89 _ mb 0 _ rfl hm7 (by unfold maxLen; omega) _ _ _ rfl rfl hkey _ [] (plainElem_int Try.underlying3 (WalkArith.wf_i64 (by omega))) ?_; intro w8 hown8 hturn8)))
    all_goals (
      go_ret2
      exact ⟨g, cap, mb, rfl, (new_arena A (Below.refl _ _) hB4 hown4 hg6 hown6 hat6 hlt6 hs6 hf6 hs7 hturn8 hown8).1⟩)
end
end Go.Proofs.Ytikbeagcflofhaa
namespace Go.Proofs.Ytikbeagcflofhaa
open Go.RowKit Go.Maps
set_option maxRecDepth 100000
section
variable {ab ao mb m : Nat} {nodes : List Value} {k n : Int} {w : World} {np : Option Addr} {cp : Nat}
set_option maxHeartbeats 8000000 in
theorem make_found_nil {H : Type} {D : DataW H} {kl : Lit} (h0 : rightOf k n 0 = 0) (A : Arena w ab ao np m cp mb nodes D)
    (hkey : keyOf Try.prog 9 (.string (bstr (nameL k n []))) = some kl) (hhas : Maps.has D kl = true) :
    Calls Try.prog 14 #[.pointer (some ⟨ab, ao, none⟩), .int .i64 k, .int .i64 n, .slice none 0 0] w fun e w' => ∃ cc, D.atKey kl (.lit (.int .i64 0)) = .lit (.int .i64 cc) ∧ e = .returned (.tuple #[.int .i64 cc, .int .i64 0]) ∧ Below w.heap.size w w' := by
  have c0 := A.c0
  have c1 := A.c1
  have hown := A.own
  have hab := A.lt
  have hz : (rightOf k n 0 != 0) = false := by simp [h0]
  go_enter Try.func14, Try.ntmps14
  go_wp2_with (go_at_call 55; refine (right_ok _ _ _ _ _ _).mono ?_; rintro ev w ⟨rfl, rfl⟩)
  go_loopw [26] (fun i wr => i = .int .i64 0 ∧ wr = w) (fun _ _ => 0)
  case atStart => exact ⟨rfl, rfl⟩
  case round =>
    obtain ⟨rfl, rfl⟩ := hrel
    have law9 : Keyed Try.prog 9 := string_keyed Try.underlying9
    go_wp2_with (first
      | (go_at_call 57; refine (name_nil k n _).mono ?_; rintro ev w3 ⟨rfl, hB3⟩; have c0' := (hB3.cell (p := ⟨ab, ao, none⟩) hab).trans c0; have c1' := (hB3.cell (p := ⟨ab, ao + 1, none⟩) hab).trans c1; have hown' := hown.kept (grown_of hB3) (by simp))
      | (at_lookup; refine wpList_lookup_own_ok_int _ rfl _ _ 89 rfl 9 3 .i64 law9 Try.underlying89 Try.underlying3 (zero3 _) mb m D rfl hown' _ kl rfl hkey ?_; intro cc hat hwc))
    go_ret2
    exact ⟨cc, hat, rfl, hB3⟩
set_option maxHeartbeats 2000000 in
theorem new_ok {H : Type} (w : World) : Calls Try.prog 13 #[] w fun e w' => ∃ ab mb, e = .returned (.pointer (some ⟨ab, 0, none⟩)) ∧ Arena w' ab 0 none 0 0 mb [] (.map [] : DataW H) ∧ w.heap.size ≤ ab ∧ w.heap.size ≤ mb ∧ Below w.heap.size w w' := by
  have hmk : ∀ w, (Instr.makeMap 89 none).run Try.prog w = .ok (.map (some w.heap.size)) (w.alloc (.map #[] 0)) := fun w => run_makeMap 89 w
  go_enter Try.func13, Try.ntmps13
  go_wp2_with fail
  go_ret
  have e : (w.alloc (.map #[] 0)).heap.size = w.heap.size + 1 := by simp
  have hc := World.news_of_block (heap_alloc_new (w.alloc (.map #[] 0)) (.cells #[.slice none 0 0, .map (some w.heap.size)] 91))
  have hm0 := (World.ownsMap_made (H := H) w Try.prog 9 (plainElem Try.prog 3)).alloc (.cells #[.slice none 0 0, .map (some w.heap.size)] 91)
  have hf : ((w.alloc (.map #[] 0)).alloc (.cells #[.slice none 0 0, .map (some w.heap.size)] 91)).frozen? ⟨(w.alloc (.map #[] 0)).heap.size, 0, none⟩ = false := by
    simp only [World.frozen?, heap_alloc_new]
    rfl
  rw [e] at hc hf
  exact ⟨w.heap.size + 1, w.heap.size, rfl, ⟨hc 0 _ rfl, hc 1 _ rfl, hf, World.ownsRow_nil _ _ _ _, hm0, by simp, by omega, fun a h => by cases h⟩, by omega, by omega, ((Below.refl _ w).alloc (Nat.le_refl _) _).alloc (by simp) _⟩
theorem len_ok (A : w.cell? ⟨ab, ao, none⟩ = some (.slice np m cp)) : Calls Try.prog 41 #[.pointer (some ⟨ab, ao, none⟩)] w fun e w' => e = .returned (.int .i64 m) ∧ w' = w := by
  go_enter Try.func41, Try.ntmps41
  go_wp2
  go_ret
  exact ⟨rfl, rfl⟩
end
end Go.Proofs.Ytikbeagcflofhaa
namespace Go.Proofs.Ytikbeagcflofhaa
open Go.RowKit Go.Maps
set_option maxRecDepth 100000
theorem bstr_data (ns : List Int) : (bstr ns).data.toList = ns.map fun n => UInt8.ofNat n.toNat := by
  suffices h : ∀ (r : ByteArray), (ns.foldl (fun r n => r.push (UInt8.ofNat n.toNat)) r).data.toList = r.data.toList ++ ns.map fun n => UInt8.ofNat n.toNat by
    simpa [bstr] using h ByteArray.empty
  induction ns with
  | nil => intro r; simp
  | cons x t ih =>
    intro r
    rw [List.foldl_cons, ih]
    simp [ByteArray.push]
/-- The key under which a node's place is kept. -/
def keyL (k n : Int) (xs : List Int) : Lit := .string ((nameL k n xs).map fun n => UInt8.ofNat n.toNat)
theorem key_ok (k n : Int) (xs : List Int) (h4 : xs.length ≤ 1000) : keyOf Try.prog 9 (.string (bstr (nameL k n xs))) = some (keyL k n xs) := by
  have hs : (bstr (nameL k n xs)).size = 9 + 3 * xs.length := by
    rw [← nameL_len k n xs]
    show (bstr (nameL k n xs)).data.size = _
    rw [← Array.length_toList, bstr_data, List.length_map]
  rw [Go.WideMaps.keyOf_string_mk Try.underlying9 (by rw [hs]; unfold maxLen; omega), bstr_data]
  rfl
def byteOk (z : Int) : Prop := 0 ≤ z ∧ z < 256
theorem map_byte_inj : ∀ {a b : List Int}, (∀ z ∈ a, byteOk z) → (∀ z ∈ b, byteOk z) → (a.map fun n => UInt8.ofNat n.toNat) = (b.map fun n => UInt8.ofNat n.toNat) → a = b
  | [], [], _, _, _ => rfl
  | [], _ :: _, _, _, h => by simp at h
  | _ :: _, [], _, _, h => by simp at h
  | x :: a, y :: b, ha, hb, h => by
    simp only [List.map_cons, List.cons.injEq] at h
    have h1 := ha x (by simp)
    have h2 := hb y (by simp)
    unfold byteOk at h1 h2
    have h3 : x.toNat = y.toNat := by
      have := congrArg UInt8.toNat h.1
      simp at this
      omega
    rw [show x = y by omega, map_byte_inj (fun z hz => ha z (by simp [hz])) (fun z hz => hb z (by simp [hz])) h.2]
theorem byteOk_mod (z : Int) : byteOk (z % 256) := by unfold byteOk; omega
theorem nameL_byte (k n : Int) (xs : List Int) : ∀ z ∈ nameL k n xs, byteOk z := by
  intro z hz
  unfold nameL at hz
  simp only [List.cons_append, List.mem_cons, List.mem_append, List.mem_map, List.mem_flatMap] at hz
  rcases hz with rfl | ⟨i, _, rfl⟩ | ⟨x, _, hx⟩
  · exact byteOk_mod _
  · exact byteOk_mod _
  · simp at hx
    rcases hx with rfl | rfl | rfl <;> exact byteOk_mod _
theorem args_inj : ∀ {xs ys : List Int}, (∀ z ∈ xs, 0 ≤ z ∧ z < 16777216) → (∀ z ∈ ys, 0 ≤ z ∧ z < 16777216) → (xs.flatMap fun x => [x % 256, x / 256 % 256, x / 65536 % 256]) = (ys.flatMap fun x => [x % 256, x / 256 % 256, x / 65536 % 256]) → xs = ys
  | [], [], _, _, _ => rfl
  | [], _ :: _, _, _, h => by simp at h
  | _ :: _, [], _, _, h => by simp at h
  | x :: a, y :: b, ha, hb, h => by
    simp only [List.flatMap_cons, List.cons_append, List.nil_append, List.cons.injEq] at h
    obtain ⟨e0, e1, e2, h⟩ := h
    have h1 := ha x (by simp)
    have h2 := hb y (by simp)
    rw [show x = y by omega, args_inj (fun z hz => ha z (by simp [hz])) (fun z hz => hb z (by simp [hz])) h]
/-- NAMES ARE UNLIKE FOR UNLIKE NODES. -/
theorem keyL_inj {k n k' n' : Int} {xs ys : List Int} (hk : 0 ≤ k ∧ k < 256) (hk' : 0 ≤ k' ∧ k' < 256) (hn : 0 ≤ n ∧ n < 9223372036854775808) (hn' : 0 ≤ n' ∧ n' < 9223372036854775808) (hx : ∀ z ∈ xs, 0 ≤ z ∧ z < 16777216) (hy : ∀ z ∈ ys, 0 ≤ z ∧ z < 16777216)
    (h : keyL k n xs = keyL k' n' ys) : k = k' ∧ n = n' ∧ xs = ys := by
  have h1 : nameL k n xs = nameL k' n' ys := map_byte_inj (nameL_byte _ _ _) (nameL_byte _ _ _) (by unfold keyL at h; injection h)
  unfold nameL at h1
  obtain ⟨h2, h3⟩ := List.append_inj h1 (by simp)
  have h4 := args_inj hx hy h3
  simp only [List.range, List.range.loop, List.map_cons, List.map_nil, List.cons.injEq] at h2
  obtain ⟨e, e0, e1, e2, e3, e4, e5, e6, e7, _⟩ := h2
  simp only [Nat.reduceMul, Int.reducePow] at e0 e1 e2 e3 e4 e5 e6 e7
  exact ⟨by omega, by omega, h4⟩
end Go.Proofs.Ytikbeagcflofhaa
