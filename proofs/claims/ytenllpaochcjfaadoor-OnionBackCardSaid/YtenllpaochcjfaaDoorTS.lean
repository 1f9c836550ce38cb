/-
  TERMS: names are unlike for unlike nodes; the key of a node. Own work.
-/
import Derived.Test.YtenllpaochcjfaaDoorTR
import Derived.StringKeys
namespace Go.Proofs.YtenllpaochcjfaaDoor
open Go.RowKit Go.Maps
set_option maxRecDepth 100000
theorem bstr_data (ns : List Int) : (bstr ns).data.toList = ns.map fun n => UInt8.ofNat n.toNat := by
  suffices h : ∀ (r : ByteArray), (ns.foldl (fun r n => r.push (UInt8.ofNat n.toNat)) r).data.toList = r.data.toList ++ ns.map fun n => UInt8.ofNat n.toNat by
    simpa [bstr] using h ByteArray.empty
  induction ns with
  | nil => intro r; simp
  | cons x t ih =>
    intro r
    rw [List.foldl_cons, ih]
    simp [ByteArray.push]
/-- The key under which a node's place is kept. -/
def keyL (k n : Int) (xs : List Int) : Lit := .string ((nameL k n xs).map fun n => UInt8.ofNat n.toNat)
theorem key_ok (k n : Int) (xs : List Int) (h4 : xs.length ≤ 1000) : keyOf Tryd.prog 9 (.string (bstr (nameL k n xs))) = some (keyL k n xs) := by
  have hs : (bstr (nameL k n xs)).size = 9 + 3 * xs.length := by
    rw [← nameL_len k n xs]
    show (bstr (nameL k n xs)).data.size = _
    rw [← Array.length_toList, bstr_data, List.length_map]
  rw [Go.WideMaps.keyOf_string_mk Tryd.underlying9 (by rw [hs]; unfold maxLen; omega), bstr_data]
  rfl
def byteOk (z : Int) : Prop := 0 ≤ z ∧ z < 256
theorem map_byte_inj : ∀ {a b : List Int}, (∀ z ∈ a, byteOk z) → (∀ z ∈ b, byteOk z) → (a.map fun n => UInt8.ofNat n.toNat) = (b.map fun n => UInt8.ofNat n.toNat) → a = b
  | [], [], _, _, _ => rfl
  | [], _ :: _, _, _, h => by simp at h
  | _ :: _, [], _, _, h => by simp at h
  | x :: a, y :: b, ha, hb, h => by
    simp only [List.map_cons, List.cons.injEq] at h
    have h1 := ha x (by simp)
    have h2 := hb y (by simp)
    unfold byteOk at h1 h2
    have h3 : x.toNat = y.toNat := by
      have := congrArg UInt8.toNat h.1
      simp at this
      omega
    rw [show x = y by omega, map_byte_inj (fun z hz => ha z (by simp [hz])) (fun z hz => hb z (by simp [hz])) h.2]
theorem byteOk_mod (z : Int) : byteOk (z % 256) := by unfold byteOk; omega
theorem nameL_byte (k n : Int) (xs : List Int) : ∀ z ∈ nameL k n xs, byteOk z := by
  intro z hz
  unfold nameL at hz
  simp only [List.cons_append, List.mem_cons, List.mem_append, List.mem_map, List.mem_flatMap] at hz
  rcases hz with rfl | ⟨i, _, rfl⟩ | ⟨x, _, hx⟩
  · exact byteOk_mod _
  · exact byteOk_mod _
  · simp at hx
    rcases hx with rfl | rfl | rfl <;> exact byteOk_mod _
theorem args_inj : ∀ {xs ys : List Int}, (∀ z ∈ xs, 0 ≤ z ∧ z < 16777216) → (∀ z ∈ ys, 0 ≤ z ∧ z < 16777216) → (xs.flatMap fun x => [x % 256, x / 256 % 256, x / 65536 % 256]) = (ys.flatMap fun x => [x % 256, x / 256 % 256, x / 65536 % 256]) → xs = ys
  | [], [], _, _, _ => rfl
  | [], _ :: _, _, _, h => by simp at h
  | _ :: _, [], _, _, h => by simp at h
  | x :: a, y :: b, ha, hb, h => by
    simp only [List.flatMap_cons, List.cons_append, List.nil_append, List.cons.injEq] at h
    obtain ⟨e0, e1, e2, h⟩ := h
    have h1 := ha x (by simp)
    have h2 := hb y (by simp)
    rw [show x = y by omega, args_inj (fun z hz => ha z (by simp [hz])) (fun z hz => hb z (by simp [hz])) h]
/-- NAMES ARE UNLIKE FOR UNLIKE NODES. -/
theorem keyL_inj {k n k' n' : Int} {xs ys : List Int} (hk : 0 ≤ k ∧ k < 256) (hk' : 0 ≤ k' ∧ k' < 256) (hn : 0 ≤ n ∧ n < 9223372036854775808) (hn' : 0 ≤ n' ∧ n' < 9223372036854775808) (hx : ∀ z ∈ xs, 0 ≤ z ∧ z < 16777216) (hy : ∀ z ∈ ys, 0 ≤ z ∧ z < 16777216)
    (h : keyL k n xs = keyL k' n' ys) : k = k' ∧ n = n' ∧ xs = ys := by
  have h1 : nameL k n xs = nameL k' n' ys := map_byte_inj (nameL_byte _ _ _) (nameL_byte _ _ _) (by unfold keyL at h; injection h)
  unfold nameL at h1
  obtain ⟨h2, h3⟩ := List.append_inj h1 (by simp)
  have h4 := args_inj hx hy h3
  simp only [List.range, List.range.loop, List.map_cons, List.map_nil, List.cons.injEq] at h2
  obtain ⟨e, e0, e1, e2, e3, e4, e5, e6, e7, _⟩ := h2
  simp only [Nat.reduceMul, Int.reducePow] at e0 e1 e2 e3 e4 e5 e6 e7
  exact ⟨by omega, by omega, h4⟩
end Go.Proofs.YtenllpaochcjfaaDoor
