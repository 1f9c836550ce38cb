/-
  TERMBENEATH, on lists: what is beneath a node is it and what is beneath its args. Own work.
-/
import Derived.Test.YtehkfgjnapjefaaSPr
namespace Go.Proofs.Ytehkfgjnapjefaa
open Go.RowKit Go.Maps
set_option maxRecDepth 100000
def wantFrom (L : List Tm) (s : List Bool) (args : List Int) : List Bool := args.foldl (fun s x => mark s (benOf L x.toNat)) s
theorem wantFrom_len (L : List Tm) (args : List Int) : ∀ s : List Bool, (wantFrom L s args).length = s.length := by
  induction args with
  | nil => intro s; rfl
  | cons x xs ih => intro s; exact (ih _).trans (mark_len _ _)
theorem wantFrom_snoc {L : List Tm} {s : List Bool} {args : List Int} {t : Nat} (h : t < args.length) : wantFrom L s (args.take (t + 1)) = mark (wantFrom L s (args.take t)) (benOf L (args.getD t 0).toNat) := by
  unfold wantFrom
  rw [List.take_add_one, List.getElem?_eq_getElem h, List.foldl_append, List.getD_eq_getElem?_getD, List.getElem?_eq_getElem h]
  rfl
theorem wantFrom_at {L : List Tm} : ∀ (args : List Int) (s : List Bool) (q : Nat), q < s.length → ((wantFrom L s args).getD q false = true ↔ s.getD q false = true ∨ ∃ x ∈ args, ∃ y ∈ benOf L x.toNat, y.toNat = q)
  | [], s, q, _ => by simp [wantFrom]
  | x :: xs, s, q, hq => by
    have ih := wantFrom_at (L := L) xs (mark s (benOf L x.toNat)) q (by rw [mark_len]; exact hq)
    show (wantFrom L (mark s (benOf L x.toNat)) xs).getD q false = true ↔ _
    rw [ih, mark_at _ _ _ hq]
    constructor
    · rintro ((h | h) | ⟨y, hy, h⟩)
      · exact .inl h
      · exact .inr ⟨x, by simp, h⟩
      · exact .inr ⟨y, by simp [hy], h⟩
    · rintro (h | ⟨y, hy, h⟩)
      · exact .inl (.inl h)
      · rcases List.mem_cons.1 hy with rfl | hy
        · exact .inl (.inr h)
        · exact .inr ⟨y, hy, h⟩
theorem mem_ben {L : List Tm} (h : Wf L) {i : Nat} (hi : i < L.length) {y : Int} : y ∈ benOf L i ↔ ∃ q : Nat, y = q ∧ Reach L i q := by
  rw [ben_reach h hi, List.mem_map]
  constructor
  · rintro ⟨q, hq, rfl⟩
    exact ⟨q, rfl, reachB_iff.1 (List.mem_filter.1 hq).2⟩
  · rintro ⟨q, rfl, hr⟩
    refine ⟨q, List.mem_filter.2 ⟨List.mem_range.2 ?_, reachB_iff.2 hr⟩, rfl⟩
    have := hr.le h hi
    omega
theorem filter_more {f : Nat → Bool} {i : Nat} (hf : ∀ q, i < q → f q = false) : ∀ n, i + 1 ≤ n → (List.range n).filter f = (List.range (i + 1)).filter f
  | 0, h => by omega
  | n + 1, h => by
    by_cases hn : i + 1 ≤ n
    · rw [List.range_succ, List.filter_append, filter_more hf n hn]
      simp [hf n (by omega)]
    · rw [show n = i by omega]
/-- What the law collects is what Beneath tells. -/
theorem want_ben {L : List Tm} (h : Wf L) {i : Nat} (hi : i < L.length) {args : List Int} (ha : (tmAt L i).2.2 = args) : (((List.range L.length).filter fun q => (wantFrom L ((List.replicate L.length false).set i true) args).getD q false).map fun (q : Nat) => (q : Int)) = benOf L i := by
  rw [ben_reach h hi]
  have e1 : (List.range L.length).filter (fun q => (wantFrom L ((List.replicate L.length false).set i true) args).getD q false) = (List.range L.length).filter (reachB L i) := by
    apply List.filter_congr
    intro q hq
    have hqL := List.mem_range.1 hq
    rw [Bool.eq_iff_iff, wantFrom_at args _ q (by simpa using hqL), reachB_iff]
    have e0 : ((List.replicate L.length false).set i true).getD q false = true ↔ q = i := by
      rw [List.getD_eq_getElem?_getD, List.getElem?_set]
      by_cases hqi : i = q
      · simp [hqi, hqL]
      · rw [if_neg hqi, List.getElem?_replicate, if_pos hqL]
        simp
        omega
    rw [e0]
    constructor
    · rintro (rfl | ⟨x, hx, y, hy, rfl⟩)
      · exact .refl _
      · have hxa := args_lt h hi (by rw [ha]; exact hx)
        obtain ⟨q, rfl, hr⟩ := (mem_ben h (by omega)).1 hy
        rw [Int.toNat_natCast]
        refine .step (x := x.toNat) ?_ hr
        rw [Int.toNat_of_nonneg hxa.1, ha]
        exact hx
    · intro hr
      cases hr with
      | refl => exact .inl rfl
      | step hx hr =>
        rename_i x
        rw [ha] at hx
        have hxa := args_lt h hi (by rw [ha]; exact hx)
        exact .inr ⟨_, hx, q, by rw [Int.toNat_natCast]; exact (mem_ben h (by omega)).2 ⟨q, rfl, hr⟩, by simp⟩
  have hf : ∀ q, i < q → reachB L i q = false := by
    intro q hq
    rw [Bool.eq_false_iff]
    intro hh
    have := (reachB_iff.1 hh).le h hi
    omega
  rw [e1, filter_more hf L.length (by omega)]
end Go.Proofs.Ytehkfgjnapjefaa
