/-
  trystkeep.Twin: what it answers: new memory, the same bytes. Own work.
-/
import Derived.Test.YtjdcaipgfolgoaaDoorUg
namespace Go.Proofs.YtjdcaipgfolgoaaDoor
open Go.Sh
open Go.ChangeShapes Go.WideShapes Go.RowKit
set_option maxRecDepth 100000

def twp : IC := t13.body
theorem twp_shape : t13 = ⟨twp, [.t 2], 7⟩ := by kernel_rfl
def fT : Facts := ⟨[], [(.gtr, lnT, .c 0, true), (.lss, lnT, .c 1099511627776, true), (.eql, atT, lnT, true)], [(0, [], T0, T0)]⟩
def tw0 : Now := ⟨[(0, slP0)], [txP], 65⟩
def tw1 : Now := ⟨[(2, slE 65 T0 0)], [(65, ⟨[], T0 + mapTag, true⟩)], 66⟩
theorem tw_go : goesX fT tree [] [] [] [] [] 60 4 twp tw0 .ret tw1 = true := by kernel_rfl
theorem tw_res : resA (trL tw1.e) (heapL (tw1.H ++ []) tw1.n) [.t 2] = some (slE 65 T0 0) := by kernel_rfl
theorem fT_hold {n : Nat} {z : Wd} (h0 : 0 < n) (hn : n < 1000000000000) : fT.Hold (nuP n z) := by
  refine ⟨fun p hp => (by cases hp), fun p hp => ?_, fun p hp => ?_⟩
  · simp only [fT, List.mem_cons, List.not_mem_nil, or_false] at hp
    rcases hp with rfl | rfl | rfl
    · show decide (lnT.val (nuP n z) > 0) = true
      rw [lnT_val]
      exact decide_eq_true (by omega)
    · show decide (lnT.val (nuP n z) < 1099511627776) = true
      rw [lnT_val]
      exact decide_eq_true (by omega)
    · show (atT.val (nuP n z) == lnT.val (nuP n z)) = true
      rw [lnT_val, atT_val]
      exact beq_self_eq_true _
  · simp only [fT, List.mem_cons, List.not_mem_nil, or_false] at hp
    subst hp
    refine ⟨by show 0 ≤ nuP n z (pinL T0); rw [nuP_L]; omega, ?_⟩
    show lst (nuP n z) T0 = lst0 (nuP n z) 0 ++ [].map _ ++ lst0 (nuP n z) T0
    rw [lst0_zero, lst0_row _ (by decide)]
    rfl
/-- A text that is there, as the machine has it. -/
theorem txP_br {w : World} {cb o n t : Nat} {C : Array Value} {ty : TypeId} {fz : Nat × Nat} {z : Wd} {ρ : Emb} (hn : n < 1000000000000) (hC : w.heap[cb]? = some (.cells C ty fz)) (hz : ∀ j, j < n → C[o + j]? = some (.int .u8 (z j))) : BR (nuP n z) ρ w txP.2 ⟨cb, o, t⟩ := by
  refine ⟨fun _ => ⟨C, ty, fz, hC, fun j c hc => by simp [txP] at hc, fun h => by cases h⟩, fun h => by exact absurd h (by decide), fun _ => ?_⟩
  unfold PinB
  rw [if_pos (by decide)]
  obtain ⟨C', ty', fz', q1, q2⟩ := pinned_T0 (o := o) hn hC hz
  exact ⟨C', ty', fz', q1, q2⟩
theorem twin_ok {w : World} {cb o c n : Nat} {z : Wd} (h0 : 0 < n) (hle : n ≤ c) (hz : CellsAt w .u8 cb o n z) (hn : n < 1000000000000) :
    (∃ fn, Tryd.prog.funcs[13]? = some fn ∧ fn.body.isSome = true ∧ (fn.name == "runtime.NumGoroutine") = false) ∧
    Calls Tryd.prog 13 #[.slice (some ⟨cb, o, none⟩) n c] w fun e w' => ∃ u, e = .returned u ∧ Padded w w' u n z ∧ Below w.heap.size w w' := by
  obtain ⟨C, ty, fz, hC, hz⟩ := hz
  have below : ∀ {w' : World}, BelowL [] w w' → Below w.heap.size w w' := fun hB => ⟨hB.os, hB.tape, hB.output, hB.size, fun k hk => hB.block k hk fun p hp => by cases hp⟩
  have start := holdsX_start (N := 7) (ν := nuP n z) (L := []) (fx := []) (kp := []) (vs := #[.slice (some ⟨cb, o, none⟩) n c]) (e0 := tw0.e) (H0 := [txP]) (n0 := 65) gl0_ok (w := w) (fun p hp => by cases hp) (at1 64 ⟨cb, o, 0⟩) (by show 1 ≤ 7; decide) (by decide) (fun b hb => at1_none (by omega)) (fun p hp => by cases hp)
    (fun p hp => by
      simp only [tw0, List.mem_cons, List.not_mem_nil, or_false] at hp
      subst hp
      exact ⟨_, rfl, .sl 64 0 _ .any ⟨cb, o, 0⟩ n c (at1_at (by decide)) lnT_val trivial hle⟩)
    (fun p hp => by
      simp only [List.mem_cons, List.not_mem_nil, or_false] at hp
      subst hp
      exact ⟨show gmax ≤ 64 by decide, _, if_pos rfl, txP_br hn hC hz, fun h => by cases h⟩)
    (fun p hp => by cases hp)
  refine And.imp id (fun h2 => h2.mono fun e w' ⟨u, he, hv, hB⟩ => ⟨u, he, hv, hB⟩) (callsX (L := []) (gl := []) (Q := fun u w' => Padded w w' u n z ∧ Below w.heap.size w w') tab_ok (by kernel_rfl) twp_shape start ?_)
  refine (Tri.runX (L := []) (fT_hold h0 hn) mixed tab_ok gl0_ok (fun r hr => by cases hr) (fun r hr => by cases hr) (fun r hr => by cases hr) (fun r hr => by cases hr) tw_go).weak (fun _ _ h => h) fun ex a w' h => ⟨.inr h.1, _, tw1, slE 65 T0 0, [], [], h.2, tw_res, fun ρ v _ hh ho hB hv => ⟨?_, below hB⟩⟩
  obtain ⟨pl, k1, k2⟩ := hh.blk 65 ⟨[], T0 + mapTag, true⟩ (by kernel_rfl)
  cases hv
  rename_i q o' a' m c' hl hb hq hqo ha hw hlen hcap
  have hq : ρ 65 = some q := hq
  rw [k1] at hq
  cases hq
  have ha : nuP n z (pinA T0) = (a' : Int) := ha
  rw [nuP_A] at ha
  have ha : a' = n := by omega
  subst ha
  have hlen : nuP a' z (pinA T0) = (m : Int) := hlen
  rw [nuP_A] at hlen
  have hm : m = a' := by omega
  subst hm
  have hpb := k2.pin (show mapTag < T0 + mapTag by decide)
  unfold PinB at hpb
  rw [if_neg (show ¬ T0 + mapTag ≤ winTag by decide)] at hpb
  obtain ⟨C2, ty2, fz2, o2, a2, p1, p2, p3, p4⟩ := hpb
  have eT : (T0 + mapTag - mapTag) = T0 := Nat.add_sub_cancel _ _
  have p2 : nuP m z (pinA (T0 + mapTag - mapTag)) = (a2 : Int) := p2
  rw [eT, nuP_A] at p2
  have e2 : a2 = m := by omega
  subst e2
  have e3 : o2 = o' := by omega
  subst e3
  refine ⟨pl.cb, o2, c', rfl, hl, ?_, C2, ty2, fz2, p1, fun j hj => ?_⟩
  · rcases ho pl.cb ⟨65, ⟨[], T0 + mapTag, true⟩, pl, by kernel_rfl, rfl, k1, rfl⟩ with h | ⟨p, hp, _⟩
    · exact h
    · cases hp
  · have h9 := p4 j (by
      show (j : Int) < nuP a2 z (pinL (T0 + mapTag - mapTag))
      rw [eT, nuP_L]
      omega) (.inl hj)
    have e9 : C2[o2 + j]? = some (.int (pinK T0) (nuP a2 z (pinB T0 j))) := by
      rw [← eT]
      exact h9
    rw [e9, T0_K, nuP_B (by omega)]
end Go.Proofs.YtjdcaipgfolgoaaDoor
