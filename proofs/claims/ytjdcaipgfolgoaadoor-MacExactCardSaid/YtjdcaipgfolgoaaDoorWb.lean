/-
  trystkeep.Bytes: of the same bytes it says yes. Own work.
-/
import Derived.Test.YtjdcaipgfolgoaaDoorWa
namespace Go.Proofs.YtjdcaipgfolgoaaDoor
open Go.Sh
open Go.ChangeShapes Go.WideShapes Go.RowKit
set_option maxRecDepth 100000

def by18 : IC := t18.body
def byA : IC := by18.sub [false]
def byG : IC := by18.sub [true, false]
def byD : IC := by18.sub [true, true, false, false]
def byR : IC := by18.sub [true, true, false, true, false, false]
def byE : IC := by18.sub [true, true, true]
theorem by_shape : t18 = ⟨.seq byA (.seq byG (.seq (.seq byD (.block 0 (.loop byR))) byE)), [.t 4], 26⟩ := by kernel_rfl
def ceB (b wd : Nat) : Nat × ABlk := (b, ⟨rowC .u8 (nmA 10) wd, 0, false⟩)
def slB (b wd : Nat) : AV := .slw b 1 (.s 0) wd (.s 1) .any
def byN (wd : Nat) (l : List (Nat × AV)) : Now := ⟨l ++ [(0, slB 64 wd), (1, slB 65 wd)], [ceB 64 wd, ceB 65 wd], 66⟩
def fB (b : Bool) : Facts := ⟨[], [(.neq, .s 1, .s 1, false), (.neq, .s 10, .s 10, false), (.lss, .s 0, .s 1, b)], []⟩
theorem by_goA : goesX noFacts tree [] [] [] [] [] 60 4 byA (byN 0 []) .normal (byN 0 []) = true := by kernel_rfl
theorem by_goG : goesX (fB true) tree [] [] [] [] [] 60 4 byG (byN 0 []) .normal (byN 0 []) = true := by kernel_rfl
theorem by_goD : goesX noFacts tree [] [] [] [] [] 60 4 byD (byN 0 []) .normal (byN 0 [(5, iN 0)]) = true := by kernel_rfl
theorem by_goR : goesX (fB true) tree [] [] [] [] [] 60 4 byR (byN 1 [(5, sI 0)]) .normal (byN 1 [(5, .i .i64 (.e .add .i64 (.s 0) (nA 1)))]) = true := by kernel_rfl
theorem by_goRe : goesX (fB false) tree [] [] [] [] [] 60 4 byR (byN 0 [(5, sI 0)]) (.exit 0) (byN 0 []) = true := by kernel_rfl
def byZ : Now := ⟨[(4, .b true)], [], 66⟩
theorem by_goE : goesX noFacts tree [] [] [] [] [] 60 4 byE (byN 0 []) .ret byZ = true := by kernel_rfl
theorem by_res : resA (trL byZ.e) (heapL (byZ.H ++ []) byZ.n) [.t 4] = some (.b true) := by kernel_rfl
def nuB (i n x : Int) : Nat → Int := fun k => if k = 0 then i else if k = 1 then n else x
def wdB (k : Nat) : Nat := if k = 0 then 0 else 1
section
variable {w0 : World} {cb o cb' o' n : Nat} {C C' : Array Value} {ty ty' : TypeId} {fz fz' : Nat × Nat} {z : Wd}
theorem by_ren {ν ν' : Nat → Int} {wd wd' i i' : Nat} {l l' : List (Nat × AV)} {a : Act} {w : World} (hz : ∀ j, j < n → C[o + j]? = some (.int .u8 (z j))) (hz' : ∀ j, j < n → C'[o' + j]? = some (.int .u8 (z j)))
    (h : HoldsX 26 w0 ν [] [] [(64, ⟨cb, o + i, 0⟩), (65, ⟨cb', o' + i, 0⟩)] [(cb, .cells C ty fz), (cb', .cells C' ty' fz')] (byN wd l) a w)
    (ha : ν 0 = (i : Int)) (ha' : ν' 0 = (i' : Int)) (hN : ν 1 = (n : Int)) (hN' : ν' 1 = (n : Int)) (hw : i' + wd' ≤ n) (hwin : ∀ j, j < wd' → ν' (10 + j) = z (i' + j)) (hl : ∀ p ∈ l', ∃ x u, (p.1, x) ∈ l ∧ conc ν x = some u ∧ conc ν' p.2 = some u) :
    HoldsX 26 w0 ν' [] [] [(64, ⟨cb, o + i', 0⟩), (65, ⟨cb', o' + i', 0⟩)] [(cb, .cells C ty fz), (cb', .cells C' ty' fz')] (byN wd' l') a w := by
  have k1 := h.kept (cb, .cells C ty fz) List.mem_cons_self
  have k2 := h.kept (cb', .cells C' ty' fz') (List.mem_cons_of_mem _ List.mem_cons_self)
  refine HoldsX.rename gl0_ok h (fun b => if b = 64 then some ⟨cb, o + i', 0⟩ else if b = 65 then some ⟨cb', o' + i', 0⟩ else none) (by decide) (fun _ hp => hp) (fun b pl hv => ?_) (fun p hp => ?_) (fun p hp => ?_) fun p hp => ?_
  · by_cases hb : b = 64
    · subst hb; exact ⟨by decide, by decide⟩
    · by_cases hb2 : b = 65
      · subst hb2; exact ⟨by decide, by decide⟩
      · rw [if_neg hb, if_neg hb2] at hv; cases hv
  · simp only [List.mem_cons, List.not_mem_nil, or_false] at hp
    rcases hp with rfl | rfl
    · exact .inl rfl
    · exact .inl rfl
  · rcases List.mem_append.1 hp with hp | hp
    · obtain ⟨x, u, q1, q2, q3⟩ := hl p hp
      exact ⟨x, List.mem_append.2 (.inl q1), SlotTo.conc q2 q3⟩
    · simp only [List.mem_cons, List.not_mem_nil, or_false] at hp
      rcases hp with rfl | rfl
      · exact ⟨slB 64 wd, List.mem_append.2 (.inr (by simp)), SlotTo.slw (pl := ⟨cb, o + i, 0⟩) (pl' := ⟨cb, o + i', 0⟩) (i := i) (i' := i') (m := n) List.mem_cons_self rfl rfl rfl ha ha' (by show o + i' + i * 1 = o + i + i' * 1; omega) hN hN' hw⟩
      · exact ⟨slB 65 wd, List.mem_append.2 (.inr (by simp)), SlotTo.slw (pl := ⟨cb', o' + i, 0⟩) (pl' := ⟨cb', o' + i', 0⟩) (i := i) (i' := i') (m := n) (List.mem_cons_of_mem _ List.mem_cons_self) rfl rfl rfl ha ha' (by show o' + i' + i * 1 = o' + i + i' * 1; omega) hN hN' hw⟩
  · simp only [List.mem_cons, List.not_mem_nil, or_false] at hp
    rcases hp with rfl | rfl
    · refine ⟨show gmax ≤ 64 by decide, show 64 < 66 by decide, .inl ⟨_, rfl, rfl, ⟨_, List.mem_cons_self⟩, fun ρ' => ?_⟩⟩
      have hc : CellsAt w .u8 cb (o + i') wd' (fun j => z (i' + j)) := ⟨C, ty, fz, k1, fun j hj => by rw [Nat.add_assoc]; exact hz _ (by omega)⟩
      exact hc.br (by decide) fun j hj => hwin j hj
    · refine ⟨show gmax ≤ 65 by decide, show 65 < 66 by decide, .inl ⟨_, rfl, rfl, ⟨_, List.mem_cons_of_mem _ List.mem_cons_self⟩, fun ρ' => ?_⟩⟩
      have hc : CellsAt w .u8 cb' (o' + i') wd' (fun j => z (i' + j)) := ⟨C', ty', fz', k2, fun j hj => by rw [Nat.add_assoc]; exact hz' _ (by omega)⟩
      exact hc.br (by decide) fun j hj => hwin j hj
theorem fB_hold {i x : Int} {b : Bool} (hb : decide (i < (n : Int)) = b) : (fB b).Hold (nuB i n x) := by
  refine ⟨fun p hp => (by cases hp), fun p hp => ?_, fun p hp => by cases hp⟩
  simp only [fB, List.mem_cons, List.not_mem_nil, or_false] at hp
  rcases hp with rfl | rfl | rfl
  · show (nuB i n x 1 != nuB i n x 1) = false
    simp
  · show (nuB i n x 10 != nuB i n x 10) = false
    simp
  · exact hb
end
/-- OF THE SAME BYTES. -/
theorem bytes_ok {w : World} {cb o c cb' o' c' n : Nat} {z : Wd} (h0 : 0 < n) (hle : n ≤ c) (hle' : n ≤ c') (hz : CellsAt w .u8 cb o n z) (hz' : CellsAt w .u8 cb' o' n z) (hn : n < 1000000000000) :
    (∃ fn, Tryd.prog.funcs[18]? = some fn ∧ fn.body.isSome = true ∧ (fn.name == "runtime.NumGoroutine") = false) ∧
    Calls Tryd.prog 18 #[.slice (some ⟨cb, o, none⟩) n c, .slice (some ⟨cb', o', none⟩) n c'] w fun e w' => e = .returned (.bool true) ∧ Below w.heap.size w w' := by
  obtain ⟨C, ty, fz, hC, hz⟩ := hz
  obtain ⟨C', ty', fz', hC', hz'⟩ := hz'
  have below : ∀ {w' : World}, BelowL [] w w' → Below w.heap.size w w' := fun hB => ⟨hB.os, hB.tape, hB.output, hB.size, fun k hk => hB.block k hk fun p hp => by cases hp⟩
  let g : Nat → Option Pl := fun b => if b = 64 then some ⟨cb, o + 0, 0⟩ else if b = 65 then some ⟨cb', o' + 0, 0⟩ else none
  have g64 : g 64 = some ⟨cb, o + 0, 0⟩ := rfl
  have g65 : g 65 = some ⟨cb', o' + 0, 0⟩ := rfl
  let KP : List (Nat × Obj) := [(cb, .cells C ty fz), (cb', .cells C' ty' fz')]
  have b1 : BR (nuB 0 n 0) (embF g) w (ceB 64 0).2 ⟨cb, o + 0, 0⟩ := CellsAt.br (m := z) ⟨C, ty, fz, hC, fun j hj => by omega⟩ (by decide) fun j hj => by omega
  have b2 : BR (nuB 0 n 0) (embF g) w (ceB 65 0).2 ⟨cb', o' + 0, 0⟩ := CellsAt.br (m := z) ⟨C', ty', fz', hC', fun j hj => by omega⟩ (by decide) fun j hj => by omega
  have start := holdsX_start (N := 26) (ν := nuB 0 n 0) (L := []) (fx := [(64, ⟨cb, o + 0, 0⟩), (65, ⟨cb', o' + 0, 0⟩)]) (kp := KP) (vs := #[.slice (some ⟨cb, o, none⟩) n c, .slice (some ⟨cb', o', none⟩) n c']) (e0 := (byN 0 []).e) (H0 := (byN 0 []).H) (n0 := 66) gl0_ok (w := w) (fun p hp => by cases hp) g (by show 2 ≤ 26; decide) (by decide)
    (fun b hb => by show (if b = 64 then _ else if b = 65 then _ else _) = _; rw [if_neg (by omega), if_neg (by omega)])
    (fun p hp => by
      simp only [List.mem_cons, List.not_mem_nil, or_false] at hp
      rcases hp with rfl | rfl
      · exact (embF_other (show gmax ≤ 64 by decide)).trans g64
      · exact (embF_other (show gmax ≤ 65 by decide)).trans g65)
    (fun p hp => by
      simp only [byN, List.nil_append, List.mem_cons, List.not_mem_nil, or_false] at hp
      rcases hp with rfl | rfl
      · exact ⟨_, rfl, .slw 64 1 _ 0 _ .any ⟨cb, o + 0, 0⟩ o 0 n c ((embF_other (by decide)).trans g64) rfl (by show o + 0 = o + 0 * 1; omega) (by omega) rfl trivial hle (by omega)⟩
      · exact ⟨_, rfl, .slw 65 1 _ 0 _ .any ⟨cb', o' + 0, 0⟩ o' 0 n c' ((embF_other (by decide)).trans g65) rfl (by show o' + 0 = o' + 0 * 1; omega) (by omega) rfl trivial hle' (by omega)⟩)
    (fun p hp => by
      simp only [byN, List.mem_cons, List.not_mem_nil, or_false] at hp
      rcases hp with rfl | rfl
      · exact ⟨show gmax ≤ 64 by decide, _, g64, b1, fun h => by cases h⟩
      · exact ⟨show gmax ≤ 65 by decide, _, g65, b2, fun h => by cases h⟩)
    (fun p hp => by
      simp only [KP, List.mem_cons, List.not_mem_nil, or_false] at hp
      rcases hp with rfl | rfl
      · exact hC
      · exact hC')
  refine And.imp id (fun h2 => h2.mono fun e w' ⟨v, he, hv, hB⟩ => ⟨by rw [he, hv], hB⟩) (callsX (L := []) (gl := []) (Q := fun v w' => v = .bool true ∧ Below w.heap.size w w') tab_ok (by kernel_rfl) by_shape start ?_)
  have run : ∀ {ic : IC} {s s' : Now} {ex : Ex} {F : Facts} {ν : Nat → Int} {fx : List (Nat × Pl)}, goesX F tree [] [] [] [] [] 60 4 ic s ex s' = true → F.Hold ν → Tri Tryd.prog 26 ic (HoldsX 26 w ν [] [] fx KP s) fun ex' a w' => ex' = ex ∧ HoldsX 26 w ν [] [] fx KP s' a w' := fun h hF =>
    Tri.runX hF mixed tab_ok gl0_ok (fun r hr => by cases hr) (fun r hr => by cases hr) (fun r hr => by cases hr) (fun r hr => by cases hr) h
  have loop : Tri Tryd.prog 26 (.loop byR) (HoldsX 26 w (nuB ((0 : Nat) : Int) n (z 0)) [] [] [(64, ⟨cb, o + 0, 0⟩), (65, ⟨cb', o' + 0, 0⟩)] KP (byN 1 [(5, sI 0)])) fun ex a w' => ex = .exit 0 ∧ HoldsX 26 w (nuB (n : Int) n (z n)) [] [] [(64, ⟨cb, o + n, 0⟩), (65, ⟨cb', o' + n, 0⟩)] KP (byN 0 []) a w' := by
    have key := Tri.loop (P := Tryd.prog) (N := 26) (x := byR) (J := fun k a w' => k ≤ n ∧ HoldsX 26 w (nuB ((n - k : Nat) : Int) n (z (n - k))) [] [] [(64, ⟨cb, o + (n - k), 0⟩), (65, ⟨cb', o' + (n - k), 0⟩)] KP (byN (wdB k) [(5, sI 0)]) a w')
      (Post := fun ex a w' => ex = .exit 0 ∧ HoldsX 26 w (nuB (n : Int) n (z n)) [] [] [(64, ⟨cb, o + n, 0⟩), (65, ⟨cb', o' + n, 0⟩)] KP (byN 0 []) a w') n ?_ ?_
    · exact key.weak (fun a w' h => ⟨Nat.le_refl _, by rw [Nat.sub_self, show wdB n = 1 from if_neg (by omega)]; exact h⟩) (fun _ _ _ h => h)
    · intro k c1 hc a w' ⟨hk, hp⟩
      rw [show wdB (k + 1) = 1 from if_neg (by omega)] at hp
      refine ((run by_goR (fB_hold (decide_eq_true (by omega)))).weak (fun _ _ h => h) (fun ex a w' h => .inl ⟨h.1, by omega, ?_⟩)) c1 hc a w' hp
      refine by_ren (i' := n - k) hz hz' h.2 rfl rfl rfl rfl (by unfold wdB; split <;> omega) (fun j hj => ?_) fun p hp => ?_
      · have : j = 0 := by unfold wdB at hj; split at hj <;> omega
        subst this
        rfl
      · simp only [List.mem_cons, List.not_mem_nil, or_false] at hp
        subst hp
        refine ⟨_, .int .i64 ((n - k : Nat) : Int), List.mem_cons_self, ?_, rfl⟩
        show some (Value.int .i64 (IntKind.i64.wrap (((n - (k + 1) : Nat) : Int) + ((1 : Nat) : Int)))) = _
        rw [i64_small (by omega) (by omega)]
        congr 2
        omega
    · intro c1 hc a w' ⟨_, hp⟩
      rw [Nat.sub_zero, show wdB 0 = 0 from rfl] at hp
      exact ((run by_goRe (fB_hold (decide_eq_false (by omega)))).weak (fun _ _ h => h) (fun ex a w' h => ⟨by rw [h.1]; simp, h.1, h.2⟩)) c1 hc a w' hp
  refine seqN (run by_goA (none_f _)) (seqN (run by_goG (fB_hold (decide_eq_true (by omega)))) (seqN (Mid := HoldsX 26 w (nuB (n : Int) n (z n)) [] [] [(64, ⟨cb, o + n, 0⟩), (65, ⟨cb', o' + n, 0⟩)] KP (byN 0 [])) ?_ ?_))
  · refine seqN (Mid := HoldsX 26 w (nuB ((0 : Nat) : Int) n (z 0)) [] [] [(64, ⟨cb, o + 0, 0⟩), (65, ⟨cb', o' + 0, 0⟩)] KP (byN 1 [(5, sI 0)])) ((run by_goD (none_f _)).weak (fun _ _ h => h) fun ex a w' h => ⟨h.1, ?_⟩) ?_
    · refine by_ren (i' := 0) hz hz' h.2 rfl rfl rfl rfl (by omega) (fun j hj => ?_) fun p hp => ?_
      · have : j = 0 := by omega
        subst this
        rfl
      · simp only [List.mem_cons, List.not_mem_nil, or_false] at hp
        subst hp
        exact ⟨iN 0, .int .i64 0, List.mem_cons_self, rfl, rfl⟩
    · refine Tri.block loop (fun a w h => by cases h.1) (fun a w h => ⟨rfl, h.2⟩) (fun j a w hj h => ?_) (fun a w h => by cases h.1)
      have := h.1
      simp only [Ex.exit.injEq] at this
      exact (hj this).elim
  · exact (run by_goE (none_f _)).weak (fun _ _ h => h) fun ex a w' h => ⟨.inr h.1, _, byZ, .b true, _, _, h.2, by_res, fun ρ v _ _ _ hB hv => ⟨by cases hv; rfl, below hB⟩⟩
end Go.Proofs.YtjdcaipgfolgoaaDoor
