/-
  chacha: a quarter turned, as a row. Own work.
-/
import Derived.Test.YtakegcfpbacefaaBa
namespace Go.Proofs.Ytakegcfpbacefaa
open Go.Sh
open Go.ChangeShapes Go.WideShapes Go.ChangeAt Go.RowKit
set_option maxRecDepth 100000

def rl32 (s : Nat) (x : AI) : AI := .e .or .u32 (.e .shl .u32 x (nA s)) (.e .shr .u32 x (nA (32 - s)))
def x32 (x y : AI) : AI := .e .xor .u32 x y
def a32 (x y : AI) : AI := .e .add .u32 x y
/-- Which four words the i-th quarter turns. -/
def qpa (i : Nat) : Nat := i % 4
def qpb (i : Nat) : Nat := if Nat.blt (i % 8) 4 then 4 + i % 4 else 4 + (i + 1) % 4
def qpc (i : Nat) : Nat := if Nat.blt (i % 8) 4 then 8 + i % 4 else 8 + (i + 2) % 4
def qpd (i : Nat) : Nat := if Nat.blt (i % 8) 4 then 12 + i % 4 else 12 + (i + 3) % 4
def q1a (A B : AI) : AI := a32 A B
def q1d (A B D : AI) : AI := rl32 16 (x32 D (q1a A B))
def q1c (A B C D : AI) : AI := a32 C (q1d A B D)
def q1b (A B C D : AI) : AI := rl32 12 (x32 B (q1c A B C D))
def q2a (A B C D : AI) : AI := a32 (q1a A B) (q1b A B C D)
def q2d (A B C D : AI) : AI := rl32 8 (x32 (q1d A B D) (q2a A B C D))
def q2c (A B C D : AI) : AI := a32 (q1c A B C D) (q2d A B C D)
def q2b (A B C D : AI) : AI := rl32 7 (x32 (q1b A B C D) (q2c A B C D))
def qrA (b0 i j : Nat) : AI :=
  if Nat.beq j (qpa i) then q2a (.s (b0 + qpa i)) (.s (b0 + qpb i)) (.s (b0 + qpc i)) (.s (b0 + qpd i))
  else if Nat.beq j (qpb i) then q2b (.s (b0 + qpa i)) (.s (b0 + qpb i)) (.s (b0 + qpc i)) (.s (b0 + qpd i))
  else if Nat.beq j (qpc i) then q2c (.s (b0 + qpa i)) (.s (b0 + qpb i)) (.s (b0 + qpc i)) (.s (b0 + qpd i))
  else if Nat.beq j (qpd i) then q2d (.s (b0 + qpa i)) (.s (b0 + qpb i)) (.s (b0 + qpc i)) (.s (b0 + qpd i))
  else .s (b0 + j)
/-- The same, as numbers. -/
def qI (i : Nat) (v : Wd) : Wd := fun j => (qrA 0 i j).val v
theorem qp_lt (i : Nat) : qpa i < 16 ∧ qpb i < 16 ∧ qpc i < 16 ∧ qpd i < 16 := by
  unfold qpa qpb qpc qpd
  split <;> omega
theorem qI_congr {i : Nat} {v v' : Wd} (h : ∀ j, j < 16 → v j = v' j) {j : Nat} (hj : j < 16) : qI i v j = qI i v' j := by
  obtain ⟨h1, h2, h3, h4⟩ := qp_lt i
  show (qrA 0 i j).val v = (qrA 0 i j).val v'
  unfold qrA
  simp only [Nat.zero_add]
  have e1 := h _ h1
  have e2 := h _ h2
  have e3 := h _ h3
  have e4 := h _ h4
  have e5 := h _ hj
  (repeat' split) <;> simp only [q2a, q2b, q2c, q2d, q1a, q1b, q1c, q1d, rl32, x32, a32, nA, AI.val, e1, e2, e3, e4, e5]
def qtB : IC := t14.body
theorem qt_shape : t14 = ⟨qtB, [], 126⟩ := by kernel_rfl
theorem qt_shapeP : t16 = ⟨qtB, [], 126⟩ := by kernel_rfl
def qtH (g : Nat → AI) : List (Nat × ABlk) := [(64, ⟨rowC .u32 g 16, 0, true⟩)]
def qt0 (i : Nat) : Now := ⟨[(0, .p 64 0), (1, iN (qpa i)), (2, iN (qpb i)), (3, iN (qpc i)), (4, iN (qpd i))], qtH (nmA 0), 65⟩
def qt1 (i : Nat) : Now := ⟨[], qtH (qrA 0 i), 65⟩
noncomputable def qtGo (i : Nat) : Bool := goesX noFacts tree [] [] [] [] [] 60 4 qtB (qt0 i) .normal (qt1 i)
theorem qt_go : (List.range 8).all qtGo = true := by kernel_rfl
theorem qp_mod (i : Nat) : qpa (i % 8) = qpa i ∧ qpb (i % 8) = qpb i ∧ qpc (i % 8) = qpc i ∧ qpd (i % 8) = qpd i := by
  unfold qpa qpb qpc qpd
  simp only [Nat.mod_mod]
  have h1 : i % 8 % 4 = i % 4 := by omega
  have h2 : (i % 8 + 1) % 4 = (i + 1) % 4 := by omega
  have h3 : (i % 8 + 2) % 4 = (i + 2) % 4 := by omega
  have h4 : (i % 8 + 3) % 4 = (i + 3) % 4 := by omega
  rw [h1, h2, h3, h4]
  exact ⟨rfl, rfl, rfl, rfl⟩
theorem qrA_mod (i j : Nat) : qrA 0 (i % 8) j = qrA 0 i j := by
  obtain ⟨h1, h2, h3, h4⟩ := qp_mod i
  unfold qrA
  rw [h1, h2, h3, h4]
theorem qt_goA (i : Nat) : goesX noFacts tree [] [] [] [] [] 60 4 qtB (qt0 i) .normal (qt1 i) = true := by
  have h : qtGo (i % 8) = true := List.all_eq_true.1 qt_go _ (List.mem_range.2 (Nat.mod_lt _ (by decide)))
  obtain ⟨h1, h2, h3, h4⟩ := qp_mod i
  have e0 : qt0 (i % 8) = qt0 i := by unfold qt0; rw [h1, h2, h3, h4]
  have e1 : qt1 (i % 8) = qt1 i := by unfold qt1 qtH; rw [show qrA 0 (i % 8) = qrA 0 i from funext (qrA_mod i)]
  unfold qtGo at h
  rw [e0, e1] at h
  exact h
theorem quarter_ok {f : Nat} (hf : tree.get f = some ⟨qtB, [], 126⟩) (i : Nat) {w : World} {cb co tot : Nat} {h : Wd} (hh : OwnAt w .u32 cb co tot 16 h) :
    (∃ fn, Try.prog.funcs[f]? = some fn ∧ fn.body.isSome = true ∧ (fn.name == "runtime.NumGoroutine") = false) ∧
    Calls Try.prog f #[.pointer (some ⟨cb, co, none⟩), .int .i64 (qpa i), .int .i64 (qpb i), .int .i64 (qpc i), .int .i64 (qpd i)] w fun e w' => e = .returned (.tuple #[]) ∧ BelowX cb w w' ∧ OwnAt w' .u32 cb co tot 16 (qI i h) := by
  let pl : Pl := ⟨cb, co, tot⟩
  have hbr : BR h (embF (at1 64 pl)) w ⟨rowC .u32 (nmA 0) 16, 0, true⟩ pl := OwnAt.br hh (by decide) fun j _ => by simp only [nmA, Nat.zero_add, AI.val]
  have start := holdsX_start (N := 126) (ν := h) (L := [(64, pl)]) (fx := [(64, pl)]) (kp := []) (vs := #[.pointer (some ⟨cb, co, none⟩), .int .i64 (qpa i), .int .i64 (qpb i), .int .i64 (qpc i), .int .i64 (qpd i)]) (e0 := (qt0 i).e) (H0 := (qt0 i).H) (n0 := 65) gl0_ok (w := w) (fun p hp => by cases hp) (at1 64 pl) (by show 5 ≤ 126; decide) (by decide)
    (fun b hb => at1_none (by omega))
    (fun p hp => by
      simp only [List.mem_cons, List.not_mem_nil, or_false] at hp
      subst hp
      exact at1_at (by decide))
    (fun p hp => by
      simp only [qt0, List.mem_cons, List.not_mem_nil, or_false] at hp
      rcases hp with rfl | rfl | rfl | rfl | rfl
      · exact ⟨_, rfl, .p 64 0 pl (at1_at (by decide))⟩
      · exact ⟨_, rfl, .i .i64 (nA (qpa i))⟩
      · exact ⟨_, rfl, .i .i64 (nA (qpb i))⟩
      · exact ⟨_, rfl, .i .i64 (nA (qpc i))⟩
      · exact ⟨_, rfl, .i .i64 (nA (qpd i))⟩)
    (fun p hp => by
      simp only [qt0, qtH, List.mem_cons, List.not_mem_nil, or_false] at hp
      subst hp
      exact ⟨show gmax ≤ 64 by decide, _, if_pos rfl, hbr, fun _ => ⟨⟨_, List.mem_cons_self, rfl⟩, (fun q hq => by cases hq), (fun q hq => by cases hq), fun q hq hne => by
        simp only [qt0, qtH, List.mem_cons, List.not_mem_nil, or_false] at hq
        subst hq
        exact (hne rfl).elim⟩⟩)
    (fun p hp => by cases hp)
  refine And.imp id (fun h2 => h2.mono fun e w' ⟨v, he, hv, hB⟩ => ⟨by rw [he, hv], hB⟩) (callsX (L := [(64, pl)]) (gl := []) (Q := fun v w' => v = .tuple #[] ∧ BelowX cb w w' ∧ OwnAt w' .u32 cb co tot 16 (qI i h)) tab_ok hf rfl start ?_)
  refine (Tri.runX (L := [(64, pl)]) (none_f _) mixed tab_ok gl0_ok (fun r hr => by cases hr) (fun r hr => by cases hr) (fun r hr => by cases hr) (fun r hr => by cases hr) (qt_goA i)).weak (fun _ _ h => h) fun ex a w' hz => ⟨.inl hz.1, _, qt1 i, .tp [], [(64, pl)], [], hz.2, by kernel_rfl, fun ρ v hfx hh _ hBel hv => ⟨?_, ⟨hBel.os, hBel.tape, hBel.output, hBel.size, fun k hk hk2 => hBel.block k hk fun p hp => ?_⟩, ?_⟩⟩
  · cases hv
    rename_i vs hs _
    have : vs = #[] := Array.eq_empty_of_size_eq_zero hs.symm
    rw [this]
  · simp only [List.mem_cons, List.not_mem_nil, or_false] at hp
    subst hp
    exact Ne.symm hk2
  · obtain ⟨pl', k1, k2⟩ := hh.blk 64 ⟨rowC .u32 (qrA 0 i) 16, 0, true⟩ (by kernel_rfl)
    have := hfx (64, pl) List.mem_cons_self
    rw [this] at k1
    cases k1
    exact br_own k2 (by decide)
/-- As a row. -/
theorem rowU_q {f : Nat} (hf : tree.get f = some ⟨qtB, [], 126⟩) {ν : Nat → Int} {b i : Nat} {g g' : Nat → AI} (hg : ∀ j, j < 16 → (g' j).val ν = qI i (fun j => (g j).val ν) j) :
    RowU.Ok ν Try.prog [] ⟨f, [.p b 0, iN (qpa i), iN (qpb i), iN (qpc i), iN (qpd i)], [], b, rowC .u32 g 16, rowC .u32 g' 16, []⟩ := by
  refine ⟨?_, fun ρ w vs pl hw hgl hn hap hp hbr hl => ?_⟩
  · obtain ⟨fn, g1, g2⟩ := tab_ok f _ hf
    unfold cFn at g2
    split at g2
    case h_2 => cases g2
    rename_i c hb
    split at g2
    case h_2 => cases g2
    rename_i ic' rs' hic hrs
    split at g2
    case isFalse => cases g2
    rename_i hname
    exact ⟨fn, g1, by rw [hb]; rfl, by simpa using hname⟩
  have hh : OwnAt w .u32 pl.cb pl.co pl.tot 16 (fun j => (g j).val ν) := br_own hbr (by decide)
  have hlen : vs.size = 5 := by rw [← hl.1]; rfl
  obtain ⟨x, y1, y2, y3, y4, rfl⟩ : ∃ x y1 y2 y3 y4, vs = #[x, y1, y2, y3, y4] := by
    match vs, hlen with
    | ⟨[x, y1, y2, y3, y4]⟩, _ => exact ⟨x, y1, y2, y3, y4, rfl⟩
  have hx := hl.2 0 _ x rfl rfl
  have h1 := hl.2 1 _ y1 rfl rfl
  have h2 := hl.2 2 _ y2 rfl rfl
  have h3 := hl.2 3 _ y3 rfl rfl
  have h4 := hl.2 4 _ y4 rfl rfl
  cases h1; cases h2; cases h3; cases h4
  cases hx
  rename_i q hq
  have hq : ρ b = some q := hq
  rw [hp] at hq
  cases hq
  exact (quarter_ok hf i hh).2.mono fun e w' ⟨he, hB, hO⟩ => ⟨[], he, trivial, hB, OwnAt.br hO (by decide) hg⟩
end Go.Proofs.Ytakegcfpbacefaa
