/-
  poly: carries, as a row; what a piece adds, what times makes. Own work.
-/
import Derived.Test.YtbdihdncnpajgaaBa
namespace Go.Proofs.Ytbdihdncnpajgaa
open Go.Sh
open Go.ChangeShapes Go.WideShapes Go.ChangeAt Go.RowKit
set_option maxRecDepth 100000

def eA (op : BinOp) (k : IntKind) (x y : AI) : AI := mkE noFacts op k x y
def cA (k : IntKind) (x : AI) : AI := mkW noFacts k x
theorem eA_val {ν : Nat → Int} {op : BinOp} {k : IntKind} {x y : AI} : (eA op k x y).val ν = arith op k (x.val ν) (y.val ν) := mkE_val (none_f ν) op k x y
theorem cA_val {ν : Nat → Int} {k : IntKind} {x : AI} : (cA k x).val ν = k.wrap (x.val ν) := mkW_val (none_f ν) k x
/-- Five parts. -/
structure L5 (α : Type) where
  a : α
  b : α
  c : α
  d : α
  e : α
def L5.at {α : Type} (l : L5 α) : Nat → α
  | 0 => l.a
  | 1 => l.b
  | 2 => l.c
  | 3 => l.d
  | _ => l.e
def L5.of {α : Type} (g : Nat → α) : L5 α := ⟨g 0, g 1, g 2, g 3, g 4⟩
def rndA (l : L5 AI) : L5 AI :=
  let t1 := eA .add .u64 l.b (eA .shr .u64 l.a (nA 26))
  let t2 := eA .add .u64 l.c (eA .shr .u64 t1 (nA 26))
  let t3 := eA .add .u64 l.d (eA .shr .u64 t2 (nA 26))
  let t4 := eA .add .u64 l.e (eA .shr .u64 t3 (nA 26))
  ⟨eA .add .u64 (eA .and .u64 l.a (nA 67108863)) (eA .mul .u64 (nA 5) (eA .shr .u64 t4 (nA 26))), eA .and .u64 t1 (nA 67108863), eA .and .u64 t2 (nA 67108863), eA .and .u64 t3 (nA 67108863), eA .and .u64 t4 (nA 67108863)⟩
def endA (q : L5 AI) : L5 AI := ⟨eA .and .u64 q.a (nA 67108863), eA .add .u64 q.b (eA .shr .u64 q.a (nA 26)), q.c, q.d, q.e⟩
def stA (g : Nat → AI) (j : Nat) : AI := (endA (rndA (rndA (L5.of g)))).at j
def rndI (l : L5 Int) : L5 Int :=
  let t1 := arith .add .u64 l.b (arith .shr .u64 l.a ((26 : Nat) : Int))
  let t2 := arith .add .u64 l.c (arith .shr .u64 t1 ((26 : Nat) : Int))
  let t3 := arith .add .u64 l.d (arith .shr .u64 t2 ((26 : Nat) : Int))
  let t4 := arith .add .u64 l.e (arith .shr .u64 t3 ((26 : Nat) : Int))
  ⟨arith .add .u64 (arith .and .u64 l.a ((67108863 : Nat) : Int)) (arith .mul .u64 ((5 : Nat) : Int) (arith .shr .u64 t4 ((26 : Nat) : Int))), arith .and .u64 t1 ((67108863 : Nat) : Int), arith .and .u64 t2 ((67108863 : Nat) : Int), arith .and .u64 t3 ((67108863 : Nat) : Int), arith .and .u64 t4 ((67108863 : Nat) : Int)⟩
def endI (q : L5 Int) : L5 Int := ⟨arith .and .u64 q.a ((67108863 : Nat) : Int), arith .add .u64 q.b (arith .shr .u64 q.a ((26 : Nat) : Int)), q.c, q.d, q.e⟩
def stI (v : Wd) (j : Nat) : Int := (endI (rndI (rndI (L5.of v)))).at j
def L5.v (ν : Nat → Int) (l : L5 AI) : L5 Int := ⟨l.a.val ν, l.b.val ν, l.c.val ν, l.d.val ν, l.e.val ν⟩
theorem rndA_v {ν : Nat → Int} {l : L5 AI} : (rndA l).v ν = rndI (l.v ν) := by
  simp only [rndA, rndI, L5.v, eA_val, nA_val]
theorem endA_v {ν : Nat → Int} {l : L5 AI} : (endA l).v ν = endI (l.v ν) := by
  simp only [endA, endI, L5.v, eA_val, nA_val]
theorem at_v {ν : Nat → Int} {l : L5 AI} (j : Nat) : (l.at j).val ν = (l.v ν).at j := by
  unfold L5.at
  split <;> rfl
theorem stA_val {ν : Nat → Int} {g : Nat → AI} (j : Nat) : (stA g j).val ν = stI (fun j => (g j).val ν) j := by
  show ((endA (rndA (rndA (L5.of g)))).at j).val ν = _
  rw [at_v, endA_v, rndA_v, rndA_v]
  rfl
/-! as a row -/
def e5 : Nat := 38
def stB : IC := t17.body
theorem st_shape : t17 = ⟨stB, [], 72⟩ := by kernel_rfl
def stH (g : Nat → AI) : List (Nat × ABlk) := [(64, ⟨rowC .u64 g 5, 0, true⟩)]
def st0 : Now := ⟨[(0, .p 64 0)], stH (nmA 0), 65⟩
def st1 : Now := ⟨[], stH (stA (nmA 0)), 65⟩
theorem st_go : goesX noFacts tree [] [] [] [] [] 60 4 stB st0 .normal st1 = true := by kernel_rfl
theorem fn_there {f : Nat} {g : IFn} (hf : tree.get f = some g) : ∃ fn, Try.prog.funcs[f]? = some fn ∧ fn.body.isSome = true ∧ (fn.name == "runtime.NumGoroutine") = false := by
  obtain ⟨fn, g1, g2⟩ := tab_ok f _ hf
  unfold cFn at g2
  split at g2
  case h_2 => cases g2
  rename_i c hb
  split at g2
  case h_2 => cases g2
  rename_i ic' rs' hic hrs
  split at g2
  case isFalse => cases g2
  rename_i hname
  exact ⟨fn, g1, by rw [hb]; rfl, by simpa using hname⟩
theorem settle_ok {w : World} {cb co tot : Nat} {h : Wd} (hh : OwnAt w .u64 cb co tot 5 h) :
    Calls Try.prog 17 #[.pointer (some ⟨cb, co, none⟩)] w fun e w' => e = .returned (.tuple #[]) ∧ BelowX cb w w' ∧ OwnAt w' .u64 cb co tot 5 (stI h) := by
  let pl : Pl := ⟨cb, co, tot⟩
  have hbr : BR h (embF (at1 64 pl)) w ⟨rowC .u64 (nmA 0) 5, 0, true⟩ pl := OwnAt.br hh (by decide) fun j _ => by simp only [nmA, Nat.zero_add, AI.val]
  have start := holdsX_start (N := 72) (ν := h) (L := [(64, pl)]) (fx := [(64, pl)]) (kp := []) (vs := #[.pointer (some ⟨cb, co, none⟩)]) (e0 := st0.e) (H0 := st0.H) (n0 := 65) gl0_ok (w := w) (fun p hp => by cases hp) (at1 64 pl) (by show 1 ≤ 72; decide) (by decide)
    (fun b hb => at1_none (by omega))
    (fun p hp => by
      simp only [List.mem_cons, List.not_mem_nil, or_false] at hp
      subst hp
      exact at1_at (by decide))
    (fun p hp => by
      simp only [st0, List.mem_cons, List.not_mem_nil, or_false] at hp
      subst hp
      exact ⟨_, rfl, .p 64 0 pl (at1_at (by decide))⟩)
    (fun p hp => by
      simp only [st0, stH, List.mem_cons, List.not_mem_nil, or_false] at hp
      subst hp
      exact ⟨show gmax ≤ 64 by decide, _, if_pos rfl, hbr, fun _ => ⟨⟨_, List.mem_cons_self, rfl⟩, (fun q hq => by cases hq), (fun q hq => by cases hq), fun q hq hne => by
        simp only [st0, stH, List.mem_cons, List.not_mem_nil, or_false] at hq
        subst hq
        exact (hne rfl).elim⟩⟩)
    (fun p hp => by cases hp)
  refine (callsX (L := [(64, pl)]) (gl := []) (Q := fun v w' => v = .tuple #[] ∧ BelowX cb w w' ∧ OwnAt w' .u64 cb co tot 5 (stI h)) tab_ok (by kernel_rfl) st_shape start ?_).2.mono fun e w' ⟨v, he, hv, hB⟩ => ⟨by rw [he, hv], hB⟩
  refine (Tri.runX (L := [(64, pl)]) (none_f _) mixed tab_ok gl0_ok (fun r hr => by cases hr) (fun r hr => by cases hr) (fun r hr => by cases hr) (fun r hr => by cases hr) st_go).weak (fun _ _ h => h) fun ex a w' hz => ⟨.inl hz.1, _, st1, .tp [], [(64, pl)], [], hz.2, by kernel_rfl, fun ρ v hfx hh _ hBel hv => ⟨?_, ⟨hBel.os, hBel.tape, hBel.output, hBel.size, fun k hk hk2 => hBel.block k hk fun p hp => ?_⟩, ?_⟩⟩
  · cases hv
    rename_i vs hs _
    have : vs = #[] := Array.eq_empty_of_size_eq_zero hs.symm
    rw [this]
  · simp only [List.mem_cons, List.not_mem_nil, or_false] at hp
    subst hp
    exact Ne.symm hk2
  · obtain ⟨pl', k1, k2⟩ := hh.blk 64 ⟨rowC .u64 (stA (nmA 0)) 5, 0, true⟩ (by kernel_rfl)
    have := hfx (64, pl) List.mem_cons_self
    rw [this] at k1
    cases k1
    have e : (fun j => (stA (nmA 0) j).val h) = stI h := by
      funext j
      rw [stA_val]
      simp only [nmA, Nat.zero_add, AI.val]
    rw [← e]
    exact br_own k2 (by decide)
/-- As a row. -/
def rowSt (b : Nat) (g g' : Nat → AI) : RowU := ⟨17, [.p b 0], [], b, rowC .u64 g 5, rowC .u64 g' 5, []⟩
theorem rowSt_ok {ν : Nat → Int} {b : Nat} {g g' : Nat → AI} (hg : ∀ j, j < 5 → (g' j).val ν = stI (fun j => (g j).val ν) j) : (rowSt b g g').Ok ν Try.prog [] := by
  refine ⟨fn_there (g := ⟨stB, [], 72⟩) (by kernel_rfl), fun ρ w vs pl hw hgl hn hap hp hbr hl => ?_⟩
  have hh : OwnAt w .u64 pl.cb pl.co pl.tot 5 (fun j => (g j).val ν) := br_own hbr (by decide)
  obtain ⟨x, rfl, hx⟩ := one_arg hl
  cases hx
  rename_i q hq
  have hq : ρ b = some q := hq
  have hp : ρ b = some pl := hp
  rw [hp] at hq
  cases hq
  exact (settle_ok hh).mono fun e w' ⟨he, hB, hO⟩ => ⟨[], he, trivial, hB, OwnAt.br hO (by decide) hg⟩
end Go.Proofs.Ytbdihdncnpajgaa
