/-
 SUMS: what they are made of, as numbers and as the machine has them; rows of cells, named. Own work.
-/
import Derived.Test.YtheidgcgdkmmiaaDoorTab
import Derived.Test.YtheidgcgdkmmiaaDoorShG3
namespace Go.Proofs.YtheidgcgdkmmiaaDoor
open Go.Sh
open Go.ChangeShapes Go.WideShapes Go.RowKit
set_option maxRecDepth 100000
abbrev Wd := Nat → Int
structure Pr where
 k : IntKind
 bits : Nat
 s0 : Nat × Nat × Nat
 s1 : Nat × Nat × Nat
 g0 : Nat × Nat × Nat
 g1 : Nat × Nat × Nat
 top : Int
def p512 : Pr := ⟨.u64, 64, (1, 8, 7), (19, 61, 6), (28, 34, 39), (14, 18, 41), 18446744073709551615⟩
def nA (n : Nat) : AI := .c (.ofNat n)
section
variable (p : Pr)
def rotA (s : Nat) (x : AI) : AI := .e .or p.k (.e .shl p.k x (nA (p.bits - s))) (.e .shr p.k x (nA s))
def sgA (q : Nat × Nat × Nat) (x : AI) : AI := .e .xor p.k (.e .xor p.k (rotA p q.1 x) (rotA p q.2.1 x)) (.e .shr p.k x (nA q.2.2))
def gtA (q : Nat × Nat × Nat) (x : AI) : AI := .e .xor p.k (.e .xor p.k (rotA p q.1 x) (rotA p q.2.1 x)) (rotA p q.2.2 x)
def adA (x y : AI) : AI := .e .add p.k x y
def rotI (s : Nat) (x : Int) : Int := qaj .or p.k (qaj .shl p.k x ((p.bits - s : Nat) : Int)) (qaj .shr p.k x ((s : Nat) : Int))
def sgI (q : Nat × Nat × Nat) (x : Int) : Int := qaj .xor p.k (qaj .xor p.k (rotI p q.1 x) (rotI p q.2.1 x)) (qaj .shr p.k x ((q.2.2 : Nat) : Int))
def gtI (q : Nat × Nat × Nat) (x : Int) : Int := qaj .xor p.k (qaj .xor p.k (rotI p q.1 x) (rotI p q.2.1 x)) (rotI p q.2.2 x)
def adI (x y : Int) : Int := qaj .add p.k x y
def wA (t b : Nat) : AI := adA p (adA p (adA p (sgA p p.s1 (.s (b + (t - 2)))) (.s (b + (t - 7)))) (sgA p p.s0 (.s (b + (t - 15))))) (.s (b + (t - 16)))
def wI (W : Wd) (t : Nat) : Int := adI p (adI p (adI p (sgI p p.s1 (W (t - 2))) (W (t - 7))) (sgI p p.s0 (W (t - 15)))) (W (t - 16))
def wst (W0 : Wd) : Nat → Wd
 | 0 => W0
 | i + 1 => fun j => if j = 16 + i then wI p (wst W0 i) (16 + i) else wst W0 i j
def t1A (kc : AI) (w v : Nat) : AI := adA p (adA p (adA p (adA p (.s (v + 7)) (gtA p p.g1 (.s (v + 4)))) (.e .xor p.k (.e .and p.k (.s (v + 4)) (.s (v + 5))) (.e .and p.k (.e .xor p.k (.c p.top) (.s (v + 4))) (.s (v + 6))))) kc) (.s w)
def t2A (v : Nat) : AI := adA p (gtA p p.g0 (.s v)) (.e .xor p.k (.e .xor p.k (.e .and p.k (.s v) (.s (v + 1))) (.e .and p.k (.s v) (.s (v + 2)))) (.e .and p.k (.s (v + 1)) (.s (v + 2))))
def rdAS (kc : AI) (w v : Nat) : Nat → AI
 | 0 => adA p (t1A p kc w v) (t2A p v)
 | 1 => .s v
 | 2 => .s (v + 1)
 | 3 => .s (v + 2)
 | 4 => adA p (.s (v + 3)) (t1A p kc w v)
 | 5 => .s (v + 4)
 | 6 => .s (v + 5)
 | _ => .s (v + 6)
def t1I (kc w : Int) (v : Wd) : Int := adI p (adI p (adI p (adI p (v 7) (gtI p p.g1 (v 4))) (qaj .xor p.k (qaj .and p.k (v 4) (v 5)) (qaj .and p.k (qaj .xor p.k p.top (v 4)) (v 6)))) kc) w
def t2I (v : Wd) : Int := adI p (gtI p p.g0 (v 0)) (qaj .xor p.k (qaj .xor p.k (qaj .and p.k (v 0) (v 1)) (qaj .and p.k (v 0) (v 2))) (qaj .and p.k (v 1) (v 2)))
def rdI (kc w : Int) (v : Wd) : Wd
 | 0 => adI p (t1I p kc w v) (t2I p v)
 | 1 => v 0
 | 2 => v 1
 | 3 => v 2
 | 4 => adI p (v 3) (t1I p kc w v)
 | 5 => v 4
 | 6 => v 5
 | _ => v 6
def vst (K W v0 : Wd) : Nat → Wd
 | 0 => v0
 | i + 1 => rdI p (K i) (W i) (vst K W v0 i)
def comp (K W h : Wd) (n : Nat) : Wd := fun j => adI p (h j) (vst p K W h n j)
end
def two (a : Wd) (n : Nat) (b : Wd) : Nat → Int := fun k => if k < n then a k else b (k - n)
theorem qbq {a b : Wd} {n k : Nat} (h : k < n) : two a n b k = a k := if_pos h
theorem two_hi {a b : Wd} {n : Nat} (j : Nat) : two a n b (n + j) = b j := by
 unfold two
 rw [if_neg (by omega), Nat.add_sub_cancel_left]
/-! Rows of cells. -/
def rowC (k : IntKind) (f : Nat → AI) (n : Nat) : List AV := (List.range n).map fun j => AV.i k (f j)
theorem concT_map {ν : Nat → Int} (k : IntKind) : ∀ l : List AI, qai ν (l.map (AV.i k)) = some (l.map fun x => Value.int k (x.val ν))
 | [] => rfl
 | x :: r => by
   have h := concT_map (ν := ν) k r
   simp only [List.map_cons, qai, h, qag, conc1]
theorem concT_row {ν : Nat → Int} (k : IntKind) (f : Nat → AI) (n : Nat) : qai ν (rowC k f n) = some ((List.range n).map fun j => Value.int k ((f j).val ν)) := by
 have := concT_map (ν := ν) k ((List.range n).map f)
 simpa [rowC, Function.comp_def] using this
theorem concL_map {ν : Nat → Int} (k : IntKind) : ∀ l : List AI, qap ν (l.map (AV.i k)) = some (l.map fun x => Value.int k (x.val ν))
 | [] => rfl
 | x :: r => by
   have h := concL_map (ν := ν) k r
   simp only [List.map_cons, qap, h, conc1]
theorem concL_row {ν : Nat → Int} (k : IntKind) (f : Nat → AI) (n : Nat) : qap ν (rowC k f n) = some ((List.range n).map fun j => Value.int k ((f j).val ν)) := by
 have := concL_map (ν := ν) k ((List.range n).map f)
 simpa [rowC, Function.comp_def] using this
def aggI (k : IntKind) (n : Nat) (f : Wd) : Value := .agg ((List.range n).map fun j => Value.int k (f j)).toArray
theorem conc2_row {ν : Nat → Int} (k : IntKind) (f : Nat → AI) (n : Nat) : qag ν (.ag (rowC k f (n + 1))) = some (aggI k (n + 1) fun j => (f j).val ν) := by
 have hc : ∃ r, rowC k f (n + 1) = .i k (f 0) :: r := ⟨_, by unfold rowC; rw [List.range_succ_eq_map]; rfl⟩
 obtain ⟨r, hr⟩ := hc
 have h1 : qag ν (.ag (rowC k f (n + 1))) = (qap ν (rowC k f (n + 1))).map fun vs => .agg vs.toArray := by
  rw [hr]
  rfl
 rw [h1, concL_row]
 rfl
theorem aggI_congr {k : IntKind} {n : Nat} {f g : Wd} (h : ∀ j, j < n → f j = g j) : aggI k n f = aggI k n g := by
 unfold aggI
 congr 2
 exact List.map_congr_left fun j hj => by rw [h j (List.mem_range.1 hj)]
theorem row_get {k : IntKind} {f : Nat → AI} {n j : Nat} {c : AV} (h : (rowC k f n)[j]? = some c) : j < n ∧ c = .i k (f j) := by
 have hj : j < n := by have := (List.getElem?_eq_some_iff.1 h).1; simpa [rowC] using this
 simp [rowC, hj] at h
 exact ⟨hj, h.symm⟩
theorem qaS {ν ν' : Nat → Int} {fx : List (Nat × Pl)} {m : Nat} {vw : Nat → Option Pl} {k : IntKind} {f f' : Nat → AI} {n e : Nat} {o : Bool} (he : e < qac) (h : ∀ j, j < n → (f j).val ν = (f' j).val ν') : BlkTo ν ν' fx m vw ⟨rowC k f n, e, o⟩ ⟨rowC k f' n, e, o⟩ := by
 refine BlkTo.row rfl rfl he (concT_row k f n) ?_
 show qai ν' (rowC k f' n) = _
 rw [concT_row]
 refine congrArg some (List.map_congr_left fun j hj => ?_)
 rw [h j (List.mem_range.1 hj)]
def qaZ (w : World) (k : IntKind) (cb o n : Nat) (m : Wd) : Prop := ∃ C t fz, w.heap[cb]? = some (.cells C t fz) ∧ ∀ j, j < n → C[o + j]? = some (.int k (m j))
theorem qaZ.br {ν : Nat → Int} {ρ : Emb} {w : World} {k : IntKind} {cb o n t e : Nat} {m : Wd} {f : Nat → AI} (h : qaZ w k cb o n m) (he : e < qac) (hf : ∀ j, j < n → (f j).val ν = m j) : BR ν ρ w ⟨rowC k f n, e, false⟩ ⟨cb, o, t⟩ := by
 obtain ⟨C, ty, fz, h1, h2⟩ := h
 refine ⟨fun _ => ⟨C, ty, fz, h1, fun j c hc => ?_, fun ho => by cases ho⟩, fun h => absurd h (Nat.ne_of_lt he), fun h => absurd h (Nat.not_lt_of_lt he)⟩
 obtain ⟨hj, rfl⟩ := row_get hc
 refine ⟨_, h2 j hj, ?_⟩
 rw [← hf j hj]
 exact .i _ _
def OwnAt (w : World) (k : IntKind) (cb co tot n : Nat) (m : Wd) : Prop := ∃ C t, w.heap[cb]? = some (.cells C t (0, 0)) ∧ C.size = tot ∧ ∀ j, j < n → C[co + j]? = some (.int k (m j))
theorem OwnAt.br {ν : Nat → Int} {ρ : Emb} {w : World} {k : IntKind} {cb o n t e : Nat} {m : Wd} {f : Nat → AI} (h : OwnAt w k cb o t n m) (he : e < qac) (hf : ∀ j, j < n → (f j).val ν = m j) : BR ν ρ w ⟨rowC k f n, e, true⟩ ⟨cb, o, t⟩ := by
 obtain ⟨C, ty, h1, h2, h3⟩ := h
 refine ⟨fun _ => ⟨C, ty, (0, 0), h1, fun j c hc => ?_, fun _ => ⟨rfl, h2⟩⟩, fun h => absurd h (Nat.ne_of_lt he), fun h => absurd h (Nat.not_lt_of_lt he)⟩
 obtain ⟨hj, rfl⟩ := row_get hc
 refine ⟨_, h3 j hj, ?_⟩
 rw [← hf j hj]
 exact .i _ _
theorem br_own {ν : Nat → Int} {ρ : Emb} {w : World} {k : IntKind} {n e : Nat} {pl : Pl} {f : Nat → AI} (h : BR ν ρ w ⟨rowC k f n, e, true⟩ pl) (he : e < qac) : OwnAt w k pl.cb pl.co pl.tot n (fun j => (f j).val ν) := by
 obtain ⟨C, ty, fz, h1, h2, h3⟩ := h.cells (Nat.ne_of_lt he)
 obtain ⟨rfl, h4⟩ := h3 rfl
 refine ⟨C, ty, h1, h4, fun j hj => ?_⟩
 obtain ⟨v, g1, g2⟩ := h2 j (.i k (f j)) (by simp [rowC, hj])
 cases g2
 exact g1
theorem renumX {P : Program} {N : Nat} {w0 : World} {ν ν' : Nat → Int} {gl : Gl} {L fx : List (Nat × Pl)} {kp : List (Nat × Obj)} {e e' : List (Nat × AV)} {H H' : List (Nat × ABlk)} {n n' : Nat} {a : Act} {w : World} (hG : GlOk gl) (h : HoldsX N w0 ν gl L fx kp ⟨e, H, n⟩ a w) (hg : gmax ≤ n') (hfx : ∀ p ∈ fx, p.1 < n')
  (he : ∀ p ∈ e', ∃ x, (p.1, x) ∈ e ∧ qaT ν ν' fx n' (fun _ => none) x p.2)
  (hH : ∀ p ∈ H', gmax ≤ p.1 ∧ p.1 < n' ∧ ∃ x, (qam (H ++ gl) n).get p.1 = some x ∧ x.own = p.2.own ∧ BlkTo ν ν' fx n' (fun _ => none) x p.2) : HoldsX N w0 ν' gl L fx kp ⟨e', H', n'⟩ a w :=
 have _ := P
 h.rename hG (fun _ => none) hg (fun _ hp => hp) (fun b pl hv => by cases hv) (fun p hp => .inr ⟨hp, hfx p hp, rfl⟩) he fun p hp => ⟨(hH p hp).1, (hH p hp).2.1, .inr ⟨rfl, (hH p hp).2.2⟩⟩
end Go.Proofs.YtheidgcgdkmmiaaDoor
