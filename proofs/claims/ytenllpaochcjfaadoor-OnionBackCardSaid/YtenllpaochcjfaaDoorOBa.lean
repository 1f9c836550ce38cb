/-
  ONION: layers on lists; a term made, by letters; what opens. Own work.
-/
import Derived.Test.YtenllpaochcjfaaDoorSQb
import Derived.Test.YtenllpaochcjfaaDoorTZ
namespace Go.Proofs.YtenllpaochcjfaaDoor
open Go.RowKit Go.Maps
set_option maxRecDepth 100000
/-- A term made. -/
structure MkT (L : List Tm) (t : Tm) (i : Nat) (L' : List Tm) : Prop where
  put : put L t = ((i : Int), 0, L')
  at' : L'[i]? = some t
  keep : ∀ (j : Nat) (u : Tm), L[j]? = some u → L'[j]? = some u
  le : L.length ≤ L'.length
  le1 : L'.length ≤ L.length + 1
theorem mk_ex {L : List Tm} {t : Tm} (h : shape t = 0) (hf : fitsIn L.length t) (hr : L.length < 1048576) : ∃ i L', MkT L t i L' := by
  exact ⟨plc L t, ext L t, put_good h hf hr, plc_at L t, fun j u hu => ext_at hu t, ext_le L t, ext_le1 L t⟩
theorem MkT.lt {L L' : List Tm} {t : Tm} {i : Nat} (M : MkT L t i L') : i < L'.length := (List.getElem?_eq_some_iff.1 M.at').1
theorem sh_atom (n : Int) (h : 0 ≤ n) : shape (1, n, []) = 0 := by
  unfold shape rightOf leastOf mostOf
  simp
  omega
theorem sh_word (n : Int) (h : 0 ≤ n) : shape (2, n, []) = 0 := by
  unfold shape rightOf leastOf mostOf
  simp
  omega
theorem sh_kdf (n x : Int) (h : 0 ≤ n) : shape (4, n, [x]) = 0 := by
  unfold shape rightOf leastOf mostOf
  simp
  omega
theorem sh_pub (x : Int) : shape (5, 0, [x]) = 0 := by
  unfold shape rightOf leastOf mostOf
  simp
theorem sh_seal (x : Int) (xs : List Int) (h : xs.length ≤ 300) : shape (6, 0, x :: xs) = 0 := by
  unfold shape rightOf leastOf mostOf
  simp
  omega
theorem sh_box (x y : Int) (zs : List Int) (h : zs.length ≤ 300) : shape (7, 0, x :: y :: zs) = 0 := by
  unfold shape rightOf leastOf mostOf
  simp
  omega
theorem sh_list (xs : List Int) (h : xs.length ≤ 300) : shape (9, 0, xs) = 0 := by
  unfold shape rightOf leastOf mostOf
  simp
  omega
theorem same_at {L : List Tm} {x : Nat} {s t : Tm} (h1 : L[x]? = some s) (h2 : L[x]? = some t) : s = t := Option.some.inj (h1.symm.trans h2)
theorem at_lt {L : List Tm} {x : Nat} {t : Tm} (h : L[x]? = some t) : x < L.length := (List.getElem?_eq_some_iff.1 h).1
theorem tmAt_of {L : List Tm} {q : Nat} {t : Tm} (h : L[q]? = some t) : tmAt L q = t ∧ inL L q := by
  obtain ⟨hq, he⟩ := List.getElem?_eq_some_iff.1 h
  exact ⟨(tmAt_nat hq).trans he, by unfold inL; omega⟩
theorem inL_of {L : List Tm} {q : Nat} (h : q < L.length) : inL L q := by unfold inL; omega
section
variable {L L' : List Tm} {x p s other k : Nat} {e : Int} {zs ys : List Int}
theorem unbox_ye (h1 : L[x]? = some (7, 0, (p : Int) :: e :: zs)) (h2 : L[p]? = some (5, 0, [(s : Int)])) (hs : s < L.length) : unboxOf L x s = (zs, 0) := by
  have a1 := tmAt_of h1
  have a2 := tmAt_of h2
  unfold unboxOf
  rw [if_neg (fun h => h ⟨a1.2, inL_of hs⟩), a1.1, if_neg (by simp)]
  simp only [arg0, List.getD_cons_zero]
  rw [a2.1, if_neg (by simp)]
  rfl
theorem unbox_ne (h1 : L[x]? = some (7, 0, (p : Int) :: e :: zs)) (h2 : L[p]? = some (5, 0, [(s : Int)])) (ho : other < L.length) (hne : other ≠ s) : unboxOf L x other = ([], 3) := by
  have a1 := tmAt_of h1
  have a2 := tmAt_of h2
  unfold unboxOf
  rw [if_neg (fun h => h ⟨a1.2, inL_of ho⟩), a1.1, if_neg (by simp)]
  simp only [arg0, List.getD_cons_zero]
  rw [a2.1, if_pos]
  right
  simp
  omega
theorem open_ye (h1 : L[x]? = some (6, 0, (k : Int) :: ys)) (hk : k < L.length) : openOf L x k = (ys, 0) := by
  have a1 := tmAt_of h1
  unfold openOf
  rw [if_neg (fun h => h ⟨a1.2, inL_of hk⟩), a1.1, if_neg (by simp)]
  simp [arg0]
end
/-- The layers from the r-th server on: what is within them, and the keys. -/
inductive Lay (L : List Tm) (ps : List Int) (sec pay : Nat) : Nat → Nat → List Int → Prop
  | base : Lay L ps sec pay 3 pay []
  | step (r i : Nat) (ks : List Int) (k e b p : Nat) : Lay L ps sec pay (r + 1) i ks → L[k]? = some (4, 50 + (r : Int), [(sec : Int)]) → L[e]? = some (4, 60 + (r : Int), [(sec : Int)]) → ps[r]? = some (p : Int) → L[b]? = some (7, 0, [(p : Int), (e : Int), (i : Int), (k : Int)]) → Lay L ps sec pay r b ((k : Int) :: ks)
theorem Lay.keep {L L' : List Tm} {ps : List Int} {sec pay r i : Nat} {ks : List Int} (h : Lay L ps sec pay r i ks) (hm : ∀ (j : Nat) (u : Tm), L[j]? = some u → L'[j]? = some u) : Lay L' ps sec pay r i ks := by
  induction h with
  | base => exact .base
  | step r i ks k e b p _ h1 h2 h3 h4 ih => exact .step r i ks k e b p ih (hm _ _ h1) (hm _ _ h2) h3 (hm _ _ h4)
theorem Lay.lt {L : List Tm} {ps : List Int} {sec pay r i : Nat} {ks : List Int} (h : Lay L ps sec pay r i ks) (hp : pay < L.length) : i < L.length := by
  cases h with
  | base => exact hp
  | step r i ks k e b p _ h1 h2 h3 h4 => exact at_lt h4
theorem Lay.le {L : List Tm} {ps : List Int} {sec pay r i : Nat} {ks : List Int} (h : Lay L ps sec pay r i ks) : r ≤ 3 ∧ ks.length = 3 - r := by
  induction h with
  | base => exact ⟨Nat.le_refl _, rfl⟩
  | step r i ks k e b p _ h1 h2 h3 h4 ih => exact ⟨by omega, by rw [List.length_cons, ih.2]; omega⟩
theorem Lay.three {L : List Tm} {ps : List Int} {sec pay o : Nat} {ks : List Int} (h : Lay L ps sec pay 0 o ks) : ∃ k0 e0 p0 b1 k1 e1 p1 b2 k2 e2 p2 : Nat, ks = [(k0 : Int), (k1 : Int), (k2 : Int)] ∧ L[o]? = some (7, 0, [(p0 : Int), (e0 : Int), (b1 : Int), (k0 : Int)]) ∧ L[b1]? = some (7, 0, [(p1 : Int), (e1 : Int), (b2 : Int), (k1 : Int)]) ∧ L[b2]? = some (7, 0, [(p2 : Int), (e2 : Int), (pay : Int), (k2 : Int)]) ∧ ps[0]? = some (p0 : Int) ∧ ps[1]? = some (p1 : Int) ∧ ps[2]? = some (p2 : Int) ∧ L[k0]? = some (4, 50, [(sec : Int)]) ∧ L[k1]? = some (4, 51, [(sec : Int)]) ∧ L[k2]? = some (4, 52, [(sec : Int)]) := by
  cases h with
  | step _ i ks k e b p h0 h1 h2 h3 h4 =>
    cases h0 with
    | step _ i' ks k' e' b' p' h0' h1' h2' h3' h4' =>
      cases h0' with
      | step _ i'' ks k'' e'' b'' p'' h0'' h1'' h2'' h3'' h4'' =>
        cases h0'' with
        | base => exact ⟨k, e, p, i, k', e', p', i', k'', e'', p'', rfl, h4, h4', h4'', h3, h3', h3'', h1, h1', h1''⟩
        | step _ i3 ks3 k3 e3 b3 p3 h03 h13 h23 h33 h43 => have := h03.le; omega
section
variable {w wr w' : World} {aa : Nat} {L : List Tm} {G : Nat → Prop}
theorem unbox_on (T : On w wr aa L G) (i k : Int) {zs : List Int} {s : Int} (ho : unboxOf L i k = (zs, s)) : Calls Tryd.prog 35 #[.pointer (some ⟨aa, 0, none⟩), .int .i64 i, .int .i64 k] wr fun e w' => ∃ p c, e = .returned (.tuple #[.slice p zs.length c, .int .i64 s]) ∧ w'.ownsRow wr.heap.size 3 1 (.slice p zs.length c) zs.length (zs.map (Value.int .i64)) ∧ Below wr.heap.size wr w' := by
  obtain ⟨Fa, A, r, r2⟩ := T.ex
  refine (unbox_ok A i k).mono ?_
  intro e w' h
  rw [ho] at h
  obtain ⟨p, c, rfl, h1, h2⟩ := h
  exact ⟨p, c, rfl, h1, h2⟩
theorem open_on (T : On w wr aa L G) (i k : Int) {zs : List Int} {s : Int} (ho : openOf L i k = (zs, s)) : Calls Tryd.prog 38 #[.pointer (some ⟨aa, 0, none⟩), .int .i64 i, .int .i64 k] wr fun e w' => ∃ p c, e = .returned (.tuple #[.slice p zs.length c, .int .i64 s]) ∧ w'.ownsRow wr.heap.size 3 1 (.slice p zs.length c) zs.length (zs.map (Value.int .i64)) ∧ Below wr.heap.size wr w' := by
  obtain ⟨Fa, A, r, r2⟩ := T.ex
  refine (open_ok A i k).mono ?_
  intro e w' h
  rw [ho] at h
  obtain ⟨p, c, rfl, h1, h2⟩ := h
  exact ⟨p, c, rfl, h1, h2⟩
end
end Go.Proofs.YtenllpaochcjfaaDoor
