/-
  BOTH DISKS beside each other. Own work.
-/
import Derived.Test.YtgcndphocpedjaaDKx
namespace Go.Proofs.Ytgcndphocpedjaa
open Go.ChangeShapes Go.WideShapes Go.ChangeAt Go.RowKit Go.Maps Go.Deep
set_option maxRecDepth 100000
attribute [local go_sem ↓] Go.wp_at_zero Go.wp_at_succ
theorem Fam.swap {w0 w : World} {a b c : List RowD} (T : Fam w0 w (a ++ (b ++ c))) : Fam w0 w (b ++ (a ++ c)) := by
  refine T.reidx (fun i => if i < b.length then a.length + i else if i < b.length + a.length then i - b.length else i) ?_ ?_
  · intro i j _ _ h
    split at h <;> split at h <;> (try split at h) <;> (try split at h) <;> omega
  · intro i r hr
    split
    · rename_i hi
      rw [List.getElem?_append_left hi] at hr
      rw [List.getElem?_append_right (by omega), Nat.add_sub_cancel_left, List.getElem?_append_left hi]
      exact hr
    · rename_i hi
      rw [List.getElem?_append_right (by omega)] at hr
      split
      · rename_i hj
        rw [List.getElem?_append_left (by omega)] at hr
        rw [List.getElem?_append_left (by omega)]
        exact hr
      · rename_i hj
        rw [List.getElem?_append_right (by omega)] at hr
        rw [List.getElem?_append_right (by omega), List.getElem?_append_right (by omega)]
        rw [show i - a.length - b.length = i - b.length - a.length by omega]
        exact hr
structure Mid (w0 w : World) (db pb n : Nat) (d1 d2 : Dk) (A : PA) (vs vn vw vk : Value) (R Mb : List RowD) : Prop where
  fam : Fam w0 w (d1.rows db vs vn vw vk ++ (A.rows pb d2 ++ R))
  ok1 : d1.Ok n
  ok2 : d2.Ok n
  ls : A.sl.length = d2.safe.length
  s : ∀ (i : Nat) (y : Sec), d2.safe[i]? = some y → ∃ v, A.sl[i]? = some v ∧ byteRow v y.1 ∈ Mb
  lw : A.wl.length = d2.wr.length
  w : ∀ (k : Nat) (x : Wri), d2.wr[k]? = some x → ∃ v, A.wl[k]? = some (x.1, v) ∧ byteRow v x.2 ∈ Mb
  sub : ∀ r ∈ Mb, r ∈ R
section
variable {w0 w w' : World} {db pb n : Nat} {d1 d2 d' : Dk} {A A' : PA} {vs vn vw vk us un uw uk : Value} {R Mb Mc : List RowD}
theorem Mid.step (T : Mid w0 w db pb n d1 d2 A vs vn vw vk R Mb) (hB : Below w.heap.size w w') : Mid w0 w' db pb n d1 d2 A vs vn vw vk R Mb := ⟨T.fam.step hB, T.ok1, T.ok2, T.ls, T.s, T.lw, T.w, T.sub⟩
theorem Mid.dsk (T : Mid w0 w db pb n d1 d2 A vs vn vw vk R Mb) : Dsk w0 w db n d1 vs vn vw vk (A.rows pb d2 ++ R) := ⟨T.fam, T.ok1⟩
theorem Mid.ofDsk (T : Mid w0 w db pb n d1 d2 A vs vn vw vk R Mb) (h : Dsk w0 w' db n d' us un uw uk (A.rows pb d2 ++ R)) : Mid w0 w' db pb n d' d2 A us un uw uk R Mb := ⟨h.fam, h.ok, T.ok2, T.ls, T.s, T.lw, T.w, T.sub⟩
theorem Mid.ofDskR (T : Mid w0 w db pb n d1 d2 A vs vn vw vk R Mb) {r : List RowD} (h : Dsk w0 w' db n d' us un uw uk (A.rows pb d2 ++ R ++ r)) : Mid w0 w' db pb n d' d2 A us un uw uk (R ++ r) Mb := by
  have F := h.fam
  rw [List.append_assoc] at F
  exact ⟨F, h.ok, T.ok2, T.ls, T.s, T.lw, T.w, fun r hr => List.mem_append_left _ (T.sub r hr)⟩
theorem Mid.pg (T : Mid w0 w db pb n d1 d2 A vs vn vw vk R Mb) : Pg w0 w pb n d2 A (d1.rows db vs vn vw vk ++ R) Mb :=
  ⟨T.fam.swap, T.ok2, T.ls, T.s, T.lw, T.w, fun r hr => List.mem_append_right _ (T.sub r hr)⟩
/-- The page's disk, whatever else its number keeps. -/
theorem Pg.as (T : Pg w0 w pb n d1 A R Mb) (h1 : d2.safe = d1.safe) (h2 : d2.wr = d1.wr) (h3 : d2.off = d1.off) (h4 : d2.left = d1.left) (ok : d2.Ok n) : Pg w0 w pb n d2 A R Mb := by
  have e : A.rows pb d2 = A.rows pb d1 := by unfold PA.rows; rw [h1, h3, h4]
  exact ⟨by rw [e]; exact T.fam, ok, by rw [h1]; exact T.ls, by rw [h1]; exact T.s, by rw [h2]; exact T.lw, by rw [h2]; exact T.w, T.sub⟩
theorem Mid.ofPg (T : Mid w0 w db pb n d1 d2 A vs vn vw vk R Mb) (h : Pg w0 w' pb n d' A' (d1.rows db vs vn vw vk ++ R) Mb) : Mid w0 w' db pb n d1 d' A' vs vn vw vk R Mb :=
  ⟨h.fam.swap, T.ok1, h.ok, h.ls, h.s, h.lw, h.w, T.sub⟩
theorem Mid.ofPgR (T : Mid w0 w db pb n d1 d2 A vs vn vw vk R Mb) {r : List RowD} (h : Pg w0 w' pb n d' A' (d1.rows db vs vn vw vk ++ R ++ r) (Mb ++ r)) : Mid w0 w' db pb n d1 d' A' vs vn vw vk (R ++ r) (Mb ++ r) := by
  have F := h.fam
  rw [List.append_assoc] at F
  exact ⟨F.swap, T.ok1, h.ok, h.ls, h.s, h.lw, h.w, fun r hr => by
    rcases List.mem_append.1 hr with h | h
    · exact List.mem_append_left _ (T.sub r h)
    · exact List.mem_append_right _ h⟩
theorem Mid.add (T : Mid w0 w db pb n d1 d2 A vs vn vw vk R Mb) {r : RowD} (hB : Below w.heap.size w w') (hr : w'.ownsRow w.heap.size r.e r.size r.v r.n r.xs) : Mid w0 w' db pb n d1 d2 A vs vn vw vk (R ++ [r]) Mb := by
  have F := T.fam.add hB hr
  rw [List.append_assoc, List.append_assoc] at F
  exact ⟨F, T.ok1, T.ok2, T.ls, T.s, T.lw, T.w, fun r hr => List.mem_append_left _ (T.sub r hr)⟩
theorem Mid.row (T : Mid w0 w db pb n d1 d2 A vs vn vw vk R Mb) {r : RowD} (h : r ∈ R) : w.ownsRow w0.heap.size r.e r.size r.v r.n r.xs := T.pg.row (List.mem_append_right _ h)
end
/-- Both hold the same. -/
structure Bt (w0 w : World) (db pb n m : Nat) (d : Dk) (A : PA) (vs vn vw vk : Value) (R Mb : List RowD) : Prop where
  mid : Mid w0 w db pb n d d A vs vn vw vk R Mb
  now : NowInv d
  arm : 0 < d.left → A.pk = d.keep ∧ A.pt = d.torn
  small : Small d.left
  len : d.wr.length ≤ m
def Bx (w0 w : World) (db pb n m : Nat) : Prop := ∃ d A vs vn vw vk R Mb, Bt w0 w db pb n m d A vs vn vw vk R Mb
end Go.Proofs.Ytgcndphocpedjaa
