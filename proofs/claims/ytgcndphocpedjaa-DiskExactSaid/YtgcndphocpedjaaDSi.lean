/-
  DISKEXACT: an act on both; both at the start. Own work.
-/
import Derived.Test.YtgcndphocpedjaaDSg
import Derived.Test.YtgcndphocpedjaaDSh
namespace Go.Proofs.Ytgcndphocpedjaa
open Go.ChangeShapes Go.WideShapes Go.ChangeAt Go.RowKit Go.Maps Go.Deep
set_option maxRecDepth 100000
attribute [local go_sem ↓] Go.wp_at_zero Go.wp_at_succ
section
variable {w0 w w' : World} {db pb n m : Nat} {d d1 d2 : Dk} {A : PA} {vs vn vw vk : Value} {R Mb : List RowD}
theorem step_all (h : Bx w0 w db pb n m) (hm : m < 100000) (a : Ac) {pb' pk' : Option Addr} {lb cb lk ck : Nat} (hb : a.bv = .slice pb' lb cb) (hk : a.kv = .slice pk' lk ck) (rb : RdV w0 a.bv (a.bs.map (Value.int .u8))) (rk : RdV w0 a.kv (a.ks.map Value.bool)) (hbs : a.bs.length ≤ 1000) (hks : a.ks.length ≤ 1000) (ii : In64 a.i) : Calls Try.prog 11 #[.pointer (some ⟨db, 0, none⟩), .pointer (some ⟨pb, 0, none⟩), a.val] w fun e w' => e = .returned (.bool true) ∧ Bx w0 w' db pb n (m + 1) := by
  obtain ⟨d, A, vs, vn, vw, vk, R, Mb, T⟩ := h
  by_cases n3 : (IntKind.u64.wrap a.d).tmod 8 = 3
  · exact (step_sync T (by omega) a n3 hb hk).mono fun e w' h => ⟨h.1, h.2.more⟩
  by_cases n4 : (IntKind.u64.wrap a.d).tmod 8 = 4
  · exact (step_crash T (by omega) a n4 hb hk rk hks).mono fun e w' h => ⟨h.1, h.2.more⟩
  by_cases n5 : (IntKind.u64.wrap a.d).tmod 8 = 5
  · exact (step_start T a n5 hb hk).mono fun e w' h => ⟨h.1, h.2.more⟩
  by_cases n6 : (IntKind.u64.wrap a.d).tmod 8 = 6
  · exact (step_trip T a n6 hb hk rk hks ii).mono fun e w' h => ⟨h.1, h.2.more⟩
  by_cases n7 : (IntKind.u64.wrap a.d).tmod 8 = 7
  · exact (step_read T (by omega) a n7 hb hk).mono fun e w' h => ⟨h.1, h.2.more⟩
  cases hr : a.raw with
  | true => exact step_write_true T hm a n3 n4 n5 n6 n7 hr hb hk rb hbs
  | false => exact step_write_false T hm a n3 n4 n5 n6 n7 hr hb hk rb hbs
theorem Fam.join {w0 w1 w2 : World} {a b : List RowD} (S : Fam w0 w1 a) (T : Fam w1 w2 b) : Fam w0 w2 (a ++ b) := by
  have S2 := S.step T.below
  refine ⟨S2.below, fun i r h => ?_, fun i j r s hr hs hij => ?_⟩
  · by_cases hi : i < a.length
    · rw [List.getElem?_append_left hi] at h
      exact S2.row i r h
    · rw [List.getElem?_append_right (by omega)] at h
      exact row_lower (T.row _ r h) S.below.size
  · by_cases hi : i < a.length
    · rw [List.getElem?_append_left hi] at hr
      by_cases hj : j < a.length
      · rw [List.getElem?_append_left hj] at hs
        exact S2.apart i j r s hr hs hij
      · rw [List.getElem?_append_right (by omega)] at hs
        intro k h1 h2
        have a1 := (row_base (S.row i r hr) h1).2
        have a2 := (row_base (T.row _ s hs) h2).1
        omega
    · rw [List.getElem?_append_right (by omega)] at hr
      by_cases hj : j < a.length
      · rw [List.getElem?_append_left hj] at hs
        intro k h1 h2
        have a1 := (row_base (T.row _ r hr) h1).1
        have a2 := (row_base (S.row j s hs) h2).2
        omega
      · rw [List.getElem?_append_right (by omega)] at hs
        exact T.apart _ _ r s hr hs (by omega)
theorem both_start {w0 w1 w2 : World} {db pb n : Nat} {vs vn us ut : Value} {sl : List Value} (h1 : 0 < n) (h2 : n ≤ 512) (D : Dsk w0 w1 db n (Dk.fresh n) vs vn (.slice none 0 0) (.slice none 0 0) []) (N : Nw w1 w2 pb n n us ut sl) : Bx w0 w2 db pb n 0 := by
  have P := N.pg h1 h2
  have F := D.fam
  rw [List.append_nil] at F
  exact ⟨Dk.fresh n, _, vs, vn, _, _, _, _, ⟨F.join P.fam, D.ok, P.ok, P.ls, P.s, P.lw, P.w, P.sub⟩, NowInv.fresh n, fun h => absurd h (Nat.lt_irrefl 0), by show (0 : Nat) < _; omega, Nat.le_refl _⟩
theorem Bx.below (h : Bx w0 w db pb n m) : Below w0.heap.size w0 w := by
  obtain ⟨d, A, vs, vn, vw, vk, R, Mb, T⟩ := h
  exact T.mid.fam.below
theorem Bx.same (h : Bx w0 w db pb n m) (hm : m ≤ 100000) : Calls Try.prog 12 #[.pointer (some ⟨db, 0, none⟩), .pointer (some ⟨pb, 0, none⟩)] w fun e w' => e = .returned (.bool true) ∧ Bx w0 w' db pb n m := by
  obtain ⟨d, A, vs, vn, vw, vk, R, Mb, T⟩ := h
  exact (same_ok T hm).mono fun e w' h => ⟨h.1, _, _, _, _, _, _, _, _, h.2⟩
end
end Go.Proofs.Ytgcndphocpedjaa
