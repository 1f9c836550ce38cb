/-
  LAYER 25: what is wanted when a body has been put. Own work.
-/
import Derived.Test.YtcpcnjblojoppaaLXu
namespace Go.Proofs.Ytcpcnjblojoppaa
open Go.ChangeShapes Go.WideShapes Go.ChangeAt Go.RowKit Go.Maps
set_option maxRecDepth 100000
theorem want_fresh {S T : List Lg} {cl : Nat} {seq body : Int} (hF : FreshL S cl body T) (hh : HadOf S cl (seq - 1)) (hcl : cl < 8) (h4 : T.length ≤ 1000) {zs : List Int} (hz : HaveR T T.length zs) {w : World} {v u : Value} (hl : Logs w v T) (hu : RdW w u (zs.set cl (seq - 1))) : Calls Try.prog 22 #[v, u] w fun e w' => e = .returned (.tuple #[.agg #[.int .i64 cl, .int .i64 seq, .int .i64 body], .bool true]) ∧ Below w.heap.size w w' := by
  obtain ⟨j, t, ht, htc, hpos, hlast⟩ := hF.last
  have hT : HadOf T cl seq := by
    have := hF.had _ _ hh
    rwa [if_pos rfl, Int.sub_add_cancel] at this
  have ht2 : HadOf T cl (t.b + t.xs.length) := .inl ⟨t, List.mem_of_getElem? ht, htc, rfl⟩
  have hseq : t.b + t.xs.length = seq := ht2.same hF.right hT
  have hlen : zs.length = 8 := hz.len
  have hat : hadOf t (zs.set cl (seq - 1)) = seq - 1 := by
    unfold hadOf
    rw [htc, Int.toNat_natCast, List.getD_eq_getElem?_getD, List.getElem?_set_self (by omega)]
    rfl
  have hit : hitL t (zs.set cl (seq - 1)) := by
    unfold hitL
    rw [hat]
    omega
  have hno : ∀ (k : Nat) (x : Lg), T[k]? = some x → k < j → ¬ hitL x (zs.set cl (seq - 1)) := by
    intro k x hx hk hhit
    have hup := right_up hF.right hx ht hk
    have hxc := (right_ok' hF.right hx).1
    have hne : cl ≠ x.c.toNat := by omega
    have hv := hz.yes k x hx (List.getElem?_eq_some_iff.1 hx).1
    unfold hitL hadOf at hhit
    rw [List.getD_eq_getElem?_getD, List.getElem?_set_ne hne, ← List.getD_eq_getElem?_getD, hv] at hhit
    omega
  refine (want_hit hl h4 hF.right hu (by rw [List.length_set]; exact hlen) ht hit hno).mono ?_
  rintro e w' ⟨rfl, hB⟩
  rw [hat, htc]
  have e1 : (seq - 1 - t.b).toNat = t.xs.length - 1 := by omega
  rw [e1, hlast, Int.sub_add_cancel]
  exact ⟨rfl, hB⟩
end Go.Proofs.Ytcpcnjblojoppaa
