/-
  THE PAGE's DISK: Crash, trips, Sync. Own work.
-/
import Derived.Test.YtgcndphocpedjaaDKr
namespace Go.Proofs.Ytgcndphocpedjaa
open Go.ChangeShapes Go.WideShapes Go.ChangeAt Go.RowKit Go.Maps Go.Deep
set_option maxRecDepth 100000
attribute [local go_sem ↓] Go.wp_at_zero Go.wp_at_succ
section
variable {w0 w w' : World} {pb n : Nat} {d : Dk} {A : PA} {Q Mb : List RowD}
theorem Pg.ust (T : Pg w0 w pb n d A Q Mb) {gs cs gt ct : Nat} (e1 : A.us = .slice (some ⟨gs, 0, none⟩) n cs) (e2 : A.ut = .slice (some ⟨gt, 0, none⟩) n ct) : gs ≠ gt ∧ gs ≠ pb ∧ gt ≠ pb := by
  refine ⟨fun e => ?_, fun e => ?_, fun e => ?_⟩
  · subst e
    exact T.fam.apart 1 2 _ _ rfl rfl (by omega) gs (by show A.us.ownBlock = _; rw [e1]; rfl) (by show A.ut.ownBlock = _; rw [e2]; rfl)
  · subst e
    exact T.fam.apart 1 0 _ _ rfl rfl (by omega) gs (by show A.us.ownBlock = _; rw [e1]; rfl) rfl
  · subst e
    exact T.fam.apart 2 0 _ _ rfl rfl (by omega) gt (by show A.ut.ownBlock = _; rw [e2]; rfl) rfl
theorem Pg.wne (T : Pg w0 w pb n d A Q Mb) {g c m : Nat} (e : A.uw = .slice (some ⟨g, 0, none⟩) m c) {gs cs gt ct : Nat} (e1 : A.us = .slice (some ⟨gs, 0, none⟩) n cs) (e2 : A.ut = .slice (some ⟨gt, 0, none⟩) n ct) : gs ≠ g ∧ gt ≠ g := by
  refine ⟨fun h => ?_, fun h => ?_⟩
  · subst h
    exact T.fam.apart 1 3 _ _ rfl rfl (by omega) gs (by show A.us.ownBlock = _; rw [e1]; rfl) (by show A.uw.ownBlock = _; rw [e]; rfl)
  · subst h
    exact T.fam.apart 2 3 _ _ rfl rfl (by omega) gt (by show A.ut.ownBlock = _; rw [e2]; rfl) (by show A.uw.ownBlock = _; rw [e]; rfl)
/-- A write laid in its place, in the order of the page's text. -/
theorem Pg.lay (T : Pg w0 w pb n d A Q Mb) {gs cs gt ct : Nat} (e1 : A.us = .slice (some ⟨gs, 0, none⟩) n cs) (e2 : A.ut = .slice (some ⟨gt, 0, none⟩) n ct) (i : Nat) (hi : i < n) (v : Value) (bs : List Int) (h64 : bs.length = 64) (hq : byteRow v bs ∈ Mb) : Pg w0 ((w.setCell ⟨gs, i, none⟩ v).setCell ⟨gt, i, none⟩ (.bool false)) pb n { d with safe := d.safe.set i (bs, false) } { A with sl := A.sl.set i v } Q Mb := by
  obtain ⟨y, hy⟩ : ∃ y, d.safe[i]? = some y := ⟨_, List.getElem?_eq_getElem (by rw [T.ok.ls]; exact hi)⟩
  have T1 := T.setS e1 i y hy v bs h64 hq
  have T2 := T1.setT (g := gt) (c := ct) e2 i (bs, y.2) (by simp only; rw [List.getElem?_set_self (by rw [T.ok.ls]; exact hi)]) false
  have e : ((d.safe.set i (bs, y.2)).set i (bs, false)) = d.safe.set i (bs, false) := by rw [List.set_set]
  simp only [e] at T2
  exact T2
end
end Go.Proofs.Ytgcndphocpedjaa
