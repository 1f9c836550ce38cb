/-
  STORELASTS: acts on a disk on which a crash may be armed; a row of one's own given up. Own work.
-/
import Derived.Test.YtafpfiadapabaaaDoorSTz
namespace Go.Proofs.YtafpfiadapabaaaDoor
open Go.ChangeShapes Go.WideShapes Go.ChangeAt Go.RowKit Go.Maps Go.Deep
set_option maxRecDepth 100000
attribute [local go_sem ↓] Go.wp_at_zero Go.wp_at_succ
theorem Fam.tail {w0 w : World} {I : RowD} {X : List RowD} (T : Fam w0 w (I :: X)) : Fam w0 w X :=
  T.reidx (fun i => i + 1) (fun i j _ _ h => by omega) (fun i r h => by simpa using h)
/-- A row is given up, and written over. -/
theorem Fam.spoil {w0 w w' : World} {X Y : List RowD} {I : RowD} (T : Fam w0 w (X ++ ([I] ++ Y))) (K : Keeps (fun k => I.v.ownBlock = some k) w w') : Fam w0 w' (X ++ Y) := by
  have T1 : Fam w0 w (I :: (X ++ Y)) := T.swap
  refine T1.tail.keeps K (fun k hk => ((T1.row 0 I rfl).base hk).1) (fun i r hr k hk he => ?_)
  exact T1.apart 0 (i + 1) I r rfl (by simpa using hr) (by omega) k he hk
section
variable {w0 w w' : World} {db n m : Nat} {S : List Int} {off : Bool} {R : List RowD}
theorem Dst.tr (T : Dst w0 w db n S m false R) : Dtr w0 w db n S m R := by
  obtain ⟨d, vs, vn, vw, vk, h0, h1, a, c, T, q1, q2, q3, q4, q5, q6⟩ := T
  exact ⟨d, vs, vn, vw, vk, h0, h1, a, c, T, q1, q2, q3, (by show d.left < 9223372036854775808; omega), q5, q6⟩
theorem Dtr.add (T : Dtr w0 w db n S m R) {r : RowD} (hB : Below w.heap.size w w') (hr : r.Holds w.heap.size w') : Dtr w0 w' db n S m (R ++ [r]) := by
  obtain ⟨d, vs, vn, vw, vk, h0, h1, a, c, T, q⟩ := T
  have F := T.fam.add hB hr
  rw [List.append_assoc] at F
  exact ⟨d, vs, vn, vw, vk, h0, h1, a, c, ⟨F, T.ok⟩, q⟩
theorem Dtr.row (T : Dtr w0 w db n S m R) {r : RowD} (h : r ∈ R) : r.Holds w0.heap.size w := by
  obtain ⟨d, vs, vn, vw, vk, h0, h1, a, c, T, _⟩ := T
  exact T.rowM h
theorem Dtr.spoil {X Y : List RowD} {I : RowD} (T : Dtr w0 w db n S m (X ++ ([I] ++ Y))) (K : Keeps (fun k => I.v.ownBlock = some k) w w') : Dtr w0 w' db n S m (X ++ Y) := by
  obtain ⟨d, vs, vn, vw, vk, h0, h1, a, c, T, q⟩ := T
  have F := T.fam
  rw [← List.append_assoc] at F
  have F2 := F.spoil K
  rw [List.append_assoc] at F2
  exact ⟨d, vs, vn, vw, vk, h0, h1, a, c, ⟨F2, T.ok⟩, q⟩
theorem Dst.spoil {X Y : List RowD} {I : RowD} (T : Dst w0 w db n S m off (X ++ ([I] ++ Y))) (K : Keeps (fun k => I.v.ownBlock = some k) w w') : Dst w0 w' db n S m off (X ++ Y) := by
  obtain ⟨d, vs, vn, vw, vk, h0, h1, a, c, T, q⟩ := T
  have F := T.fam
  rw [← List.append_assoc] at F
  have F2 := F.spoil K
  rw [List.append_assoc] at F2
  exact ⟨d, vs, vn, vw, vk, h0, h1, a, c, ⟨F2, T.ok⟩, q⟩
theorem trip_tr (T : Dtr w0 w db n S m R) (i t : Int) (hi : In64 i) {v : Value} {ks : List Bool} (hv : RdV w0 v (ks.map Value.bool)) (h4 : ks.length ≤ 100000) : Calls Tryd.prog 12 #[.pointer (some ⟨db, 0, none⟩), .int .i64 i, v, .int .i64 t] w fun e w' => e = .returned (.tuple #[]) ∧ Dtr w0 w' db n S m R := by
  obtain ⟨d, vs, vn, vw, vk, h0, h1, a, c, T, q1, q2, q3, q4, q5, q6⟩ := T
  refine (trip_ok T i t (hv.below T.fam.below) (fun h0 k hk he => by have := hv.lt h0 hk; have := T.dbl; omega) h4).mono ?_
  rintro e w' ⟨rfl, vk', T'⟩
  exact ⟨rfl, _, _, _, _, _, h0, h1, a, c, T', q1, q2, q3, by unfold In64 at hi; show i.toNat < 9223372036854775808; omega, q5, q6⟩
theorem trip_none (T : Dtr w0 w db n S m R) : Calls Tryd.prog 12 #[.pointer (some ⟨db, 0, none⟩), .int .i64 0, .slice none 0 0, .int .i64 0] w fun e w' => e = .returned (.tuple #[]) ∧ Dst w0 w' db n S m false R := by
  obtain ⟨d, vs, vn, vw, vk, h0, h1, a, c, T, q1, q2, q3, q4, q5, q6⟩ := T
  refine (trip_ok T 0 0 (ks := []) ⟨none, 0, rfl, .inl rfl⟩ (fun h => absurd rfl h) (by simp)).mono ?_
  rintro e w' ⟨rfl, vk', T'⟩
  exact ⟨rfl, _, _, _, _, _, h0, h1, a, c, T', q1, q2, q3, rfl, q5, q6⟩
theorem crash_tr (T : Dtr w0 w db n S m R) : Calls Tryd.prog 20 #[.pointer (some ⟨db, 0, none⟩), .slice none 0 0, .int .i64 (-1)] w fun e w' => e = .returned (.tuple #[]) ∧ Dst w0 w' db n S m true R := by
  obtain ⟨d, vs, vn, vw, vk, h0, h1, a, c, T, q1, q2, q3, q4, q5, q6⟩ := T
  refine (crash_on T q1 (-1) (ks := []) ⟨none, 0, rfl, .inl rfl⟩ (fun h => absurd rfl h)).mono ?_
  rintro e w' ⟨rfl, T'⟩
  have e1 : (d.crash [] (-1)).now = d.now := by
    show crs [] (-1) d.wr d.safe d.wr.length = d.now
    rw [q2, q3]
    rfl
  exact ⟨rfl, d.crash [] (-1), _, _, _, _, h0, h1, a, c, T', rfl, rfl, rfl, rfl, by rw [e1]; exact q5, q6⟩
theorem open_tr (T : Dtr w0 w db n S m R) (hn : 300 ≤ n) : Calls Tryd.prog 10 #[.pointer (some ⟨db, 0, none⟩)] w fun e w' => ∃ sb v, e = .returned (.tuple #[.pointer (some ⟨sb, 0, none⟩), .int .i64 0]) ∧ Below w.heap.size w w' ∧ Dtr w0 w' db n S m (R ++ [byteRow v S, stRow sb db v]) := by
  obtain ⟨d, vs, vn, vw, vk, h0, h1, a, c, T, q1, q2, q3, q4, q5, q6⟩ := T
  refine (open_ok T hn q5 q1).mono ?_
  rintro e w' ⟨sb, v, rfl, hB, T'⟩
  exact ⟨sb, v, rfl, hB, d, vs, vn, vw, vk, h0, h1, a, c, T', q1, q2, q3, q4, q5, q6⟩
theorem off_st (T : Dst w0 w db n S m off R) : Calls Tryd.prog 18 #[.pointer (some ⟨db, 0, none⟩)] w fun e w' => e = .returned (.bool off) ∧ w' = w := by
  obtain ⟨d, vs, vn, vw, vk, h0, h1, a, c, T, q1, _⟩ := T
  refine (off_ok T).mono ?_
  rintro e w' ⟨rfl, rfl⟩
  exact ⟨by rw [q1], rfl⟩
theorem Dtr.size (T : Dtr w0 w db n S m R) : S.length ≤ 8000 := by
  obtain ⟨d, vs, vn, vw, vk, h0, h1, a, c, T, q1, q2, q3, q4, q5, q6⟩ := T
  exact q5.size.1
theorem save_tri {A : List RowD} {I : RowD} (T : Dtr w0 w db n S m (A ++ [I])) (hg : w0.cell? ⟨0, 0, none⟩ = some eTy) (hn : 300 ≤ n) {S' : List Int} (hS : S'.length ≤ 8000) (hm : m < 50000) {v : Value} (hv : Stays w0 db n (A ++ [I]) v (S'.map (Value.int .u8))) (hcap : ∀ p n c, v = .slice p n c → n ≤ c) {sb : Nat} {vst : Value} (hs : stRow sb db vst ∈ A) : Calls Tryd.prog 14 #[.pointer (some ⟨sb, 0, none⟩), v] w fun e w' => (e = .returned (.int .i64 0) ∧ ∃ A' v', Dtr w0 w' db n S' (m + 1) (A' ++ ([I] ++ [byteRow v' S'])) ∧ stRow sb db v' ∈ A' ∧ ∀ x ∈ A, x ≠ stRow sb db vst → x ∈ A') ∨ (e = .returned (.int .i64 9) ∧ ∃ Z, (Z = S ∨ Z = S') ∧ Dst w0 w' db n Z (m + 1) true (A ++ ([I] ++ []))) := by
  obtain ⟨d, vs, vn, vw, vk, h0, h1, a, c, T, q1, q2, q3, q4, q5, q6⟩ := T
  obtain ⟨k, hk⟩ := List.getElem?_of_mem hs
  have hkl := (List.getElem?_eq_some_iff.1 hk).1
  refine (Save_okp T hg hn q5 ⟨q1, q2, q3⟩ hS (by omega) q4.out hv hcap (k := k) (by rw [List.getElem?_append_left hkl]; exact hk)).mono ?_
  rintro e w' ⟨ok, d', vs', vn', vw', vk', hsv, h1, h2⟩
  cases ok with
  | false =>
    obtain ⟨rfl, T'⟩ := h2 rfl
    obtain ⟨_, G, hH⟩ := hsv
    refine .inr ⟨rfl, ?_⟩
    rcases hH with ⟨k0, k1, H⟩ | ⟨k0, k1, H⟩
    · exact ⟨S, .inl rfl, d', _, _, _, _, k0, k1, _, _, T', G.off, G.wr, G.eq, G.left, H, by omega⟩
    · exact ⟨S', .inr rfl, d', _, _, _, _, k0, k1, _, _, T', G.off, G.wr, G.eq, G.left, H, by omega⟩
  | true =>
    obtain ⟨rfl, v', T', _⟩ := h1 rfl
    obtain ⟨Q, ⟨k0, k1, H⟩, _, hl⟩ := hsv
    rw [List.append_assoc, List.set_append_left _ _ hkl] at T'
    refine .inl ⟨rfl, A.set k (stRow sb db v'), v', ⟨d', _, _, _, _, k0, k1, _, _, T', Q.off, Q.wr, Q.eq, hl, H, by omega⟩, List.mem_set hkl _, fun x hx hne => ?_⟩
    obtain ⟨i, hi⟩ := List.getElem?_of_mem hx
    have hik : k ≠ i := fun e => by subst e; rw [hi] at hk; exact hne (Option.some.inj hk)
    exact List.mem_of_getElem? (by rw [List.getElem?_set_ne hik]; exact hi)
end
end Go.Proofs.YtafpfiadapabaaaDoor
