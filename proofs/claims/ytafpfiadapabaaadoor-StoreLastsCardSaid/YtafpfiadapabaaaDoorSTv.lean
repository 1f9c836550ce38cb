/-
  STORE: Save, where each row lies then; two disks beside one another. Own work.
-/
import Derived.Test.YtafpfiadapabaaaDoorSTt
namespace Go.Proofs.YtafpfiadapabaaaDoor
open Go.ChangeShapes Go.WideShapes Go.ChangeAt Go.RowKit Go.Maps Go.Deep
set_option maxRecDepth 100000
attribute [local go_sem ↓] Go.wp_at_zero Go.wp_at_succ
section
variable {w0 w w' : World} {db n : Nat} {d : Dk} {vs vn vw vk : Value} {R : List RowD}
theorem Dsk.setStp (T : Dsk w0 w db n d vs vn vw vk R) {sb k : Nat} {v v' : Value} (hk : R[k]? = some (stRow sb db v)) : Dsk w0 (w.setCell ⟨sb, 1, none⟩ v') db n d vs vn vw vk (R.set k (stRow sb db v')) := by
  have r1 : w.ownsRow w0.heap.size 64 2 (.slice (some ⟨sb, 0, none⟩) 1 1) 1 [.pointer (some ⟨db, 0, none⟩), v] := T.rowR (r := stRow sb db v) hk
  obtain ⟨hr, hg⟩ := World.ownsRow.stored r1 1 v'
  have F := T.fam.put (5 + k) (r := stRow sb db v) (r' := stRow sb db v') (by rw [List.getElem?_append_right (by simp [Dk.rows])]; simpa [Dk.rows] using hk) hg hr (fun k hk => .inl hk)
  have e : (d.rows db vs vn vw vk ++ R).set (5 + k) (stRow sb db v') = d.rows db vs vn vw vk ++ R.set k (stRow sb db v') := by
    rw [List.set_append_right _ _ (by simp [Dk.rows])]
    simp [Dk.rows]
  rw [e] at F
  exact ⟨F, T.ok⟩
set_option maxHeartbeats 8000000 in
theorem Save_okp (T : Dsk w0 w db n d vs vn vw vk R) (hg : w0.cell? ⟨0, 0, none⟩ = some eTy) (hn : 300 ≤ n) {S S' : List Int} {h0 h1 : Hds} {a c : Nat} (H : Held d.now S h0 h1 a c) (Q : Quiet d) (hS : S'.length ≤ 8000) (hc : c + 1 < 60000) (hm : d.left < 9223372036854775808) {v : Value} (hv : Stays w0 db n R v (S'.map (Value.int .u8))) (hcap : ∀ p n c, v = .slice p n c → n ≤ c) {sb : Nat} {vst : Value} {k : Nat} (hsk : R[k]? = some (stRow sb db vst)) : Calls Tryd.prog 14 #[.pointer (some ⟨sb, 0, none⟩), v] w fun e w' => ∃ (ok : Bool) (d' : Dk) (vs' vn' vw' vk' : Value), Saved S S' a c d d' ok ∧ (ok = true → e = .returned (.int .i64 0) ∧ ∃ v', Dsk w0 w' db n d' vs' vn' vw' vk' ((R ++ [byteRow v' S']).set k (stRow sb db v')) ∧ ∀ x ∈ R, Sep v' x.v) ∧ (ok = false → e = .returned (.int .i64 9) ∧ Dsk w0 w' db n d' vs' vn' vw' vk' R) := by
  have hs : stRow sb db vst ∈ R := List.mem_of_getElem? hsk
  obtain ⟨c0, c1, f1⟩ := T.st0 hs
  have hoff := Q.off
  have hlI : ¬ (8000 : Int) < (S'.length : Int) := by omega
  have hne : ∀ x ∈ R, x ≠ stRow sb db vst → x ∈ R := fun x hx _ => hx
  have HS := (show Hid _ from fun w1 (B : Below w.heap.size w w1) => save_ok (T.step B) hn H Q hS hc hm hv hcap)
  obtain ⟨p, cp, rfl⟩ := rdv_shape (hv _ _ _ _ _ _ T)
  rw [List.length_map] at HS ⊢
  have HM := (show Hid _ from hm)
  clear hm hne
  go_enter Tryd.func14, Tryd.ntmps14
  go_wp2_with (go_at_call 18; refine (off_ok T).mono ?_; rintro ev w1 ⟨rfl, rfl⟩; rw [hoff])
  refine (HS.out _ (Below.refl _ _)).mono ?_
  rintro ev w2 ⟨d2, vs2, vn2, vw2, vk2, T2, ok, E, hE, rfl, hsv⟩
  have HSV : Hid (Saved S S' a c d d2 ok) := hsv
  have hc2 : w2.cell? ⟨0, 0, none⟩ = some eTy := (T2.fam.below.cell (p := ⟨0, 0, none⟩) (cell_lt hg)).trans hg
  have HE := (show Hid _ from hE)
  have HC := (show Hid _ from hc2)
  obtain ⟨te, ue, rfl⟩ : ∃ t u, E = .iface t u := by
    rcases hE with ⟨b, rfl⟩ | ⟨b, b', rfl⟩
    · exact ⟨_, _, rfl⟩
    · exact ⟨_, _, rfl⟩
  clear hsv hE hc2 HS hg
  have hnn := neq_nil
  cases ok with
  | false =>
    simp only [Bool.false_eq_true, if_false]
    go_at_K
    go_wp2_with (go_at_call 24; refine (num_err HE.out HC.out).mono ?_; rintro ev w3 ⟨rfl, B3⟩)
    go_ret
    exact ⟨false, d2, vs2, vn2, vw2, vk2, HSV.out, fun h => absurd h (by decide), fun _ => ⟨rfl, T2.step B3⟩⟩
  | true =>
    simp only [if_true]
    go_at_K
    have RV := hv _ _ _ _ _ _ T2
    have HRV : Hid (RdV w2 (.slice p S'.length cp) (S'.map (Value.int .u8))) := by rw [List.length_map] at RV; exact RV
    clear RV
    obtain ⟨d0, d1, g1⟩ := T2.st0 hs
    go_wp2_with (go_at_call 27; refine (cloneB_ok HRV.out (by simp; omega) (one_map _ (fun _ => rfl) _)).mono ?_; rintro ev w4 ⟨v4, rfl, hr4, B4⟩
                 obtain ⟨p4, c4, rfl⟩ := row_slice hr4
                 have T4 := T2.step B4
                 obtain ⟨e0, e1, g4⟩ := T4.st0 hs)
    go_ret
    have hr5 : w4.ownsRow w2.heap.size 5 1 (.slice p4 S'.length c4) S'.length (S'.map (Value.int .u8)) := by simpa using hr4
    have F5 := T2.fam.add (r := byteRow (.slice p4 S'.length c4) S') B4 hr5
    rw [List.append_assoc] at F5
    have T5 : Dsk w0 w4 db n d2 vs2 vn2 vw2 vk2 (R ++ [byteRow (.slice p4 S'.length c4) S']) := ⟨F5, T2.ok⟩
    have T6 := T5.setStp (v' := .slice p4 S'.length c4) (k := k) (by rw [List.getElem?_append_left (List.getElem?_eq_some_iff.1 hsk).1]; exact hsk)
    exact ⟨true, d2, vs2, vn2, vw2, vk2, HSV.out, fun _ => ⟨rfl, _, T6, fun x hx q hq hq2 => by
      have g1 := (row_base hr5 hq).1
      have g2 := ((T2.rowM hx).base hq2).2
      omega⟩, fun h => absurd h (by decide)⟩
end
theorem Fam.swap {w0 w : World} {a b c : List RowD} (T : Fam w0 w (a ++ (b ++ c))) : Fam w0 w (b ++ (a ++ c)) := by
  refine T.reidx (fun i => if i < b.length then a.length + i else if i < b.length + a.length then i - b.length else i) ?_ ?_
  · intro i j _ _ h
    split at h <;> split at h <;> (try split at h) <;> (try split at h) <;> omega
  · intro i r hr
    split
    · rename_i hi
      rw [List.getElem?_append_left hi] at hr
      rw [List.getElem?_append_right (by omega), Nat.add_sub_cancel_left, List.getElem?_append_left hi]
      exact hr
    · rename_i hi
      rw [List.getElem?_append_right (by omega)] at hr
      split
      · rename_i hj
        rw [List.getElem?_append_left (by omega)] at hr
        rw [List.getElem?_append_left (by omega)]
        exact hr
      · rename_i hj
        rw [List.getElem?_append_right (by omega)] at hr
        rw [List.getElem?_append_right (by omega), List.getElem?_append_right (by omega)]
        rw [show i - a.length - b.length = i - b.length - a.length by omega]
        exact hr
theorem Fam.join {w0 w1 w2 : World} {a b : List RowD} (S : Fam w0 w1 a) (T : Fam w1 w2 b) : Fam w0 w2 (a ++ b) := by
  have S2 := S.step T.below
  refine ⟨S2.below, fun i r h => ?_, fun i j r s hr hs hij => ?_⟩
  · by_cases hi : i < a.length
    · rw [List.getElem?_append_left hi] at h
      exact S2.row i r h
    · rw [List.getElem?_append_right (by omega)] at h
      exact (T.row _ r h).lower S.below.size
  · by_cases hi : i < a.length
    · rw [List.getElem?_append_left hi] at hr
      by_cases hj : j < a.length
      · rw [List.getElem?_append_left hj] at hs
        exact S2.apart i j r s hr hs hij
      · rw [List.getElem?_append_right (by omega)] at hs
        intro k h1 h2
        have a1 := ((S.row i r hr).base h1).2
        have a2 := ((T.row _ s hs).base h2).1
        omega
    · rw [List.getElem?_append_right (by omega)] at hr
      by_cases hj : j < a.length
      · rw [List.getElem?_append_left hj] at hs
        intro k h1 h2
        have a1 := ((T.row _ r hr).base h1).1
        have a2 := ((S.row j s hs).base h2).2
        omega
      · rw [List.getElem?_append_right (by omega)] at hs
        exact T.apart _ _ r s hr hs (by omega)
/-- A disk on which a state lies, as a thing of lists. -/
def Lies (d : Dk) (n : Nat) (S : List Int) (m : Nat) : Prop := d.Ok n ∧ d.off = false ∧ d.wr = [] ∧ d.now = d.safe ∧ d.left = 0 ∧ ∃ h0 h1 a c, Held d.now S h0 h1 a c ∧ c ≤ m
/-- Two disks. -/
def Two (w0 w : World) (cb db : Nat) (Sc Sd : List Int) (m : Nat) (M : List RowD) : Prop := ∃ c d cs cn cw ck ds dn dw dk, Fam w0 w (Dk.rows c cb cs cn cw ck ++ (Dk.rows d db ds dn dw dk ++ M)) ∧ Lies c 512 Sc m ∧ Lies d 512 Sd m
section
variable {w0 w w' : World} {cb db m : Nat} {Sc Sd : List Int} {M : List RowD}
theorem Two.swap (T : Two w0 w cb db Sc Sd m M) : Two w0 w db cb Sd Sc m M := by
  obtain ⟨c, d, cs, cn, cw, ck, ds, dn, dw, dk, F, l1, l2⟩ := T
  exact ⟨d, c, ds, dn, dw, dk, cs, cn, cw, ck, F.swap, l2, l1⟩
theorem Two.step (T : Two w0 w cb db Sc Sd m M) (hB : Below w.heap.size w w') : Two w0 w' cb db Sc Sd m M := by
  obtain ⟨c, d, cs, cn, cw, ck, ds, dn, dw, dk, F, l⟩ := T
  exact ⟨c, d, cs, cn, cw, ck, ds, dn, dw, dk, F.step hB, l⟩
theorem Two.below (T : Two w0 w cb db Sc Sd m M) : Below w0.heap.size w0 w := by
  obtain ⟨c, d, cs, cn, cw, ck, ds, dn, dw, dk, F, l⟩ := T
  exact F.below
theorem Lies.more {d : Dk} {n : Nat} {S : List Int} {m m' : Nat} (h : Lies d n S m) (hm : m ≤ m') : Lies d n S m' := by
  obtain ⟨a1, a2, a3, a4, a5, h0, h1, a, c, a6, a7⟩ := h
  exact ⟨a1, a2, a3, a4, a5, h0, h1, a, c, a6, by omega⟩
theorem Two.more (T : Two w0 w cb db Sc Sd m M) {m' : Nat} (hm : m ≤ m') : Two w0 w cb db Sc Sd m' M := by
  obtain ⟨c, d, cs, cn, cw, ck, ds, dn, dw, dk, F, l1, l2⟩ := T
  exact ⟨c, d, cs, cn, cw, ck, ds, dn, dw, dk, F, l1.more hm, l2.more hm⟩
theorem Two.add (T : Two w0 w cb db Sc Sd m M) {r : RowD} (hB : Below w.heap.size w w') (hr : r.Holds w.heap.size w') : Two w0 w' cb db Sc Sd m (M ++ [r]) := by
  obtain ⟨c, d, cs, cn, cw, ck, ds, dn, dw, dk, F, l⟩ := T
  have F2 := F.add hB hr
  rw [List.append_assoc, List.append_assoc] at F2
  exact ⟨c, d, cs, cn, cw, ck, ds, dn, dw, dk, F2, l⟩
theorem Two.rdv (T : Two w0 w cb db Sc Sd m M) {v : Value} {l : List Int} (h : byteRow v l ∈ M) : RdV w v (l.map (Value.int .u8)) := by
  obtain ⟨c, d, cs, cn, cw, ck, ds, dn, dw, dk, F, l1, l2⟩ := T
  exact (Stays.mem (w0 := w0) (db := cb) (n := 512) (R := Dk.rows d db ds dn dw dk ++ M) (List.mem_append.2 (.inr h))) w c cs cn cw ck ⟨F, l1.1⟩
theorem two_start {w0 w1 w2 : World} {vs vn us un : Value} (C : Dsk w0 w1 cb 512 (Dk.fresh 512) vs vn (.slice none 0 0) (.slice none 0 0) []) (D : Dsk w1 w2 db 512 (Dk.fresh 512) us un (.slice none 0 0) (.slice none 0 0) []) : Two w0 w2 cb db [] [] 0 [] := by
  have F := C.fam
  rw [List.append_nil] at F
  have L : Lies (Dk.fresh 512) 512 [] 0 := ⟨C.ok, rfl, rfl, rfl, rfl, _, _, _, _, held_fresh 512 (by omega), Nat.le_refl _⟩
  exact ⟨_, _, _, _, _, _, _, _, _, _, F.join D.fam, L, L⟩
theorem open_two (T : Two w0 w cb db Sc Sd m M) : Calls Tryd.prog 10 #[.pointer (some ⟨cb, 0, none⟩)] w fun e w' => ∃ sb v, e = .returned (.tuple #[.pointer (some ⟨sb, 0, none⟩), .int .i64 0]) ∧ Two w0 w' cb db Sc Sd m (M ++ [byteRow v Sc, stRow sb cb v]) := by
  obtain ⟨c, d, cs, cn, cw, ck, ds, dn, dw, dk, F, l1, l2⟩ := T
  obtain ⟨a1, a2, a3, a4, a5, h0, h1, a, e, a6, a7⟩ := id l1
  have T : Dsk w0 w cb 512 c cs cn cw ck (Dk.rows d db ds dn dw dk ++ M) := ⟨F, a1⟩
  refine (open_ok T (by omega) a6 a2).mono ?_
  rintro ev w' ⟨sb, v, rfl, hB, T'⟩
  have F' := T'.fam
  rw [List.append_assoc] at F'
  exact ⟨sb, v, rfl, c, d, cs, cn, cw, ck, ds, dn, dw, dk, F', l1, l2⟩
theorem state_two (T : Two w0 w cb db Sc Sd m M) {S1 : List Int} {sb : Nat} {v : Value} (hs : stRow sb cb v ∈ M) (hb : byteRow v S1 ∈ M) (hS : S1.length ≤ 8000) : Calls Tryd.prog 17 #[.pointer (some ⟨sb, 0, none⟩)] w fun e w' => ∃ u, e = .returned u ∧ Below w.heap.size w w' ∧ w'.ownsRow w.heap.size 5 1 u S1.length (S1.map (Value.int .u8)) := by
  obtain ⟨c, d, cs, cn, cw, ck, ds, dn, dw, dk, F, l1, l2⟩ := T
  exact state_ok (d := c) ⟨F, l1.1⟩ (List.mem_append.2 (.inr hs)) (List.mem_append.2 (.inr hb)) hS
theorem save_two (T : Two w0 w cb db Sc Sd m M) (hg : w0.cell? ⟨0, 0, none⟩ = some eTy) {S' : List Int} (hS : S'.length ≤ 8000) (hm : m < 50000) {v : Value} (hv : RdV w0 v (S'.map (Value.int .u8))) (hcap : ∀ p n c, v = .slice p n c → n ≤ c) {sb : Nat} {vst : Value} (hs : stRow sb cb vst ∈ M) : Calls Tryd.prog 14 #[.pointer (some ⟨sb, 0, none⟩), v] w fun e w' => e = .returned (.int .i64 0) ∧ ∃ M' v', Two w0 w' cb db S' Sd (m + 1) M' ∧ stRow sb cb v' ∈ M' ∧ byteRow v' S' ∈ M' ∧ ∀ x ∈ M, x ≠ stRow sb cb vst → x ∈ M' := by
  obtain ⟨c, d, cs, cn, cw, ck, ds, dn, dw, dk, F, l1, l2⟩ := T
  obtain ⟨a1, a2, a3, a4, a5, h0, h1, a, e, a6, a7⟩ := id l1
  obtain ⟨k, hk⟩ := List.getElem?_of_mem hs
  have hkl := (List.getElem?_eq_some_iff.1 hk).1
  have T : Dsk w0 w cb 512 c cs cn cw ck (Dk.rows d db ds dn dw dk ++ M) := ⟨F, a1⟩
  have hk5 : (Dk.rows d db ds dn dw dk ++ M)[5 + k]? = some (stRow sb cb vst) := by
    rw [List.getElem?_append_right (by simp [Dk.rows])]
    simpa [Dk.rows] using hk
  refine (Save_okp T hg (by omega) a6 ⟨a2, a3, a4⟩ hS (by omega) (by omega) (Stays.old hv) hcap hk5).mono ?_
  rintro ev w' ⟨ok, c', cs', cn', cw', ck', hsv, h1, h2⟩
  cases ok with
  | false => exact absurd a5 hsv.1
  | true =>
    obtain ⟨rfl, v', T', _⟩ := h1 rfl
    obtain ⟨Q, ⟨k0, k1, H⟩, hl, _⟩ := hsv
    have F' := T'.fam
    have e1 : ((Dk.rows d db ds dn dw dk ++ M) ++ [byteRow v' S']).set (5 + k) (stRow sb cb v') = Dk.rows d db ds dn dw dk ++ (M ++ [byteRow v' S']).set k (stRow sb cb v') := by
      rw [List.append_assoc, List.set_append_right _ _ (by simp [Dk.rows])]
      simp [Dk.rows]
    rw [e1] at F'
    have hmem : ∀ x ∈ M ++ [byteRow v' S'], x ≠ stRow sb cb vst → x ∈ (M ++ [byteRow v' S']).set k (stRow sb cb v') := fun x hx hne => by
      obtain ⟨i, hi⟩ := List.getElem?_of_mem hx
      have hik : k ≠ i := fun e => by
        subst e
        rw [List.getElem?_append_left hkl, hk] at hi
        exact hne (Option.some.inj hi).symm
      exact List.mem_of_getElem? (by rw [List.getElem?_set_ne hik]; exact hi)
    exact ⟨rfl, _, v', ⟨c', d, _, _, _, _, ds, dn, dw, dk, F', ⟨T'.ok, Q.off, Q.wr, Q.eq, hl a5, k0, k1, _, _, H, by omega⟩, l2.more (by omega)⟩, List.mem_set (by simp; omega) _, hmem _ (List.mem_append.2 (.inr (List.mem_singleton.2 rfl))) ne_st, fun x hx hne => hmem x (List.mem_append.2 (.inl hx)) hne⟩
end
end Go.Proofs.YtafpfiadapabaaaDoor
