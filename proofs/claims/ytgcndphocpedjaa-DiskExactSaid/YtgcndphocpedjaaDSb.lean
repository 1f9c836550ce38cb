/-
  DISKEXACT: an act on both: Crash, Start, Trip. Own work.
-/
import Derived.Test.YtgcndphocpedjaaDSa
namespace Go.Proofs.Ytgcndphocpedjaa
open Go.ChangeShapes Go.WideShapes Go.ChangeAt Go.RowKit Go.Maps Go.Deep
set_option maxRecDepth 100000
attribute [local go_sem ↓] Go.wp_at_zero Go.wp_at_succ
section
variable {w0 w w' : World} {db pb n m : Nat} {d d1 d2 : Dk} {A : PA} {vs vn vw vk : Value} {R Mb Mc : List RowD}
/-- The last row given up, whatever became of it. -/
theorem Fam.drop {rs : List RowD} {r : RowD} (T : Fam w0 w (rs ++ [r])) (hK : Keeps (fun k => r.v.ownBlock = some k) w w') : Fam w0 w' rs := by
  have hl : (rs ++ [r])[rs.length]? = some r := by rw [List.getElem?_append_right (Nat.le_refl _)]; simp
  refine T.init.keeps hK (fun k hk => (row_base (T.row _ _ hl) hk).1) (fun i s hs k hk he => ?_)
  have hi := (List.getElem?_eq_some_iff.1 hs).1
  exact T.apart i rs.length s r (by rw [List.getElem?_append_left hi]; exact hs) hl (by omega) k hk he
theorem Mid.drop {r : RowD} (T : Mid w0 w db pb n d1 d2 A vs vn vw vk (R ++ [r]) Mb) (hsub : ∀ r ∈ Mb, r ∈ R) (hK : Keeps (fun k => r.v.ownBlock = some k) w w') : Mid w0 w' db pb n d1 d2 A vs vn vw vk R Mb := by
  have F := T.fam
  rw [← List.append_assoc, ← List.append_assoc] at F
  have F2 := F.drop hK
  rw [List.append_assoc] at F2
  exact ⟨F2, T.ok1, T.ok2, T.ls, T.s, T.lw, T.w, hsub⟩
def actRow (h : Nat) (ad ai : Int) (bv : Value) (ar : Bool) (kv : Value) (at' : Int) : RowD := ⟨35, 6, .slice (some ⟨h, 0, none⟩) 1 1, 1, [.int .i64 ad, .int .i64 ai, bv, .bool ar, kv, .int .i64 at']⟩
theorem Mid.act {ad ai at' : Int} {bv kv : Value} {ar : Bool} (T : Mid w0 w db pb n d1 d2 A vs vn vw vk R Mb) : Mid w0 (w.alloc (.cells #[.int .i64 ad, .int .i64 ai, bv, .bool ar, kv, .int .i64 at'] 35)) db pb n d1 d2 A vs vn vw vk (R ++ [actRow w.heap.size ad ai bv ar kv at']) Mb :=
  T.add (r := actRow w.heap.size ad ai bv ar kv at') ((Below.refl _ w).alloc (Nat.le_refl _) _) (World.ownsRow_lit (base := w.heap.size) (e := 35) (size := 6) w #[.int .i64 ad, .int .i64 ai, bv, .bool ar, kv, .int .i64 at'] 1 (Nat.le_refl _) (by decide) rfl)
theorem Mid.acells {h : Nat} {ad ai at' : Int} {bv kv : Value} {ar : Bool} (T : Mid w0 w db pb n d1 d2 A vs vn vw vk R Mb) (hm : actRow h ad ai bv ar kv at' ∈ R) : w.cell? ⟨h, 0, none⟩ = some (.int .i64 ad) ∧ w.cell? ⟨h, 1, none⟩ = some (.int .i64 ai) ∧ w.cell? ⟨h, 2, none⟩ = some bv ∧ w.cell? ⟨h, 3, none⟩ = some (.bool ar) ∧ w.cell? ⟨h, 4, none⟩ = some kv ∧ w.cell? ⟨h, 5, none⟩ = some (.int .i64 at') := by
  have r : w.ownsRow w0.heap.size 35 6 (.slice (some ⟨h, 0, none⟩) 1 1) 1 [.int .i64 ad, .int .i64 ai, bv, .bool ar, kv, .int .i64 at'] := T.row hm
  exact ⟨World.ownsRow.cellAt r 0 (by omega), World.ownsRow.cellAt r 1 (by omega), World.ownsRow.cellAt r 2 (by omega), World.ownsRow.cellAt r 3 (by omega), World.ownsRow.cellAt r 4 (by omega), World.ownsRow.cellAt r 5 (by omega)⟩
set_option maxHeartbeats 8000000 in
theorem step_start (T : Bt w0 w db pb n m d A vs vn vw vk R Mb) (a : Ac) (hu : (IntKind.u64.wrap a.d).tmod 8 = 5) {pb' pk' : Option Addr} {lb cb lk ck : Nat} (hb : a.bv = .slice pb' lb cb) (hk : a.kv = .slice pk' lk ck) : Calls Try.prog 11 #[.pointer (some ⟨db, 0, none⟩), .pointer (some ⟨pb, 0, none⟩), a.val] w fun e w' => e = .returned (.bool true) ∧ Bx w0 w' db pb n m := by
  have M0 := T.mid.step ((Below.refl _ w).alloc (Nat.le_refl _) a.obj)
  obtain ⟨ad, ai, abv, abs, ar, akv, aks, at'⟩ := a
  simp only at hu hb hk
  subst hb hk
  unfold Ac.val
  simp only [Ac.obj] at M0
  go_enter Try.func11, Try.ntmps11
  go_wp2_with (go_at_call 17; refine (start_ok M0.dsk).mono ?_; rintro ev w1 ⟨rfl, D1⟩
               have M1 := M0.ofDsk D1
               clear D1
               have c3 := M1.pg.c3
               have z3 := M1.pg.z 3
               have M2 := M1.ofPg ((M1.pg.down false).as (d2 := { d with off := false }) rfl rfl rfl rfl M1.ok1))
  go_ret
  exact ⟨by simp, _, _, _, _, _, _, _, _, M2, T.now, T.arm, T.small, T.len⟩
set_option maxHeartbeats 8000000 in
theorem step_crash (T : Bt w0 w db pb n m d A vs vn vw vk R Mb) (hm : m ≤ 100000) (a : Ac) (hu : (IntKind.u64.wrap a.d).tmod 8 = 4) {pb' pk' : Option Addr} {lb cb lk ck : Nat} (hb : a.bv = .slice pb' lb cb) (hk : a.kv = .slice pk' lk ck) (rk : RdV w0 a.kv (a.ks.map Value.bool)) (hks : a.ks.length ≤ 1000) : Calls Try.prog 11 #[.pointer (some ⟨db, 0, none⟩), .pointer (some ⟨pb, 0, none⟩), a.val] w fun e w' => e = .returned (.bool true) ∧ Bx w0 w' db pb n m := by
  have hlen := T.len
  obtain ⟨ad, ai, abv, abs, ar, akv, aks, at'⟩ := a
  simp only at hu hb hk rk hks
  subst hb hk
  unfold Ac.val
  have M0 := T.mid.act (ad := ad) (ai := ai) (bv := .slice pb' lb cb) (ar := ar) (kv := .slice pk' lk ck) (at' := at')
  have rk0 := rk.below M0.fam.below
  have HK := (show Hid (RdV w0 (.slice pk' lk ck) (aks.map Value.bool)) from rk)
  by_cases ho : d.off = true
  · go_enter Try.func11, Try.ntmps11
    go_wp2_with (first
      | (go_at_call 23; refine (twinL_ok rk0 (by simpa using hks) (one_map _ (fun _ => rfl) _)).mono ?_; rintro ev w1 ⟨v7, rfl, hr7, hB7⟩
         have M1 := M0.add (r := boolRow v7 aks) hB7 (by simpa [boolRow] using hr7)
         obtain ⟨p7, c7, rfl⟩ := row_slice hr7
         simp only [List.length_map] at M1
         obtain ⟨f0, f1, f2, f3, f4, f5⟩ := M1.acells (h := w.heap.size) (ad := ad) (ai := ai) (bv := .slice pb' lb cb) (ar := ar) (kv := .slice pk' lk ck) (at' := at') (by simp))
      | (go_at_call 16; refine (crash_off M1.dsk ho _ _).mono ?_; rintro ev w2 ⟨rfl, rfl⟩)
      | (go_at_call 24; refine (pcrash_off M1.pg ho _ _).mono ?_; rintro ev w2 ⟨rfl, rfl⟩)
      | (go_at_call 25; refine (bools_same (rdv_row (M1.row (r := boolRow (.slice p7 aks.length c7) aks) (by simp))) (RdV.below (show RdV w0 (.slice pk' lk ck) (aks.map Value.bool) from HK.out) M1.fam.below) hks).mono ?_; rintro ev w3 ⟨rfl, B3⟩; have M3 := M1.step B3))
    go_ret
    exact ⟨by simp, _, _, _, _, _, _, _, _, M3, T.now, T.arm, T.small, T.len⟩
  · have ho : d.off = false := by simpa using ho
    go_enter Try.func11, Try.ntmps11
    go_wp2_with (first
      | (go_at_call 23; refine (twinL_ok rk0 (by simpa using hks) (one_map _ (fun _ => rfl) _)).mono ?_; rintro ev w1 ⟨v7, rfl, hr7, hB7⟩
         have hne : aks.map Value.bool ≠ [] → ∀ k, v7.ownBlock = some k → vs.ownBlock ≠ some k := fun _ k h1 h2 => by
           have a1 := (row_base hr7 h1).1
           have a2 : vs.ownBlock = some k → k < (w.alloc (.cells #[.int .i64 ad, .int .i64 ai, .slice pb' lb cb, .bool ar, .slice pk' lk ck, .int .i64 at'] 35)).heap.size := fun h => (row_base (M0.dsk.fam.row 1 _ rfl) h).2
           have := a2 h2
           omega
         have M1 := M0.add (r := boolRow v7 aks) hB7 (by simpa [boolRow] using hr7)
         obtain ⟨p7, c7, rfl⟩ := row_slice hr7
         simp only [List.length_map] at M1 hne
         obtain ⟨f0, f1, f2, f3, f4, f5⟩ := M1.acells (h := w.heap.size) (ad := ad) (ai := ai) (bv := .slice pb' lb cb) (ar := ar) (kv := .slice pk' lk ck) (at' := at') (by simp)
         clear hr7 M0)
      | (go_at_call 16; have t1 := M1; clear t1; have RK7 := rdv_row (M1.row (r := boolRow (.slice p7 aks.length c7) aks) (by simp)); refine (crash_on (v := .slice p7 aks.length c7) (ks := aks) M1.dsk ho at' RK7 hne).mono ?_; rintro ev w2 ⟨rfl, D2⟩; have M2 := M1.ofDsk D2; clear D2 M1; obtain ⟨g0, g1, g2, g3, g4, g5⟩ := M2.acells (h := w.heap.size) (ad := ad) (ai := ai) (bv := .slice pb' lb cb) (ar := ar) (kv := .slice pk' lk ck) (at' := at') (by simp))
      | (go_at_call 24; refine (pcrash_on M2.pg ho (by omega) at' (RdV.below (show RdV w0 (.slice pk' lk ck) (aks.map Value.bool) from HK.out) M2.fam.below) (fun h0 k h1 => by
           have a1 := RdV.lt (show RdV w0 (.slice pk' lk ck) (aks.map Value.bool) from HK.out) h0 h1
           have a2 : A.us.ownBlock = some k → w0.heap.size ≤ k := fun h => (row_base (M2.pg.fam.row 1 _ rfl) h).1
           have a3 : A.ut.ownBlock = some k → w0.heap.size ≤ k := fun h => (row_base (M2.pg.fam.row 2 _ rfl) h).1
           exact ⟨fun h => by have := a2 h; omega, fun h => by have := a3 h; omega⟩)).mono ?_; rintro ev w3 ⟨rfl, sl, P3⟩; have M3 := M2.ofPg (P3.as (d2 := d.crash aks at') rfl rfl rfl rfl M2.ok1); clear P3 M2; obtain ⟨k0, k1, k2, k3, k4, k5⟩ := M3.acells (h := w.heap.size) (ad := ad) (ai := ai) (bv := .slice pb' lb cb) (ar := ar) (kv := .slice pk' lk ck) (at' := at') (by simp))
      | (go_at_call 25; refine (bools_same (rdv_row (M3.row (r := boolRow (.slice p7 aks.length c7) aks) (by simp))) (RdV.below (show RdV w0 (.slice pk' lk ck) (aks.map Value.bool) from HK.out) M3.fam.below) hks).mono ?_; rintro ev w4 ⟨rfl, B4⟩; have M4 := M3.step B4))
    go_ret
    exact ⟨by simp, T.crashed (ks := aks) (t := at') M4⟩
end
end Go.Proofs.Ytgcndphocpedjaa
