/-
  DISKEXACT: an act on both: Trip, Read. Own work.
-/
import Derived.Test.YtgcndphocpedjaaDSb
namespace Go.Proofs.Ytgcndphocpedjaa
open Go.ChangeShapes Go.WideShapes Go.ChangeAt Go.RowKit Go.Maps Go.Deep
set_option maxRecDepth 100000
attribute [local go_sem ↓] Go.wp_at_zero Go.wp_at_succ
section
variable {w0 w w' : World} {db pb n m : Nat} {d d1 d2 : Dk} {A : PA} {vs vn vw vk : Value} {R Mb Mc : List RowD}
set_option maxHeartbeats 8000000 in
theorem step_trip (T : Bt w0 w db pb n m d A vs vn vw vk R Mb) (a : Ac) (hu : (IntKind.u64.wrap a.d).tmod 8 = 6) {pb' pk' : Option Addr} {lb cb lk ck : Nat} (hb : a.bv = .slice pb' lb cb) (hk : a.kv = .slice pk' lk ck) (rk : RdV w0 a.kv (a.ks.map Value.bool)) (hks : a.ks.length ≤ 1000) (hi64 : In64 a.i) : Calls Try.prog 11 #[.pointer (some ⟨db, 0, none⟩), .pointer (some ⟨pb, 0, none⟩), a.val] w fun e w' => e = .returned (.bool true) ∧ Bx w0 w' db pb n m := by
  obtain ⟨ad, ai, abv, abs, ar, akv, aks, at'⟩ := a
  simp only at hu hb hk rk hks hi64
  subst hb hk
  unfold Ac.val
  have hs64 : Small ai.toNat := by unfold Small In64 at *; omega
  clear hi64
  have M0 := T.mid.act (ad := ad) (ai := ai) (bv := .slice pb' lb cb) (ar := ar) (kv := .slice pk' lk ck) (at' := at')
  have rk0 := rk.below M0.fam.below
  have HK := (show Hid (RdV w0 (.slice pk' lk ck) (aks.map Value.bool)) from rk)
  clear rk
  go_enter Try.func11, Try.ntmps11
  go_wp2_with (first
    | (go_at_call 23; refine (twinL_ok rk0 (by simpa using hks) (one_map _ (fun _ => rfl) _)).mono ?_; rintro ev w1 ⟨v7, rfl, hr7, hB7⟩
       have hne : aks.map Value.bool ≠ [] → ∀ k, v7.ownBlock = some k → k ≠ db := fun _ k h1 => by
         have a1 := (row_base hr7 h1).1
         have a2 : db < (w.alloc (.cells #[.int .i64 ad, .int .i64 ai, .slice pb' lb cb, .bool ar, .slice pk' lk ck, .int .i64 at'] 35)).heap.size := (row_base M0.dsk.h rfl).2
         omega
       have M1 := M0.add (r := boolRow v7 aks) hB7 (by simpa [boolRow] using hr7)
       obtain ⟨p7, c7, rfl⟩ := row_slice hr7
       simp only [List.length_map] at M1 hne
       obtain ⟨f0, f1, f2, f3, f4, f5⟩ := M1.acells (h := w.heap.size) (ad := ad) (ai := ai) (bv := .slice pb' lb cb) (ar := ar) (kv := .slice pk' lk ck) (at' := at') (by simp)
       have RK7 := (show Hid (RdV w1 (.slice p7 aks.length c7) (aks.map Value.bool)) from rdv_row (M1.row (r := boolRow (.slice p7 aks.length c7) aks) (by simp)))
       clear hr7 M0 rk0)
    | (go_at_call 18; have t1 := M1; clear t1; refine (trip_ok (v := .slice p7 aks.length c7) (ks := aks) M1.dsk ai at' RK7.out hne hks).mono ?_; rintro ev w2 ⟨rfl, vk2, D2⟩; have M2 := M1.ofDsk D2; clear D2 M1 RK7; obtain ⟨g0, g1, g2, g3, g4, g5⟩ := M2.acells (h := w.heap.size) (ad := ad) (ai := ai) (bv := .slice pb' lb cb) (ar := ar) (kv := .slice pk' lk ck) (at' := at') (by simp))
    | (go_at_call 26; refine (ptrip_ok M2.pg ai at' (RdV.below (show RdV w0 (.slice pk' lk ck) (aks.map Value.bool) from HK.out) M2.fam.below) hks).mono ?_; rintro ev w3 ⟨rfl, uk, P3⟩; have M3 := M2.ofPg (P3.as (d2 := { d with left := ai.toNat, keep := if 0 < ai then aks else [], torn := if 0 < ai then at' else 0 }) rfl rfl rfl rfl M2.ok1); clear P3 M2))
  have r8 : w3.ownsRow w0.heap.size 4 1 (.slice p7 aks.length c7) aks.length (aks.map Value.bool) := M3.row (r := boolRow (.slice p7 aks.length c7) aks) (by simp)
  have r9 := row_lower r8 (Nat.zero_le _)
  clear r8
  by_cases h00 : aks.length = 0
  · have h00I : ¬ (0 : Int) < aks.length := by omega
    go_loopw [9] (fun i wq => i = .int .i64 0 ∧ wq = w3) (fun _ _ => 0)
    case atStart => exact ⟨rfl, rfl⟩
    case round =>
      obtain ⟨rfl, rfl⟩ := hrel
      have M4 := M3.drop (fun r hr => List.mem_append_left _ (T.mid.sub r hr)) (Keeps.refl _ _)
      go_wp2
      go_ret
      refine ⟨by simp, _, _, _, _, _, _, _, _, M4, T.now, fun h => ?_, hs64, T.len⟩
      have h0' : 0 < ai := by simp only at h; omega
      exact ⟨by simp [h0'], by simp [h0']⟩
  · obtain ⟨g, rfl, _⟩ := row_open r9 (by omega)
    go_loopw [9] (fun i wq => ∃ (j : Nat) (zs : List Bool), i = .int .i64 j ∧ j ≤ aks.length ∧ wq.ownsRow 0 4 1 (.slice (some ⟨g, 0, none⟩) aks.length c7) aks.length (zs.map Value.bool) ∧ Keeps (fun k => k = g) w3 wq) (fun i _ => aks.length - (intOf i).toNat)
    case atStart => exact ⟨0, aks, rfl, by omega, r9, Keeps.refl _ _⟩
    case round =>
      clear r9
      obtain ⟨j, zs, rfl, hj, hown, hK⟩ := hrel
      by_cases hlt : j < aks.length
      · have hjI : (j : Int) < aks.length := by omega
        have hlen := hown.1
        rw [List.length_map] at hlen
        have hc := World.ownsRow.cellAt hown j (by omega)
        rw [List.getElem?_map, List.getElem?_eq_getElem (by omega), Option.map_some] at hc
        have hf := World.ownsRow.frozenAt hown j
        generalize zs[j] = z at hc
        go_wp2
        obtain ⟨hs1, hs2⟩ := World.ownsRow.stored hown j (.bool (!z))
        have e : (zs.map Value.bool).set j (.bool (!z)) = (zs.set j (!z)).map Value.bool := by rw [List.map_set]
        rw [e] at hs1
        exact ⟨⟨j + 1, zs.set j (!z), by simp, by omega, hs1, hK.trans (Keeps.of_grown (F := fun k => k = g) hs2 (fun k hk => by cases hk; rfl)) (fun _ _ h => h)⟩, by simp [intOf]; omega⟩
      · have hjI : ¬ (j : Int) < aks.length := by omega
        have KK : Keeps (fun k => (boolRow (.slice (some ⟨g, 0, none⟩) aks.length c7) aks).v.ownBlock = some k) w3 wr := hK.mono (fun k _ hk => by subst hk; rfl)
        have M4 := M3.drop (fun r hr => List.mem_append_left _ (T.mid.sub r hr)) KK
        go_wp2
        go_ret
        refine ⟨by simp, _, _, _, _, _, _, _, _, M4, T.now, fun h => ?_, hs64, T.len⟩
        have h0' : 0 < ai := by simp only at h; omega
        exact ⟨by simp [h0'], by simp [h0']⟩
end
end Go.Proofs.Ytgcndphocpedjaa
