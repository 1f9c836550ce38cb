/-
  DISKEXACT: an act on both: Write. Own work.
-/
import Derived.Test.YtgcndphocpedjaaDSe
namespace Go.Proofs.Ytgcndphocpedjaa
open Go.ChangeShapes Go.WideShapes Go.ChangeAt Go.RowKit Go.Maps Go.Deep
set_option maxRecDepth 100000
attribute [local go_sem ↓] Go.wp_at_zero Go.wp_at_succ
section
variable {w0 w w' : World} {db pb n m : Nat} {d d1 d2 : Dk} {A : PA} {vs vn vw vk : Value} {R Mb : List RowD}
set_option maxHeartbeats 8000000 in
theorem step_write_false (T : Bt w0 w db pb n m d A vs vn vw vk R Mb) (hm : m < 100000) (a : Ac) (n3 : ¬ (IntKind.u64.wrap a.d).tmod 8 = 3) (n4 : ¬ (IntKind.u64.wrap a.d).tmod 8 = 4) (n5 : ¬ (IntKind.u64.wrap a.d).tmod 8 = 5) (n6 : ¬ (IntKind.u64.wrap a.d).tmod 8 = 6) (n7 : ¬ (IntKind.u64.wrap a.d).tmod 8 = 7) (hraw : a.raw = false) {pb' pk' : Option Addr} {lb cb lk ck : Nat} (hb : a.bv = .slice pb' lb cb) (hk : a.kv = .slice pk' lk ck) (rb : RdV w0 a.bv (a.bs.map (Value.int .u8))) (hbs : a.bs.length ≤ 1000) : Calls Try.prog 11 #[.pointer (some ⟨db, 0, none⟩), .pointer (some ⟨pb, 0, none⟩), a.val] w fun e w' => e = .returned (.bool true) ∧ Bx w0 w' db pb n (m + 1) := by
  have hlen := T.len
  obtain ⟨ad, ai, abv, abs, ar, akv, aks, at'⟩ := a
  simp only at n3 n4 n5 n6 n7 hraw hb hk rb hbs
  subst hb hk hraw
  unfold Ac.val
  have M0 := T.mid.act (ad := ad) (ai := ai) (bv := .slice pb' lb cb) (ar := false) (kv := .slice pk' lk ck) (at' := at')
  have HK := (show Hid (RdV w0 (.slice pb' lb cb) (abs.map (Value.int .u8))) from rb)
  clear rb
  go_enter Try.func11, Try.ntmps11
  go_wp2_with (first
    | (go_at_call 13; refine (sector_ok (RdV.below (show RdV w0 (.slice pb' lb cb) (abs.map (Value.int .u8)) from HK.out) M0.fam.below) (by omega)).mono ?_; rintro ev w1 ⟨g1, rfl, r1, B1⟩
       have M1 := M0.add (r := byteRow (.slice (some ⟨g1, 0, none⟩) 64 64) (pad abs)) B1 (by rw [show (byteRow (.slice (some ⟨g1, 0, none⟩) 64 64) (pad abs)).n = 64 from pad_len abs]; exact r1)
       obtain ⟨f0, f1, f2, f3, f4, f5⟩ := M1.acells (h := w.heap.size) (ad := ad) (ai := ai) (bv := .slice pb' lb cb) (ar := false) (kv := .slice pk' lk ck) (at' := at') (by simp)
       have rb1 := rdv_row r1
       clear r1 M0)
    | (go_at_call 29; refine (twinB_ok rb1 (by simp [pad_len]) (one_map _ (fun _ => rfl) _)).mono ?_; rintro ev w3 ⟨v3, rfl, r3, B3⟩
       have M3 := M1.add (r := byteRow v3 (pad abs)) B3 (by simpa [byteRow] using r3)
       rw [List.length_map, pad_len] at r3
       obtain ⟨p3, c3, rfl⟩ := row_slice r3
       clear r3 M1))
  have M3 := M3.step (Below.refl _ w3).drew
  obtain ⟨f0, f1, f2, f3, f4, f5⟩ := M3.acells (h := w.heap.size) (ad := ad) (ai := ai) (bv := .slice pb' lb cb) (ar := false) (kv := .slice pk' lk ck) (at' := at') (by simp)
  rcases writes T M3 ai p3 (some ⟨g1, 0, none⟩) (64) c3 (64) with ⟨z, h1, h2⟩ | ⟨k, rfl, hkn, hl64, ho⟩
  · have H1 := (show Hid (Calls Try.prog 14 #[.pointer (some ⟨db, 0, none⟩), .int .i64 ai, .slice p3 (64) c3] w3.drew (fun e w' => e = .returned (.int .i64 z) ∧ w' = w3.drew)) from h1)
    have H2 := (show Hid (Calls Try.prog 30 #[.pointer (some ⟨pb, 0, none⟩), .int .i64 ai, .slice (some ⟨g1, 0, none⟩) (64) (64)] w3.drew (fun e w' => e = .returned (.int .i64 z) ∧ w' = w3.drew)) from h2)
    clear h1 h2
    go_region_with (first
      | (go_at_call 14; refine Calls.mono (H1.out) ?_; rintro ev w4 ⟨rfl, rfl⟩)
      | (go_at_call 30; refine Calls.mono (H2.out) ?_; rintro ev w5 ⟨rfl, rfl⟩)
      | (go_at_call 20; refine (bytes_same (rdv_row (M3.row (r := byteRow (.slice p3 64 c3) (pad abs)) (by simp))) (rdv_row (M3.row (r := byteRow (.slice (some ⟨g1, 0, none⟩) 64 64) (pad abs)) (by simp))) (by rw [pad_len]; omega)).mono ?_; rintro ev w6 ⟨rfl, B6⟩; have M6 := M3.step B6))
    all_goals simp only [Exit.then]
    all_goals go_wp2_with (go_at_call 28; have r9 := M6.row (r := byteRow (.slice p3 64 c3) (pad abs)) (by simp); rw [show (byteRow (.slice p3 64 c3) (pad abs)).n = 64 from pad_len abs] at r9; refine (spoil_ok (n := 64) (bs := (pad abs)) (row_lower r9 (Nat.zero_le _)) (by omega)).mono ?_; rintro ev w9 ⟨rfl, K9⟩; have M9 := M6.drop (fun r h => List.mem_append_left _ (List.mem_append_left _ (T.mid.sub r h))) K9)
    all_goals go_ret
    all_goals exact ⟨by simp, Bx.more ⟨_, _, _, _, _, _, _, _, M9, T.now, T.arm, T.small, T.len⟩⟩
  · have HL64 := (show Hid _ from hl64)
    clear hl64
    by_cases hl : d.left = 1
    · obtain ⟨hpk, hpt⟩ := T.arm (by omega)
      go_region_with (first
        | (go_at_call 14; refine (write_trip M3.dsk ho hl k hkn (rdv_row (M3.row (r := byteRow (.slice p3 64 c3) (pad abs)) (by simp))) (pad_len _) (by omega)).mono ?_; rintro ev w4 ⟨rfl, vw4, vk4, D4⟩; have M4 := M3.ofDsk D4; clear D4; obtain ⟨g0, g1', g2, g3, g4, g5⟩ := M4.acells (h := w.heap.size) (ad := ad) (ai := (k : Int)) (bv := .slice pb' lb cb) (ar := false) (kv := .slice pk' lk ck) (at' := at') (by simp))
        | (go_at_call 30; refine (pwrite_trip M4.pg ho hl k hkn (rdv_row (M4.row (r := byteRow (.slice (some ⟨g1, 0, none⟩) 64 64) (pad abs)) (by simp))) (pad_len _) (by omega)).mono ?_; rintro ev w5 ⟨rfl, u5, sl5, P5⟩
           have e5 : (({ d with wr := d.wr ++ [(k, (pad abs))] } : Dk).crash d.keep d.torn).safe = crs A.pk A.pt (d.wr ++ [(k, (pad abs))]) d.safe (d.wr ++ [(k, (pad abs))]).length := by rw [hpk, hpt]; rfl
           have M5 := M4.ofPgR (P5.as (d2 := ({ d with wr := d.wr ++ [(k, (pad abs))] } : Dk).crash d.keep d.torn) e5 rfl rfl rfl M4.ok1)
           clear P5 M4)
        | (go_at_call 20; refine (bytes_same (rdv_row (M5.row (r := byteRow (.slice p3 64 c3) (pad abs)) (by simp))) (rdv_row (M5.row (r := byteRow (.slice (some ⟨g1, 0, none⟩) 64 64) (pad abs)) (by simp))) (by rw [pad_len]; omega)).mono ?_; rintro ev w6 ⟨rfl, B6⟩; have M6 := M5.step B6; clear M5))
      all_goals simp only [Exit.then]
      all_goals go_wp2_with (go_at_call 28; have r9 := M6.row (r := byteRow (.slice p3 64 c3) (pad abs)) (by simp); rw [show (byteRow (.slice p3 64 c3) (pad abs)).n = 64 from pad_len abs] at r9; refine (spoil_ok (n := 64) (bs := (pad abs)) (row_lower r9 (Nat.zero_le _)) (by omega)).mono ?_; rintro ev w9 ⟨rfl, K9⟩; rw [List.append_assoc] at M6; have M9 := M6.dropM (fun r hr => (List.mem_append.1 hr).elim (fun h => List.mem_append_left _ (List.mem_append_left _ (List.mem_append_left _ (T.mid.sub r h)))) (fun h => List.mem_append_right _ h)) K9)
      all_goals go_ret
      all_goals exact ⟨by simp, ⟨_, _, _, _, _, _, _, _, M9, NowInv.crashed _ _ _, fun h => absurd h (Nat.lt_irrefl 0), by show (0 : Nat) < _; omega, Nat.zero_le _⟩⟩
    · go_region_with (first
        | (go_at_call 14; refine (write_ok M3.dsk ho hl T.small k hkn (rdv_row (M3.row (r := byteRow (.slice p3 64 c3) (pad abs)) (by simp))) (pad_len _) (by omega)).mono ?_; rintro ev w4 ⟨rfl, vw4, vk4, D4⟩; have M4 := M3.ofDsk D4; clear D4; obtain ⟨g0, g1', g2, g3, g4, g5⟩ := M4.acells (h := w.heap.size) (ad := ad) (ai := (k : Int)) (bv := .slice pb' lb cb) (ar := false) (kv := .slice pk' lk ck) (at' := at') (by simp))
        | (go_at_call 30; refine (pwrite_ok M4.pg ho hl T.small k hkn (rdv_row (M4.row (r := byteRow (.slice (some ⟨g1, 0, none⟩) 64 64) (pad abs)) (by simp))) (pad_len _) (by omega)).mono ?_; rintro ev w5 ⟨rfl, u5, uw5, wl5, P5⟩
           have M5 := M4.ofPgR (P5.as (d2 := { d with wr := d.wr ++ [(k, (pad abs))], left := d.left - 1, now := d.now.set k ((pad abs), false) }) rfl rfl rfl rfl M4.ok1)
           clear P5 M4)
        | (go_at_call 20; refine (bytes_same (rdv_row (M5.row (r := byteRow (.slice p3 64 c3) (pad abs)) (by simp))) (rdv_row (M5.row (r := byteRow (.slice (some ⟨g1, 0, none⟩) 64 64) (pad abs)) (by simp))) (by rw [pad_len]; omega)).mono ?_; rintro ev w6 ⟨rfl, B6⟩; have M6 := M5.step B6; clear M5))
      all_goals simp only [Exit.then]
      all_goals go_wp2_with (go_at_call 28; have r9 := M6.row (r := byteRow (.slice p3 64 c3) (pad abs)) (by simp); rw [show (byteRow (.slice p3 64 c3) (pad abs)).n = 64 from pad_len abs] at r9; refine (spoil_ok (n := 64) (bs := (pad abs)) (row_lower r9 (Nat.zero_le _)) (by omega)).mono ?_; rintro ev w9 ⟨rfl, K9⟩; rw [List.append_assoc] at M6; have M9 := M6.dropM (fun r hr => (List.mem_append.1 hr).elim (fun h => List.mem_append_left _ (List.mem_append_left _ (List.mem_append_left _ (T.mid.sub r h)))) (fun h => List.mem_append_right _ h)) K9)
      all_goals go_ret
      all_goals exact ⟨by simp, T.wroteOk (u := .slice none 0 0) k (pad abs) (by rfl) (by rfl) hl M9⟩
end
end Go.Proofs.Ytgcndphocpedjaa
