/-
  DISKEXACT: both read alike. Own work.
-/
import Derived.Test.YtgcndphocpedjaaDSe
namespace Go.Proofs.Ytgcndphocpedjaa
open Go.ChangeShapes Go.WideShapes Go.ChangeAt Go.RowKit Go.Maps Go.Deep
set_option maxRecDepth 100000
attribute [local go_sem ↓] Go.wp_at_zero Go.wp_at_succ
section
variable {w0 w w' : World} {db pb n m : Nat} {d d1 d2 : Dk} {A : PA} {vs vn vw vk : Value} {R Mb : List RowD}
set_option maxHeartbeats 8000000 in
theorem same_ok (T : Bt w0 w db pb n m d A vs vn vw vk R Mb) (hm : m ≤ 100000) : Calls Try.prog 12 #[.pointer (some ⟨db, 0, none⟩), .pointer (some ⟨pb, 0, none⟩)] w fun e w' => e = .returned (.bool true) ∧ Bt w0 w' db pb n m d A vs vn vw vk R Mb := by
  have hlen := T.len
  have hn512 := T.mid.ok1.le
  obtain ⟨gs, cs, e1, _⟩ := T.mid.pg.rs
  go_enter Try.func12, Try.ntmps12
  go_wp2
  go_loopw [5] (fun i wq => ∃ j : Nat, i = .int .i64 j ∧ j ≤ n ∧ Mid w0 wq db pb n d d A vs vn vw vk R Mb) (fun i _ => n - (intOf i).toNat)
  case atStart => exact ⟨0, rfl, by omega, T.mid⟩
  case round =>
    obtain ⟨j, rfl, hj, M⟩ := hrel
    have c0 := M.pg.c0
    rw [e1] at c0
    by_cases hlt : j < n
    · have hjI : (j : Int) < n := by omega
      rcases reads T hm M (j : Int) with ⟨z, h1, h2⟩ | ⟨k, s, hjk, hs, hb, ho⟩
      · have H1 := (show Hid (Calls Try.prog 19 #[.pointer (some ⟨db, 0, none⟩), .int .i64 (j : Int)] wr (fun e w' => e = .returned (.tuple #[.slice none 0 0, .int .i64 z]) ∧ w' = wr)) from h1)
        have H2 := (show Hid (Calls Try.prog 27 #[.pointer (some ⟨pb, 0, none⟩), .int .i64 (j : Int)] wr (fun e w' => e = .returned (.tuple #[.slice none 0 0, .int .i64 z]) ∧ w' = wr)) from h2)
        clear h1 h2
        go_wp2_with (first
          | (go_at_call 19; refine Calls.mono (H1.out) ?_; rintro ev w1 ⟨rfl, rfl⟩)
          | (go_at_call 27; refine Calls.mono (H2.out) ?_; rintro ev w1 ⟨rfl, rfl⟩)
          | (go_at_call 20; refine (bytes_same (bs := []) (rdv_nil _) (rdv_nil _) (by decide)).mono ?_; rintro ev w2 ⟨rfl, B2⟩; have M2 := M.step B2))
        exact ⟨⟨j + 1, by simp, by omega, M2⟩, by simp [intOf]; omega⟩
      · obtain rfl : j = k := by omega
        clear hjk
        obtain ⟨y, hy, hlst⟩ := T.hasSafe hs
        have HS := (show Hid _ from hs)
        have HY := (show Hid _ from hy)
        have HL := (show Hid _ from hlst)
        have h64 := T.mid.ok1.n64 s (List.mem_of_getElem? hs)
        clear hs hy hlst
        go_wp2_with (first
          | (go_at_call 19; refine (read_ok M.dsk j s HS.out ho hb).mono ?_; rintro ev w1 ⟨v, rfl, D1, _⟩
             have M1 := M.ofDskR D1
             clear D1)
          | (go_at_call 27; refine (pread_in M1.pg j ho hlt (by omega) y HY.out).mono ?_; rintro ev w2 ⟨rfl, hno, _⟩
             obtain ⟨v2, rfl, hq⟩ := hno (by rw [HL.out]; exact hb)
             rw [HL.out] at hq
             have RV2 := (show Hid _ from rdv_row (M1.row (M1.sub _ hq)))
             clear hno hq)
          | (go_at_call 20; refine (bytes_same (bs := s.1) (rdv_row (M1.row (r := byteRow v s.1) (by simp))) RV2.out (by omega)).mono ?_; rintro ev w3 ⟨rfl, B3⟩; have M3 := M1.step B3; have M4 := M3.drop T.mid.sub (Keeps.refl _ _); clear M1 RV2 M3))
        exact ⟨⟨j + 1, by simp, by omega, M4⟩, by simp [intOf]; omega⟩
    · obtain rfl : j = n := by omega
      have hjI : ¬ (j : Int) < j := by omega
      have Md := M.step (Below.refl _ wr).drew
      have k0 := Md.pg.c0
      rw [e1] at k0
      have k3 := Md.pg.c3
      have c3 := M.pg.c3
      go_wp2
      go_region_with (first
        | (go_at_call 21; refine (off_ok Md.dsk).mono ?_; rintro ev w5 ⟨rfl, rfl⟩)
        | (go_at_call 31; refine (sectors_ok Md.dsk).mono ?_; rintro ev w5 ⟨rfl, rfl⟩))
      all_goals simp only [Exit.then]
      all_goals go_wp2
      all_goals go_ret
      all_goals exact ⟨by first | (simp; done) | rfl, Md, T.now, T.arm, T.small, T.len⟩
end
end Go.Proofs.Ytgcndphocpedjaa
