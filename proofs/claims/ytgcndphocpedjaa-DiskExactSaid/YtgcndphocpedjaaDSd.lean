/-
  DISKEXACT: an act on both: Read. Own work.
-/
import Derived.Test.YtgcndphocpedjaaDSc
namespace Go.Proofs.Ytgcndphocpedjaa
open Go.ChangeShapes Go.WideShapes Go.ChangeAt Go.RowKit Go.Maps Go.Deep
set_option maxRecDepth 100000
attribute [local go_sem ↓] Go.wp_at_zero Go.wp_at_succ
theorem spoil_nil (w : World) : Calls Try.prog 28 #[.slice none 0 0] w fun e w' => e = .returned (.tuple #[]) ∧ w' = w := by
  go_enter Try.func28, Try.ntmps28
  go_wp2
  go_loopw [2] (fun i wr => i = .int .i64 0 ∧ wr = w) (fun _ _ => 0)
  case atStart => exact ⟨rfl, rfl⟩
  case round =>
    obtain ⟨rfl, rfl⟩ := hrel
    go_wp2
    go_end0
    exact ⟨rfl, rfl⟩
section
variable {w0 w w' : World} {db pb n m : Nat} {d d1 d2 : Dk} {A : PA} {vs vn vw vk : Value} {R Mb Mc : List RowD}
theorem Bt.hasSafe (T : Bt w0 w db pb n m d A vs vn vw vk R Mb) {k : Nat} {s : Sec} (hs : d.now[k]? = some s) : ∃ y, d.safe[k]? = some y ∧ lst d.wr k y = s := by
  have hk := (List.getElem?_eq_some_iff.1 hs).1
  have h1 := T.mid.ok1.ln
  have h2 := T.mid.ok1.ls
  obtain ⟨y, hy⟩ : ∃ y, d.safe[k]? = some y := ⟨_, List.getElem?_eq_getElem (by omega)⟩
  have h := T.now k y hy
  rw [hs] at h
  exact ⟨y, hy, (Option.some.inj h).symm⟩
/-- What both answer to a Read. -/
theorem reads (T : Bt w0 w db pb n m d A vs vn vw vk R Mb) (hm : m ≤ 100000) {w1 : World} {R1 Mc : List RowD} (M : Mid w0 w1 db pb n d d A vs vn vw vk R1 Mc) (i : Int) : (∃ z : Int, Calls Try.prog 19 #[.pointer (some ⟨db, 0, none⟩), .int .i64 i] w1 (fun e w' => e = .returned (.tuple #[.slice none 0 0, .int .i64 z]) ∧ w' = w1) ∧ Calls Try.prog 27 #[.pointer (some ⟨pb, 0, none⟩), .int .i64 i] w1 (fun e w' => e = .returned (.tuple #[.slice none 0 0, .int .i64 z]) ∧ w' = w1)) ∨ (∃ (k : Nat) (s : Sec), i = k ∧ d.now[k]? = some s ∧ s.2 = false ∧ d.off = false) := by
  by_cases ho : d.off = true
  · exact .inl ⟨9, read_off M.dsk i ho, pread_off M.pg i ho⟩
  · have ho : d.off = false := by simpa using ho
    by_cases hi : 0 ≤ i ∧ i < (n : Int)
    · obtain ⟨k, rfl⟩ : ∃ k : Nat, i = k := ⟨i.toNat, by omega⟩
      obtain ⟨s, hs⟩ : ∃ s, d.now[k]? = some s := ⟨_, List.getElem?_eq_getElem (by rw [T.mid.ok1.ln]; omega)⟩
      cases hb : s.2 with
      | false => exact .inr ⟨k, s, rfl, hs, hb, ho⟩
      | true =>
        obtain ⟨y, hy, hl⟩ := T.hasSafe hs
        refine .inl ⟨10, read_torn M.dsk k s hs ho hb, ?_⟩
        refine (pread_in M.pg k ho (by omega) (by have := T.len; omega) y hy).mono ?_
        rintro e w' ⟨rfl, _, h2⟩
        exact ⟨h2 (by rw [hl]; exact hb), rfl⟩
    · exact .inl ⟨1, read_out M.dsk i ho hi, pread_out M.pg i ho hi⟩
set_option maxHeartbeats 8000000 in
theorem step_read (T : Bt w0 w db pb n m d A vs vn vw vk R Mb) (hm : m ≤ 100000) (a : Ac) (hu : (IntKind.u64.wrap a.d).tmod 8 = 7) {pb' pk' : Option Addr} {lb cb lk ck : Nat} (hb : a.bv = .slice pb' lb cb) (hk : a.kv = .slice pk' lk ck) : Calls Try.prog 11 #[.pointer (some ⟨db, 0, none⟩), .pointer (some ⟨pb, 0, none⟩), a.val] w fun e w' => e = .returned (.bool true) ∧ Bx w0 w' db pb n m := by
  have hlen := T.len
  obtain ⟨ad, ai, abv, abs, ar, akv, aks, at'⟩ := a
  simp only at hu hb hk
  subst hb hk
  unfold Ac.val
  have M0 := T.mid.act (ad := ad) (ai := ai) (bv := .slice pb' lb cb) (ar := ar) (kv := .slice pk' lk ck) (at' := at')
  rcases reads T hm M0 ai with ⟨z, h1, h2⟩ | ⟨k, s, rfl, hs, hb, ho⟩
  · have H1 := (show Hid (Calls Try.prog 19 #[.pointer (some ⟨db, 0, none⟩), .int .i64 ai] _ (fun e w' => e = .returned (.tuple #[.slice none 0 0, .int .i64 z]) ∧ w' = _)) from h1)
    have H2 := (show Hid (Calls Try.prog 27 #[.pointer (some ⟨pb, 0, none⟩), .int .i64 ai] _ (fun e w' => e = .returned (.tuple #[.slice none 0 0, .int .i64 z]) ∧ w' = _)) from h2)
    clear h1 h2
    go_enter Try.func11, Try.ntmps11
    go_wp2_with (first
      | (go_at_call 19; refine Calls.mono (H1.out) ?_; rintro ev w1 ⟨rfl, rfl⟩)
      | (go_at_call 27; refine Calls.mono (H2.out) ?_; rintro ev w1 ⟨rfl, rfl⟩)
      | (go_at_call 20; refine (bytes_same (bs := []) (rdv_nil _) (rdv_nil _) (by decide)).mono ?_; rintro ev w2 ⟨rfl, B2⟩; have M2 := M0.step B2)
      | (go_at_call 28; refine (spoil_nil _).mono ?_; rintro ev w3 ⟨rfl, rfl⟩))
    go_ret
    exact ⟨by simp, _, _, _, _, _, _, _, _, M2, T.now, T.arm, T.small, T.len⟩
  · obtain ⟨y, hy, hlst⟩ := T.hasSafe hs
    have HS := (show Hid _ from hs)
    have HY := (show Hid _ from hy)
    have HL := (show Hid _ from hlst)
    have hkn : k < n := by have := (List.getElem?_eq_some_iff.1 hs).1; have := T.mid.ok1.ln; omega
    have h64 := T.mid.ok1.n64 s (List.mem_of_getElem? hs)
    clear hs hy hlst
    go_enter Try.func11, Try.ntmps11
    go_wp2_with (first
      | (go_at_call 19; refine (read_ok M0.dsk k s HS.out ho hb).mono ?_; rintro ev w1 ⟨v, rfl, D1, _⟩
         have M1 := M0.ofDskR D1
         obtain ⟨f0, f1, f2, f3, f4, f5⟩ := M1.acells (h := w.heap.size) (ad := ad) (ai := (k : Int)) (bv := .slice pb' lb cb) (ar := ar) (kv := .slice pk' lk ck) (at' := at') (by simp)
         clear D1 M0)
      | (go_at_call 27; refine (pread_in M1.pg k ho hkn (by omega) y HY.out).mono ?_; rintro ev w2 ⟨rfl, hno, _⟩
         obtain ⟨v2, rfl, hq⟩ := hno (by rw [HL.out]; exact hb)
         rw [HL.out] at hq
         have RV2 := (show Hid _ from rdv_row (M1.row (M1.sub _ hq)))
         clear hno hq)
      | (go_at_call 20; refine (bytes_same (bs := s.1) (rdv_row (M1.row (r := byteRow v s.1) (by simp))) RV2.out (by omega)).mono ?_; rintro ev w3 ⟨rfl, B3⟩; have M3 := M1.step B3; clear M1 RV2)
      | (go_at_call 28; refine (spoil_ok (n := s.1.length) (bs := s.1) (row_lower (M3.row (r := byteRow v s.1) (by simp)) (Nat.zero_le _)) (by omega)).mono ?_; rintro ev w4 ⟨rfl, K4⟩; have M4 := M3.drop (fun r hr => List.mem_append_left _ (T.mid.sub r hr)) K4))
    go_ret
    exact ⟨by simp, _, _, _, _, _, _, _, _, M4, T.now, T.arm, T.small, T.len⟩
end
end Go.Proofs.Ytgcndphocpedjaa
