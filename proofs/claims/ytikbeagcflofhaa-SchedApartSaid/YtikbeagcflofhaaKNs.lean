/-
  KNOW: All. Own work.
-/
import Derived.Test.YtikbeagcflofhaaKNn
import Derived.Test.YtikbeagcflofhaaKNi
import Derived.Test.YtikbeagcflofhaaKNd
namespace Go.Proofs.Ytikbeagcflofhaa
open Go.RowKit Go.Maps
set_option maxRecDepth 100000
attribute [local go_sem ↓] Go.wp_at_zero Go.wp_at_succ
set_option maxHeartbeats 16000000 in
theorem know_all {w0 wr : World} {aa : Nat} {L : List Tm} {G : Nat → Prop} (T : Hid (On w0 wr aa L G)) {p : Option Addr} {c : Nat} {xs : List Int} (R : Hid (RdW wr (.slice p xs.length c) xs)) (hx : xs.length ≤ 100000) (hlt : L.length ≤ 900) (hA : Hid (allIn L xs)) : Calls Try.prog 19 #[.pointer (some ⟨aa, 0, none⟩), .slice p xs.length c] wr fun e w' =>
    ∃ kb ck kn, e = .returned (.tuple #[.slice (some ⟨kb, 0, none⟩) L.length ck, .int .i64 0]) ∧ w'.ownsRow wr.heap.size 4 1 (.slice (some ⟨kb, 0, none⟩) L.length ck) L.length (kn.map Value.bool) ∧ Below wr.heap.size wr w' ∧ ∀ i, bt kn i = true ↔ Kn L (· ∈ xs.map Int.toNat) i := by
  have HD := (show Hid (decide (allIn L xs) = true) from decide_eq_true hA.out)
  go_enter Try.func19, Try.ntmps19
  go_wp2_with (first
    | (go_at_call 59; refine (are_on T.out R.out hx).mono ?_; rintro ev w1 ⟨rfl, rfl⟩; rw [HD.out])
    | (go_at_call 65; refine (new_low T L.length rfl hlt).mono ?_; rintro ev w2 ⟨sb, A, rfl, hsb, hsea, hseg⟩; subst hsb; have HS := (show Hid (Sea w1 A L (s0 L) (.slice none 0 0) w2) from hsea); have HG := (show Hid (Seg L (usr L) A) from hseg); clear hsea hseg)
    | (go_at_call 66; refine (begin_ok HS (s0_okk (by omega)) T.out.wf).mono ?_; rintro ev w3 ⟨⟨v3, rfl⟩, wv3, hsea3, hok3⟩))
  have HO := (show Hid (∀ j, Okk L (((xs.take j).map Int.toNat).foldl lrn ((List.range L.length).foldl (bgn L) (s0 L)))) from fun j => Okk.lrns _ _ hok3 (fun y hy => by
    obtain ⟨z, hz, rfl⟩ := List.mem_map.1 hy
    have := hA.out z (List.mem_of_mem_take hz)
    omega))
  have H3 := (show Hid (Sea w1 A L ((List.range L.length).foldl (bgn L) (s0 L)) wv3 w3) from hsea3)
  clear hsea3 hok3 HS
  go_loopw [19] (fun i wq => ∃ j : Nat, i = .int .i64 j ∧ j ≤ xs.length ∧ ∃ wv, Sea w1 A L (((xs.take j).map Int.toNat).foldl lrn ((List.range L.length).foldl (bgn L) (s0 L))) wv wq) (fun i _ => xs.length - (intOf i).toNat)
  case atStart => exact ⟨0, rfl, by omega, wv3, by simpa using H3.out⟩
  case round =>
    clear H3
    obtain ⟨j, rfl, hj, wv, hsea⟩ := hrel
    have HS := (show Hid (Sea w1 A L (((xs.take j).map Int.toNat).foldl lrn ((List.range L.length).foldl (bgn L) (s0 L))) wv wr) from hsea)
    clear hsea
    by_cases hlt2 : j < xs.length
    · obtain ⟨a, e1, e2, e3⟩ := arg_at hA.out hlt2
      have hrd := rdw_kept (F := fun _ => False) R.out (Keeps.of_below HS.out.base.below) (fun _ _ _ h => h.2)
      obtain ⟨b, o, rfl, y⟩ := rdw_nth hrd hlt2
      rw [e2] at y
      have HE := (show Hid (((xs.take (j + 1)).map Int.toNat) = ((xs.take j).map Int.toNat) ++ [a]) from by
        rw [List.map_take, List.map_take, List.take_add_one, e1]; rfl)
      have hw2 : IntKind.i64.wrap ((j : Int) + 1) = ((j + 1 : Nat) : Int) := by rw [IntWalk.i64_in _ (by omega)]; rfl
      have hjI : (j : Int) < xs.length := by omega
      have HOj := (show Hid _ from HO.out j)
      clear e1 e2 hrd
      go_wp2_with (first
        | (go_at_call 67; refine (learn_ok HS HOj a e3).mono ?_; rintro ev w5 ⟨⟨v5, rfl⟩, wv5, hsea5⟩))
      refine ⟨⟨j + 1, by simp, by omega, wv5, ?_⟩, by simp [intOf]; omega⟩
      rw [HE.out, List.foldl_append]
      exact hsea5
    · obtain rfl : j = xs.length := by omega
      rw [List.take_length] at HS
      have HR := (show Hid (RunI L (usr L) (· ∈ xs.map Int.toNat) _) from runI_start (L := L) (U := usr L) (some := xs.map Int.toNat) (by omega) (fun y hy => by
        obtain ⟨z, hz, rfl⟩ := List.mem_map.1 hy
        have := hA.out z hz
        omega))
      have HN := (show Hid (Net L (usr L)) from net_of T.out.wf)
      go_wp2_with (first
        | (go_at_call 68; refine (run_ok HS HR T.out.wf HG HN).mono ?_; rintro ev w5 ⟨⟨v5, rfl⟩, s', wv5, hsea5, hr5, hk5⟩; have x1 := hsea5.base.c1))
      refine bodyPost_ret (v := .tuple #[.slice (some ⟨A.kb, 0, none⟩) L.length A.ck, .int .i64 0]) (by simp [results, Try.results19, go_sem]) rfl ?_
      exact ⟨A.kb, A.ck, s'.kn, rfl, hsea5.kn, hsea5.base.below, hr5.done HN.out hk5⟩
end Go.Proofs.Ytikbeagcflofhaa
namespace Go.Proofs.Ytikbeagcflofhaa
open Go.RowKit Go.Maps
set_option maxRecDepth 100000
attribute [local go_sem ↓] Go.wp_at_zero Go.wp_at_succ
set_option maxHeartbeats 4000000 in
theorem know_none {w0 wr : World} {aa : Nat} {L : List Tm} {G : Nat → Prop} (T : Hid (On w0 wr aa L G)) {p : Option Addr} {c : Nat} {xs : List Int} (R : Hid (RdW wr (.slice p xs.length c) xs)) (hx : xs.length ≤ 100000) (hA : ¬ allIn L xs) : Calls Try.prog 19 #[.pointer (some ⟨aa, 0, none⟩), .slice p xs.length c] wr fun e w' =>
    e = .returned (.tuple #[.slice none 0 0, .int .i64 8]) ∧ w' = wr := by
  have HD := (show Hid (decide (allIn L xs) = false) from decide_eq_false hA)
  go_enter Try.func19, Try.ntmps19
  go_wp2_with (first
    | (go_at_call 59; refine (are_on T.out R.out hx).mono ?_; rintro ev w1 ⟨rfl, rfl⟩; rw [HD.out]))
  exact bodyPost_ret (v := .tuple #[.slice none 0 0, .int .i64 8]) (by simp [results, Try.results19, go_sem]) rfl ⟨rfl, rfl⟩
end Go.Proofs.Ytikbeagcflofhaa
namespace Go.Proofs.Ytikbeagcflofhaa
open Go.RowKit Go.Maps
set_option maxRecDepth 100000
attribute [local go_sem ↓] Go.wp_at_zero Go.wp_at_succ
set_option maxHeartbeats 8000000 in
theorem know_is {w0 wr : World} {aa : Nat} {L : List Tm} {G : Nat → Prop} (T : Hid (On w0 wr aa L G)) {p : Option Addr} {c : Nat} {xs : List Int} (R : Hid (RdW wr (.slice p xs.length c) xs)) (hx : xs.length ≤ 100000) (hlt : L.length ≤ 900) (hA : Hid (allIn L xs)) (i : Nat) (hi : i < L.length) : Calls Try.prog 15 #[.pointer (some ⟨aa, 0, none⟩), .slice p xs.length c, .int .i64 i] wr fun e w' =>
    ∃ b, e = .returned (.tuple #[.bool b, .int .i64 0]) ∧ Below wr.heap.size wr w' ∧ (b = true ↔ Kn L (· ∈ xs.map Int.toNat) i) := by
  have HP := (show Hid (decide (allIn L [(i : Int)]) = true) from decide_eq_true (by intro x hx; simp only [List.mem_singleton] at hx; subst hx; omega))
  have B0 := (show Hid (Below wr.heap.size wr (wr.alloc (.cells #[.int .i64 (i : Int)] 3))) from (Below.refl _ wr).alloc (Nat.le_refl _) _)
  have T2 := (show Hid (On w0 (wr.alloc (.cells #[.int .i64 (i : Int)] 3)) aa L G) from T.out.alloc _)
  have R2 := (show Hid (RdW (wr.alloc (.cells #[.int .i64 (i : Int)] 3)) (.slice p xs.length c) xs) from rdw_kept (F := fun _ => False) R.out (Keeps.of_below B0.out) (fun _ _ _ h => h.2))
  have hiI : (i : Int) < L.length := by omega
  go_enter Try.func15, Try.ntmps15
  go_wp2_with (first
    | (go_at_call 59; refine (are_on T2.out (reads_lit [(i : Int)] rfl rfl _).rdw (by simp)).mono ?_; rintro ev w1 ⟨rfl, rfl⟩; rw [HP.out])
    | (go_at_call 19; refine (know_all T2 R2 hx hlt hA).mono ?_; rintro ev w2 ⟨kb, ck, kn, rfl, hown, hbel, hkn⟩
       have hkl : kn.length = L.length := by have := hown.1; simpa using this
       have y := (World.ownsRow.cellAt hown i (by omega)).trans (kn_at (by omega))
       have HB := (show Hid (Below wr.heap.size wr w2) from B0.out.trans (hbel.mono B0.out.size))
       have HK := (show Hid _ from hkn i)
       clear hown hbel hkn))
  exact bodyPost_ret (v := .tuple #[.bool (bt kn i), .int .i64 0]) (by simp [results, Try.results15, go_sem]) rfl ⟨_, rfl, HB.out, HK.out⟩
end Go.Proofs.Ytikbeagcflofhaa
