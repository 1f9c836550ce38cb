/-
  DISKEXACT: an act on both: Sync, Crash, Start. Own work.
-/
import Derived.Test.YtgcndphocpedjaaDKy
namespace Go.Proofs.Ytgcndphocpedjaa
open Go.ChangeShapes Go.WideShapes Go.ChangeAt Go.RowKit Go.Maps Go.Deep
set_option maxRecDepth 100000
attribute [local go_sem ↓] Go.wp_at_zero Go.wp_at_succ
def Ac.val (a : Ac) : Value := .agg #[.int .i64 a.d, .int .i64 a.i, a.bv, .bool a.raw, a.kv, .int .i64 a.t]
def Ac.obj (a : Ac) : Obj := .cells #[.int .i64 a.d, .int .i64 a.i, a.bv, .bool a.raw, a.kv, .int .i64 a.t] 35
section
variable {w0 w w' : World} {db pb n m : Nat} {d : Dk} {A : PA} {vs vn vw vk : Value} {R Mb Mc : List RowD}
theorem Bt.crashed (T : Bt w0 w db pb n m d A vs vn vw vk R Mb) {us un uw uk : Value} {A' : PA} {R2 Mb : List RowD} {ks : List Bool} {t : Int} (M : Mid w0 w' db pb n (d.crash ks t) (d.crash ks t) A' us un uw uk R2 Mb) : Bx w0 w' db pb n m := ⟨_, _, _, _, _, _, _, _, M, NowInv.crashed _ _ _, fun h => absurd h (Nat.lt_irrefl 0), by show (0 : Nat) < _; omega, Nat.zero_le _⟩
set_option maxHeartbeats 8000000 in
theorem step_sync (T : Bt w0 w db pb n m d A vs vn vw vk R Mb) (hm : m ≤ 100000) (a : Ac) (hu : (IntKind.u64.wrap a.d).tmod 8 = 3) {pb' pk' : Option Addr} {lb cb lk ck : Nat} (hb : a.bv = .slice pb' lb cb) (hk : a.kv = .slice pk' lk ck) : Calls Try.prog 11 #[.pointer (some ⟨db, 0, none⟩), .pointer (some ⟨pb, 0, none⟩), a.val] w fun e w' => e = .returned (.bool true) ∧ Bx w0 w' db pb n m := by
  have hlen := T.len
  have M0 := T.mid.step ((Below.refl _ w).alloc (Nat.le_refl _) a.obj)
  obtain ⟨ad, ai, abv, abs, ar, akv, aks, at'⟩ := a
  simp only at hu hb hk
  subst hb hk
  unfold Ac.val
  simp only [Ac.obj] at M0
  by_cases ho : d.off = true
  · go_enter Try.func11, Try.ntmps11
    go_wp2_with (first
      | (go_at_call 15; refine (sync_off M0.dsk ho).mono ?_; rintro ev w1 ⟨rfl, rfl⟩)
      | (go_at_call 22; refine (psync_off M0.pg ho).mono ?_; rintro ev w1 ⟨rfl, rfl⟩))
    go_ret
    exact ⟨by simp, d, A, vs, vn, vw, vk, R, Mb, M0, T.now, T.arm, T.small, T.len⟩
  · have ho : d.off = false := by simpa using ho
    by_cases hl : d.left = 1
    · obtain ⟨hpk, hpt⟩ := T.arm (by omega)
      go_enter Try.func11, Try.ntmps11
      go_wp2_with (first
        | (go_at_call 15; refine (sync_trip M0.dsk ho hl).mono ?_; rintro ev w1 ⟨rfl, vw1, vk1, D1⟩; have M1 := M0.ofDsk D1; clear D1)
        | (go_at_call 22; refine (psync_trip M1.pg ho hl (by omega)).mono ?_; rintro ev w2 ⟨rfl, sl, P2⟩))
      go_ret
      refine ⟨by simp, T.crashed (M1.ofPg (P2.as (d2 := d.crash d.keep d.torn) ?_ rfl rfl rfl M1.ok1))⟩
      simp only [hpk, hpt]
      rfl
    · go_enter Try.func11, Try.ntmps11
      go_wp2_with (first
        | (go_at_call 15; refine (sync_ok M0.dsk ho hl T.small).mono ?_; rintro ev w1 ⟨rfl, D1⟩; have M1 := M0.ofDsk D1; clear D1)
        | (go_at_call 22; refine (psync_ok M1.pg ho hl T.small (by omega)).mono ?_; rintro ev w2 ⟨rfl, sl, P2⟩))
      go_ret
      have hse := syn_eq T.now
      have hls : d.now.length = d.safe.length := by rw [T.mid.ok1.ln, T.mid.ok1.ls]
      refine ⟨by simp, _, _, _, _, _, _, _, _, M1.ofPg (P2.as hse rfl rfl rfl M1.ok1), ?_, ?_, ?_, Nat.zero_le _⟩
      · rw [hse]
        exact T.now.synced hls _
      · intro h
        simp only at h
        exact T.arm (by omega)
      · have := T.small
        unfold Small at this ⊢
        simp only
        omega
end
end Go.Proofs.Ytgcndphocpedjaa
