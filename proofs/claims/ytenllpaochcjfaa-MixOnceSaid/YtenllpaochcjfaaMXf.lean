/-
  MIX: areRegs, Do; the law's own wakes. Own work.
-/
import Derived.Test.YtenllpaochcjfaaMXe
namespace Go.Proofs.Ytenllpaochcjfaa
open Go.ChangeShapes Go.WideShapes Go.ChangeAt Go.RowKit Go.Maps Go.Deep
set_option maxRecDepth 100000
attribute [local go_sem ↓] Go.wp_at_zero Go.wp_at_succ
theorem reads_lit2 (w : World) (o : Obj) {n : Nat} {cs : List Value} (xs : List Int) (hcs : cs = xs.map (Value.int .i64)) (hn : xs.length = n) (e : TypeId) : Reads ((w.alloc o).alloc (.cells cs.toArray e)) (.slice (some ⟨w.heap.size + 1, 0, none⟩) n n) xs := by
  have h := reads_lit (w := w.alloc o) xs hcs hn e
  have e : (w.alloc o).heap.size = w.heap.size + 1 := by simp
  rw [e] at h
  exact h
section
variable {w wr w' : World} {aa : Nat} {L L1 : List Tm} {G : Nat → Prop}
set_option maxHeartbeats 4000000 in
theorem areRegs_ok {ws : World} (T : Hid (On w ws aa L G)) (pr : Option Addr) (n cr : Nat) (R : List Ky) (hR : R.length = n) (hn : n ≤ 500) (RK : Hid (RdK ws (.slice pr n cr) R)) (hin : Hid (∀ k ∈ R, allIn L [k.1, k.2])) : Calls Try.prog 14 #[.pointer (some ⟨aa, 0, none⟩), .slice pr n cr] ws fun e w' => e = .returned (.bool true) ∧ Below ws.heap.size ws w' := by
  go_enter Try.func14, Try.ntmps14
  go_wp2
  go_loopw [9] (fun i wq => ∃ j : Nat, i = .int .i64 j ∧ j ≤ n ∧ Below ws.heap.size ws wq) (fun i _ => n - (intOf i).toNat)
  case atStart => exact ⟨0, rfl, by omega, Below.refl _ _⟩
  case round =>
    obtain ⟨j, rfl, hj, hB⟩ := hrel
    by_cases hlt : j < n
    · obtain ⟨⟨u, v⟩, hk⟩ : ∃ k, R[j]? = some k := ⟨_, List.getElem?_eq_getElem (by omega)⟩
      obtain ⟨b, o, rfl, hb, c0, c1⟩ := rdk_nth (RK.out.below hB) hk
      simp only at c0 c1
      have hjI : (j : Int) < n := by omega
      have HD := (show Hid (decide (allIn L [u, v]) = true) from decide_eq_true (hin.out _ (at_mem hk)))
      have T1 := T.out.step hB
      clear hk
      go_wp2_with (go_at_call 15; refine (are_on ((T1.alloc _).alloc _) (xs := [u, v]) (wr := (wr.alloc (.cells #[.int .i64 u, .int .i64 v] 52)).alloc (.cells #[.int .i64 u, .int .i64 v] 3)) (reads_lit2 wr _ [u, v] rfl rfl _).rdw (by simp)).mono ?_; rintro ev w1 ⟨rfl, rfl⟩; rw [HD.out])
      exact ⟨⟨j + 1, by simp, by omega, (hB.alloc hB.size _).alloc (Nat.le_trans hB.size (by simp)) _⟩, by simp [intOf]; omega⟩
    · obtain rfl : j = n := by omega
      go_wp2
      go_ret
      exact ⟨rfl, hB⟩
set_option maxHeartbeats 4000000 in
theorem mixdo_ok {ws : World} (T : Hid (On w ws aa L G)) {z : Nat} (M : Hid (MkT L (2, 0, []) z L1)) (pr : Option Addr) (nr cr : Nat) (R0 : List Ky) (hR : R0.length = nr) (hR4 : nr ≤ 500) (RK : Hid (RdK ws (.slice pr nr cr) R0)) (hrG : Hid (∀ k, (Value.slice pr nr cr).ownBlock = some k → G k)) (hin : Hid (∀ k ∈ R0, allIn L [k.1, k.2]))
    (pl : Option Addr) (n cl : Nat) (is : List Int) (As : List Pl) (his : is.length = n) (hAs : As.length = n) (hn : n ≤ 100) (RW : Hid (RdW ws (.slice pl n cl) is)) (hlG : Hid (∀ k, (Value.slice pl n cl).ownBlock = some k → G k))
    (HA : Hid (∀ j : Nat, j < n → ∃ (x : Nat) (u y b : Int), is[j]? = some (x : Int) ∧ As[j]? = some (u, y, b) ∧ IsAsk L x (u, y, b))) :
    Calls Try.prog 7 #[.pointer (some ⟨aa, 0, none⟩), .slice pr nr cr, .slice pl n cl] ws fun e w' => ∃ (pn : Option Addr) (cn : Nat) (po : Option Addr) (co : Nat) (R : List Ky) (out : List Int), e = .returned (.tuple #[.slice pn R.length cn, .slice po out.length co, .int .i64 0]) ∧ Done As z R0 n R out ∧
      On w w' aa L1 (fun k => G k ∨ ((Value.slice pn R.length cn).ownBlock = some k ∨ (Value.slice po out.length co).ownBlock = some k)) ∧ Stay G ws w' ∧ w'.ownsRow ws.heap.size 52 2 (.slice pn R.length cn) R.length (flatK R) ∧ w'.ownsRow ws.heap.size 3 1 (.slice po out.length co) out.length (out.map (Value.int .i64)) ∧ (∀ k, (Value.slice pn R.length cn).ownBlock = some k → (Value.slice po out.length co).ownBlock ≠ some k) := by
  have hall : allIn L is := fun v hv => by
    obtain ⟨q, hq, rfl⟩ := List.getElem_of_mem hv
    obtain ⟨x, u, y, b, h1, _, h3⟩ := HA.out q (by omega)
    rw [List.getElem?_eq_getElem hq] at h1
    have hx : x < L.length := by
      cases h3 with
      | three _ _ _ _ h _ _ => exact (List.getElem?_eq_some_iff.1 h).1
      | two _ _ h _ => exact (List.getElem?_eq_some_iff.1 h).1
    have := Option.some.inj h1
    omega
  have HD := (show Hid (decide (allIn L is) = true) from decide_eq_true hall)
  have HA1 := (show Hid (∀ j : Nat, j < n → ∃ (x : Nat) (u y b : Int), is[j]? = some (x : Int) ∧ As[j]? = some (u, y, b) ∧ IsAsk L1 x (u, y, b)) from fun j hj => by
    obtain ⟨x, u, y, b, h1, h2, h3⟩ := HA.out j hj
    refine ⟨x, u, y, b, h1, h2, ?_⟩
    cases h3 with
    | three _ p q r h4 h5 h6 => exact .three _ p q r (M.out.keep _ _ h4) (M.out.keep _ _ h5) h6
    | two p q h4 h5 => exact .two p q (M.out.keep _ _ h4) (M.out.keep _ _ h5))
  have hnI : ¬ (100 : Int) < n := by omega
  clear hall
  go_enter Try.func7, Try.ntmps7
  go_wp2_with (first
    | (go_at_call 14; refine (areRegs_ok T pr nr cr R0 hR hR4 RK hin).mono ?_; rintro ev w1 ⟨rfl, B1⟩
       have HT1 := (show Hid (On w w1 aa L G) from T.out.step B1)
       have HRK1 := (show Hid (RdK w1 (.slice pr nr cr) R0) from RK.out.below B1)
       have HRW1 := (show Hid (RdW w1 (.slice pl n cl) is) from RdW.step RW.out B1)
       have HB1 := (show Hid (Below ws.heap.size ws w1) from B1)
       clear B1)
    | (go_at_call 15; refine (are_on HT1.out (xs := is) (by have := HRW1.out; rwa [← his] at this ⊢) (by omega)).mono ?_; rintro ev w2 ⟨rfl, rfl⟩; rw [HD.out])
    | (go_at_call 16; refine (do_ok HT1 M pr nr cr R0 hR hR4 HRK1 hrG pl n cl is As his hAs hn HRW1 hlG HA1).mono ?_; rintro ev w3 ⟨pn, cn, po, co, R, out, rfl, k1, k2, k3, k4, k5, k6⟩))
  refine bodyPost_ret (v := .tuple #[.slice pn R.length cn, .slice po out.length co, .int .i64 0]) (by simp [results, Try.results7, go_sem]) rfl ?_
  have := HB1.out.size
  exact ⟨pn, cn, po, co, R, out, rfl, k1, k2, (stay_below HB1.out).trans k3, row_lower k4 (by omega), row_lower k5 (by omega), k6⟩
end
end Go.Proofs.Ytenllpaochcjfaa
