/-
  LAYER 25: Want. Own work.
-/
import Derived.Test.YtcpcnjblojoppaaLWc
namespace Go.Proofs.Ytcpcnjblojoppaa
open Go.RowKit Go.Maps
set_option maxRecDepth 100000
attribute [local go_sem ↓] Go.wp_at_zero Go.wp_at_succ
def hadOf (g : Lg) (hv : List Int) : Int := hv.getD g.c.toNat 0
def hitL (g : Lg) (hv : List Int) : Prop := g.b ≤ hadOf g hv ∧ hadOf g hv < g.b + g.xs.length
instance (g : Lg) (hv : List Int) : Decidable (hitL g hv) := inferInstanceAs (Decidable (_ ∧ _))
def msgV (g : Lg) (hv : List Int) : Value := .agg #[.int .i64 g.c, .int .i64 (hadOf g hv + 1), .int .i64 (g.xs.getD (hadOf g hv - g.b).toNat 0)]
def zeroMsg : Value := .agg #[.int .i64 0, .int .i64 0, .int .i64 0]
/-- What Want answers. -/
def Wanted (S : List Lg) (hv : List Int) (e : Ending) : Prop :=
  (∃ (i : Nat) (g : Lg), S[i]? = some g ∧ hitL g hv ∧ (∀ (k : Nat) (x : Lg), S[k]? = some x → k < i → ¬ hitL x hv) ∧ e = .returned (.tuple #[msgV g hv, .bool true])) ∨ ((∀ (k : Nat) (x : Lg), S[k]? = some x → ¬ hitL x hv) ∧ e = .returned (.tuple #[zeroMsg, .bool false]))
theorem far3 (w : World) (b : Nat) (x y z : Value) (a : Addr) (h : b ≠ a.block) : ((((w.setCell ⟨b, 0, none⟩ x).setCell ⟨b, 1, none⟩ y).setCell ⟨b, 2, none⟩ z).drew).cell? a = w.cell? a := by
  show (((w.setCell ⟨b, 0, none⟩ x).setCell ⟨b, 1, none⟩ y).setCell ⟨b, 2, none⟩ z).cell? a = _
  rw [World.cell?_setCell_far _ _ _ _ h, World.cell?_setCell_far _ _ _ _ h, World.cell?_setCell_far _ _ _ _ h]
set_option maxHeartbeats 16000000 in
theorem want_low (p : Option Addr) (n cc : Nat) (S : List Lg) (hn : S.length = n) (h4 : n ≤ 1000) (pv : Option Addr) (cv : Nat) (hv : List Int) (h8 : hv.length = 8) (ws : World) (HR : Hid (Right S)) (HS : Hid (Logs ws (.slice p n cc) S)) (HV : Hid (RdW ws (.slice pv 8 cv) hv)) : Calls Try.prog 22 #[.slice p n cc, .slice pv 8 cv] ws fun e w' => Wanted S hv e ∧ Below ws.heap.size ws w' := by
  go_enter Try.func22, Try.ntmps22
  go_wp2_with (go_at_call 11; refine (check_ok (HS.out.below ((Below.refl _ ws).alloc (Nat.le_refl _) (.cells #[.int .i64 0, .int .i64 0, .int .i64 0] 24))) (by omega)).mono ?_; rintro ev w1 ⟨B1, r, rfl, hr⟩; obtain rfl : r = 0 := by (rcases hr with h | h; exact h.1; exact absurd HR.out h.2))
  have hsz := B1.size
  simp only [World.size_alloc] at hsz
  have z0 : w1.cell? ⟨ws.heap.size, 0, none⟩ = some (.int .i64 0) := (B1.cell (p := ⟨ws.heap.size, 0, none⟩) (by simp)).trans (by simp [go_sem])
  have z1 : w1.cell? ⟨ws.heap.size, 1, none⟩ = some (.int .i64 0) := (B1.cell (p := ⟨ws.heap.size, 1, none⟩) (by simp)).trans (by simp [go_sem])
  have z2 : w1.cell? ⟨ws.heap.size, 2, none⟩ = some (.int .i64 0) := (B1.cell (p := ⟨ws.heap.size, 2, none⟩) (by simp)).trans (by simp [go_sem])
  have f0 : w1.frozen? ⟨ws.heap.size, 0, none⟩ = false := (B1.frozen (p := ⟨ws.heap.size, 0, none⟩) (by simp)).trans (by simp [go_sem])
  have f1 : w1.frozen? ⟨ws.heap.size, 1, none⟩ = false := (B1.frozen (p := ⟨ws.heap.size, 1, none⟩) (by simp)).trans (by simp [go_sem])
  have f2 : w1.frozen? ⟨ws.heap.size, 2, none⟩ = false := (B1.frozen (p := ⟨ws.heap.size, 2, none⟩) (by simp)).trans (by simp [go_sem])
  have B0 : Below ws.heap.size ws w1 := ((Below.refl _ ws).alloc (Nat.le_refl _) _).trans (B1.mono (by simp))
  have HS1 := (show Hid (Logs w1 (.slice p n cc) S) from HS.out.below B0)
  have HV1 := (show Hid _ from RdW.below HV.out B0)
  clear HV hr B1
  go_loopw [20] (fun i wq => ∃ j : Nat, i = .int .i64 j ∧ j ≤ n ∧ (∀ (k : Nat) (x : Lg), S[k]? = some x → k < j → ¬ hitL x hv) ∧ Below w1.heap.size w1 wq) (fun i _ => n - (intOf i).toNat)
  case atStart => exact ⟨0, rfl, by omega, fun k x _ h => by omega, Below.refl _ _⟩
  case round =>
    obtain ⟨j, rfl, hj, hall, hB⟩ := hrel
    have HA := (show Hid _ from hall)
    clear hall
    have hz1 : ws.heap.size < w1.heap.size := by omega
    have y0 := (hB.cell (p := ⟨ws.heap.size, 0, none⟩) hz1).trans z0
    have y1 := (hB.cell (p := ⟨ws.heap.size, 1, none⟩) hz1).trans z1
    have y2 := (hB.cell (p := ⟨ws.heap.size, 2, none⟩) hz1).trans z2
    have g0 := (hB.frozen (p := ⟨ws.heap.size, 0, none⟩) hz1).trans f0
    have g1 := (hB.frozen (p := ⟨ws.heap.size, 1, none⟩) hz1).trans f1
    have g2 := (hB.frozen (p := ⟨ws.heap.size, 2, none⟩) hz1).trans f2
    have hwr := hB.size
    have hyz : ws.heap.size < wr.heap.size := by omega
    by_cases hlt : j < n
    · have B05 : Below ws.heap.size ws wr := B0.trans (hB.mono (by omega))
      obtain ⟨b, o, k, m, q, c4, xs, rfl, hb0, hsj, hst0⟩ := logs_at HS.out (j := j) (by omega)
      have hst := hst0.below hb0 B05
      have hb := Nat.lt_of_lt_of_le hb0 B05.size
      have hok := right_ok' HR.out hsj
      obtain ⟨k0, k8, m0, m1, x32, xall⟩ := hok
      simp only at k0 k8 m0 m1 x32 xall
      have x0 := hst.c
      have x1 := hst.b
      have x2 := hst.v
      have HSJ := (show Hid _ from hsj)
      have HRD := (show Hid _ from hst0.args)
      clear hst hst0 hsj xall
      simp only at x0 x1 x2
      obtain ⟨k, rfl⟩ : ∃ q : Nat, k = q := ⟨k.toNat, by omega⟩
      obtain ⟨m, rfl⟩ : ∃ q : Nat, m = q := ⟨m.toNat, by omega⟩
      obtain ⟨bv, ov, rfl, hbv, hcv⟩ := rdw_at (RdW.below HV1.out hB) (t := k) (by omega)
      have hk8 : (k : Int) < 8 := k8
      have hhad : hadOf ⟨k, m, .slice q xs.length c4, xs⟩ hv = hv.getD k 0 := by simp [hadOf]
      generalize hv.getD k 0 = hh at hcv hhad
      have HH := (show Hid _ from hhad)
      clear hhad
      have hnot : ¬ (m ≤ hh ∧ hh < m + xs.length) → (∀ (z : Nat) (x : Lg), S[z]? = some x → z < j + 1 → ¬ hitL x hv) := by
        intro hn z x hx hz hhit
        rcases Nat.lt_or_ge z j with h | h
        · exact HA.out z x hx h hhit
        · obtain rfl : z = j := by omega
          rw [HSJ.out] at hx
          cases hx
          unfold hitL at hhit
          rw [HH.out] at hhit
          exact hn hhit
      have HN := (show Hid _ from hnot)
      clear hnot
      by_cases h1 : 0 ≤ hh
      rotate_left
      · have hd1 : decide (0 ≤ hh) = false := decide_eq_false h1
        go_wp2
        exact ⟨⟨j + 1, by simp, by omega, HN.out (by omega), hB.alloc hB.size _⟩, by simp [intOf]; omega⟩
      have hd1 : decide (0 ≤ hh) = true := decide_eq_true h1
      by_cases h2 : (m : Int) ≤ hh
      rotate_left
      · have hd2 : decide ((m : Int) ≤ hh) = false := decide_eq_false h2
        go_wp2
        exact ⟨⟨j + 1, by simp, by omega, HN.out (by omega), hB.alloc hB.size _⟩, by simp [intOf]; omega⟩
      have hd2 : decide ((m : Int) ≤ hh) = true := decide_eq_true h2
      by_cases h3 : hh < (m : Int) + xs.length
      rotate_left
      · have hd3 : decide (hh < (m : Int) + xs.length) = false := decide_eq_false h3
        go_wp2_with (go_at_call 28; refine (has_lg _ _ _ _ _ (by omega) (by omega) _).mono ?_; rintro ev w3 ⟨rfl, B3⟩)
        exact ⟨⟨j + 1, by simp, by omega, HN.out (by omega), (hB.alloc hB.size _).trans (B3.mono (by simp; omega))⟩, by simp [intOf]; omega⟩
      have hd3 : decide (hh < (m : Int) + xs.length) = true := decide_eq_true h3
      obtain ⟨d, hd⟩ : ∃ d : Nat, hh - (m : Int) = d := ⟨(hh - m).toNat, by omega⟩
      have hdl : d < xs.length := by omega
      have hdI : (d : Int) < xs.length := by omega
      have hd0 : (0 : Int) ≤ d := by omega
      have hw : IntKind.i64.wrap (hh - (m : Int)) = (d : Int) := (IntWalk.i64_in _ (by omega)).trans hd
      have hw1 : IntKind.i64.wrap (hh + 1) = hh + 1 := IntWalk.i64_in _ (by omega)
      have HD := (show Hid _ from hd)
      clear hd
      obtain ⟨bx, ox, rfl, hbx, hcx⟩ := rdw_at HRD.out (t := d) hdl
      go_wp2_with (go_at_call 28; refine (has_lg _ _ _ _ _ (by omega) (by omega) _).mono ?_; rintro ev w3 ⟨rfl, B3⟩
                   have e0 : w3.cell? ⟨wr.heap.size, 0, none⟩ = some (.int .i64 k) := (B3.cell (p := ⟨wr.heap.size, 0, none⟩) (by simp)).trans (by simp [go_sem])
                   have e1 : w3.cell? ⟨wr.heap.size, 1, none⟩ = some (.int .i64 m) := (B3.cell (p := ⟨wr.heap.size, 1, none⟩) (by simp)).trans (by simp [go_sem])
                   have e2 : w3.cell? ⟨wr.heap.size, 2, none⟩ = some (.slice (some ⟨bx, ox, none⟩) xs.length c4) := (B3.cell (p := ⟨wr.heap.size, 2, none⟩) (by simp)).trans (by simp [go_sem]))
      have B4 := (hB.alloc hB.size (.cells #[.int .i64 k, .int .i64 m, .slice (some ⟨bx, ox, none⟩) xs.length c4] 52)).trans (B3.mono (by simp; omega))
      have q0 := (B4.cell (p := ⟨ws.heap.size, 0, none⟩) hz1).trans z0
      have q1 := (B4.cell (p := ⟨ws.heap.size, 1, none⟩) hz1).trans z1
      have q2 := (B4.cell (p := ⟨ws.heap.size, 2, none⟩) hz1).trans z2
      have p0 := (B4.frozen (p := ⟨ws.heap.size, 0, none⟩) hz1).trans f0
      have p1 := (B4.frozen (p := ⟨ws.heap.size, 1, none⟩) hz1).trans f1
      have p2 := (B4.frozen (p := ⟨ws.heap.size, 2, none⟩) hz1).trans f2
      have s3 := B3.size
      simp only [World.size_alloc] at s3
      have e3 : w3.cell? ⟨bx, ox + d, none⟩ = some (.int .i64 (xs.getD d 0)) := (((Below.refl _ wr).alloc (Nat.le_refl _) (.cells #[.int .i64 k, .int .i64 m, .slice (some ⟨bx, ox, none⟩) xs.length c4] 52)).trans (B3.mono (by simp)) |>.cell (p := ⟨bx, ox + d, none⟩) (Nat.lt_of_lt_of_le hbx B05.size)).trans ((B05.cell (p := ⟨bx, ox + d, none⟩) hbx).trans hcx)
      clear y0 y1 y2 g0 g1 g2 x0 x1 x2 hcx hcv z0 z1 z2 f0 f1 f2
      have hbody : ∃ bd, xs.getD d 0 = bd := ⟨_, rfl⟩
      obtain ⟨bd, hbd⟩ := hbody
      rw [hbd] at e3
      have HBD := (show Hid _ from hbd)
      clear hbd
      have hne : ws.heap.size ≠ wr.heap.size := by omega
      have hnx : ws.heap.size ≠ bx := by omega
      go_region_held3 (fun w' => w'.cell? ⟨wr.heap.size, 0, none⟩ = some (.int .i64 k) ∧ w'.cell? ⟨wr.heap.size, 1, none⟩ = some (.int .i64 m) ∧ w'.cell? ⟨wr.heap.size, 2, none⟩ = some (.slice (some ⟨bx, ox, none⟩) xs.length c4) ∧ w'.cell? ⟨bx, ox + d, none⟩ = some (.int .i64 bd))
        (first | exact ⟨e0, e1, e2, e3⟩ | exact ⟨(far3 _ _ _ _ _ _ hne).trans e0, (far3 _ _ _ _ _ _ hne).trans e1, (far3 _ _ _ _ _ _ hne).trans e2, (far3 _ _ _ _ _ _ hnx).trans e3⟩) (first | (go_at_call 11; fail))
      try simp only [Exit.then]
      go_wp2
      have hval : (Value.tuple #[.agg #[.int .i64 k, .int .i64 (hh + 1), .int .i64 bd], .bool true]) = .tuple #[msgV ⟨k, m, .slice (some ⟨bx, ox, none⟩) xs.length c4, xs⟩ hv, .bool true] := by
        unfold msgV
        rw [HH.out]
        simp only
        rw [HD.out, Int.toNat_natCast, HBD.out]
      have hB5 : Below ws.heap.size ws w3 := B0.trans (B4.mono (by omega))
      refine bodyPost_ret (v := .tuple #[.agg #[.int .i64 k, .int .i64 (hh + 1), .int .i64 bd], .bool true]) (by simp [results, Try.results22, go_sem, q0, q1, q2]) rfl ⟨.inl ⟨j, _, HSJ.out, ?_, HA.out, congrArg Ending.returned hval⟩, ?_⟩
      · unfold hitL
        rw [HH.out]
        exact ⟨h2, h3⟩
      · exact (((hB5.setCell (p := ⟨ws.heap.size, 0, none⟩) (Nat.le_refl _) _).setCell (p := ⟨ws.heap.size, 1, none⟩) (Nat.le_refl _) _).setCell (p := ⟨ws.heap.size, 2, none⟩) (Nat.le_refl _) _).drew
    · go_wp2
      obtain rfl : j = n := by omega
      have hB5 : Below ws.heap.size ws wr := B0.trans (hB.mono (by omega))
      refine bodyPost_ret (v := .tuple #[zeroMsg, .bool false]) (by simp [results, Try.results22, go_sem, y0, y1, y2, zeroMsg]) rfl ⟨.inr ⟨fun k x hx => HA.out k x hx (by have := (List.getElem?_eq_some_iff.1 hx).1; omega), rfl⟩, ?_⟩
      exact ((hB5.setCell (p := ⟨ws.heap.size, 0, none⟩) (Nat.le_refl _) _).setCell (p := ⟨ws.heap.size, 1, none⟩) (Nat.le_refl _) _).setCell (p := ⟨ws.heap.size, 2, none⟩) (Nat.le_refl _) _
end Go.Proofs.Ytcpcnjblojoppaa
