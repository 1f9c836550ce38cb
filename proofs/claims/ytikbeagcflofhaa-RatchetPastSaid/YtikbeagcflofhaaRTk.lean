/-
  RATCHET: slices.Delete of a key. Own work.
-/
import Derived.Test.YtikbeagcflofhaaRTg
import Derived.Test.YtikbeagcflofhaaKNi
import Derived.Deep.RegionLaw
import Derived.Lib.SliceRun
namespace Go.Proofs.Ytikbeagcflofhaa
open Go.ChangeShapes Go.WideShapes Go.ChangeAt Go.RowKit Go.Maps
set_option maxRecDepth 100000
attribute [local go_sem ↓] Go.wp_at_zero Go.wp_at_succ
/-- Overwritten from o on. -/
def ov (xs : List Value) : Nat → List Value → List Value
  | _, [] => xs
  | o, v :: vs => ov (xs.set o v) (o + 1) vs
theorem ov_len : ∀ (vs : List Value) (xs : List Value) (o : Nat), (ov xs o vs).length = xs.length
  | [], xs, o => rfl
  | v :: vs, xs, o => by rw [ov, ov_len vs]; simp
theorem ov_eq : ∀ (vs : List Value) (xs : List Value) (o : Nat), o + vs.length ≤ xs.length → ov xs o vs = xs.take o ++ vs ++ xs.drop (o + vs.length)
  | [], xs, o, h => by simp [ov]
  | v :: vs, xs, o, h => by
    simp only [List.length_cons] at h
    rw [ov, ov_eq vs (xs.set o v) (o + 1) (by simp; omega)]
    have e1 : (xs.set o v).take (o + 1) = xs.take o ++ [v] := by
      rw [List.take_add_one, List.getElem?_set_self (by omega), List.take_set_of_le (Nat.le_refl _)]
      rfl
    have e2 : (xs.set o v).drop (o + 1 + vs.length) = xs.drop (o + (v :: vs).length) := by
      rw [List.drop_set_of_lt (by omega), List.length_cons]
      congr 1
      omega
    rw [e1, e2]
    simp
theorem own_set {base e size g n cap : Nat} : ∀ (vs : List Value) (o : Nat) (w : World) (xs : List Value), w.ownsRow base e size (.slice (some ⟨g, 0, none⟩) n cap) n xs → (w.setCells g o vs).ownsRow base e size (.slice (some ⟨g, 0, none⟩) n cap) n (ov xs o vs) ∧ Keeps (fun k => k = g) w (w.setCells g o vs)
  | [], o, w, xs, h => ⟨h, Keeps.refl _ _⟩
  | v :: vs, o, w, xs, h => by
    obtain ⟨h1, h2⟩ := World.ownsRow.stored h o v
    obtain ⟨h3, h4⟩ := own_set vs (o + 1) _ _ h1
    exact ⟨h3, Keeps.trans (Keeps.of_grown h2 (fun k hk => by cases hk; rfl)) h4 (fun _ _ h => h)⟩
theorem clear1 (w : World) (ty : TypeId) (b o c : Nat) (hc : ∀ j, j < 2 → (w.cell? ⟨b, o + j, none⟩).isSome = true) (hf : ∀ j, j < 2 → w.frozen? ⟨b, o + j, none⟩ = false) :
    (Builtin.clear_ #[68] ty #[.slice (some ⟨b, o, none⟩) 1 c]).run Try.prog w = .ok (.tuple #[]) (w.setCells b o [.int .i64 0, .int .i64 0]) := by
  have hv : ∀ w, (zeroValue 87).run Try.prog w = .ok (.agg #[.int .i64 0, .int .i64 0]) w := fun w => by kernel_rfl
  have hzc : (Builtin.zeroCells (Value.agg #[.int .i64 0, .int .i64 0]).cells 1).toList = [.int .i64 0, .int .i64 0] := by kernel_rfl
  have hst := run_storeCells_cells (P := Try.prog) b o [.int .i64 0, .int .i64 0] 0 w (by simpa using hc) (by simpa using hf) (by intro v hv'; simp at hv'; subst hv'; rfl)
  simp only [Nat.add_zero] at hst
  simp [Builtin.clear_, run_underlying Try.underlying68, hv, hzc, hst]
theorem flatK_erase (sk : List Ky) (t : Nat) (h : t < sk.length) : flatK (sk.eraseIdx t) = (flatK sk).take (t * 2) ++ flatK (sk.drop (t + 1)) := by
  have e1 : sk.eraseIdx t = sk.take t ++ sk.drop (t + 1) := List.eraseIdx_eq_take_drop_succ sk t
  have e2 : flatK sk = flatK (sk.take t) ++ flatK (sk.drop t) := by rw [← flatK_app, List.take_append_drop]
  have e3 : (flatK (sk.take t)).length = t * 2 := by rw [flatK_len, List.length_take]; omega
  rw [e1, flatK_app, e2, List.take_left' e3]
set_option maxHeartbeats 4000000 in
theorem delete_low (g c t r base : Nat) (sk : List Ky) (hsk : Hid (sk.length = t + 1 + r)) (hc : t + 1 + r ≤ c) (h4 : t + 1 + r ≤ 1000) (ws : World) (HR : Hid (ws.ownsRow base 87 2 (.slice (some ⟨g, 0, none⟩) (t + 1 + r) c) (t + 1 + r) (flatK sk))) : Calls Try.prog 91 #[.slice (some ⟨g, 0, none⟩) (t + 1 + r) c, .int .i64 t, .int .i64 ((t : Int) + 1)] ws fun e w' => e = .returned (.slice (some ⟨g, 0, none⟩) (t + r) c) ∧ w'.ownsRow base 87 2 (.slice (some ⟨g, 0, none⟩) (t + r) c) (t + r) (flatK (sk.eraseIdx t)) ∧ Keeps (fun k => k = g) ws w' := by
  obtain ⟨i0, hi', hz0, hz1, hz2⟩ := info_parts (P := Try.prog) (e := 87) (z := .agg #[.int .i64 0, .int .i64 0]) (size := 2) (bytes := 16) (by kernel_rfl)
  have hlen : (flatK sk).length = (t + 1 + r) * 2 := by rw [flatK_len, hsk.out]
  have hdl : (flatK (sk.drop (t + 1))).length = r * 2 := by rw [flatK_len, List.length_drop, hsk.out]; omega
  have hcell := fun j hj => World.ownsRow.cellAt HR.out j hj
  have hfro := fun j => World.ownsRow.frozenAt HR.out j
  obtain ⟨A, hA, hsrc⟩ : ∃ A : Addr, (if c = t + 1 then (some ⟨g, 0, none⟩ : Option Addr) else some ⟨g, (t + 1) * 2, none⟩) = some A ∧ Hid (∀ q u, (flatK (sk.drop (t + 1)))[q]? = some u → ws.drew.cell? (A.add q) = some u) := by
    by_cases h : c = t + 1
    · refine ⟨⟨g, 0, none⟩, by simp [h], (fun q u hu => ?_ : ∀ q u, (flatK (sk.drop (t + 1)))[q]? = some u → ws.drew.cell? ((⟨g, 0, none⟩ : Addr).add q) = some u)⟩
      have := (List.getElem?_eq_some_iff.1 hu).1
      omega
    · refine ⟨⟨g, (t + 1) * 2, none⟩, by simp [h], (fun q u hu => ?_ : ∀ q u, (flatK (sk.drop (t + 1)))[q]? = some u → ws.drew.cell? ((⟨g, (t + 1) * 2, none⟩ : Addr).add q) = some u)⟩
      have hq := (List.getElem?_eq_some_iff.1 hu).1
      rw [add_plain]
      have e2 : flatK sk = flatK (sk.take (t + 1)) ++ flatK (sk.drop (t + 1)) := by rw [← flatK_app, List.take_append_drop]
      have e3 : (flatK (sk.take (t + 1))).length = (t + 1) * 2 := by rw [flatK_len, List.length_take, hsk.out]; omega
      have := hcell ((t + 1) * 2 + q) (by omega)
      rw [e2, List.getElem?_append_right (by omega), e3, Nat.add_sub_cancel_left] at this
      exact this.trans hu
  obtain ⟨W1, hW1⟩ : ∃ W1, W1 = ws.drew.setCells g (t * 2) (flatK (sk.drop (t + 1))) := ⟨_, rfl⟩
  have HRd : ws.drew.ownsRow base 87 2 (.slice (some ⟨g, 0, none⟩) (t + 1 + r) c) (t + 1 + r) (flatK sk) := row_keeps (F := fun _ => False) HR.out (Keeps.of_below (Below.refl _ ws).drew) (fun _ _ h => h)
  obtain ⟨ho1, hk1⟩ := own_set (flatK (sk.drop (t + 1))) (t * 2) ws.drew (flatK sk) HRd
  rw [← hW1] at ho1 hk1
  have hcl : ∀ ty, (Builtin.clear_ #[68] ty #[.slice (some ⟨g, (t + r) * 2, none⟩) (t + 1 + r - (t + r)) (c - (t + r))]).run Try.prog W1 = .ok (.tuple #[]) (W1.setCells g ((t + r) * 2) [.int .i64 0, .int .i64 0]) := fun ty => by
    rw [show t + 1 + r - (t + r) = 1 by omega]
    exact clear1 W1 ty g ((t + r) * 2) _ (fun j hj => by
      rw [World.ownsRow.cellAt ho1 _ (by omega)]
      rw [List.getElem?_eq_getElem (by rw [ov_len]; omega)]
      rfl) (fun j hj => World.ownsRow.frozenAt ho1 _)
  obtain ⟨ho2, hk2⟩ := own_set [.int .i64 0, .int .i64 0] ((t + r) * 2) W1 _ ho1
  have HO2 := (show Hid (t + r ≤ t + r → (W1.setCells g ((t + r) * 2) [.int .i64 0, .int .i64 0]).ownsRow base 87 2 (.slice (some ⟨g, 0, none⟩) (t + r) c) (t + r) (flatK (sk.eraseIdx t))) from fun _ => by
    have h1 := row_shrink ho2 (m := t + r) (by omega) (by omega)
    rw [flatK_erase sk t (by rw [hsk.out]; omega)]
    rw [ov_eq _ _ _ (by rw [ov_len]; simp; omega), ov_eq _ _ _ (by rw [hdl]; omega), List.append_assoc, List.take_append_of_le_length (by rw [List.length_take, List.length_append, List.length_append, List.length_take, List.length_drop]; omega), List.take_take, Nat.min_self, List.take_append_of_le_length (by rw [List.length_append, List.length_take]; omega), List.take_of_length_le (by rw [List.length_append, List.length_take]; omega)] at h1
    exact h1)
  have HK := (show Hid (Keeps (fun k => k = g) ws (W1.setCells g ((t + r) * 2) [.int .i64 0, .int .i64 0])) from Keeps.trans (Keeps.trans (Keeps.of_below (F := fun k => k = g) (Below.refl _ ws).drew) hk1 (fun _ _ h => h)) hk2 (fun _ _ h => h))
  have s3 : Hid (∀ q, q < (flatK (sk.drop (t + 1))).length → (ws.drew.cell? ⟨g, 0 + t * 2 + q, none⟩).isSome = true ∧ ws.drew.frozen? ⟨g, 0 + t * 2 + q, none⟩ = false) := (fun q hq => by
    rw [Nat.zero_add]
    refine ⟨?_, World.ownsRow.frozenAt HRd _⟩
    rw [World.ownsRow.cellAt HRd _ (by omega), List.getElem?_eq_getElem (by omega)]
    rfl : ∀ q, q < (flatK (sk.drop (t + 1))).length → (ws.drew.cell? ⟨g, 0 + t * 2 + q, none⟩).isSome = true ∧ ws.drew.frozen? ⟨g, 0 + t * 2 + q, none⟩ = false)
  have s1 := (show Hid ((flatK (sk.drop (t + 1))).length = r * 2) from hdl)
  have hW := (show Hid (W1 = ws.drew.setCells g (0 + t * 2) (flatK (sk.drop (t + 1)))) from by rw [Nat.zero_add]; exact hW1)
  have hic : t ≤ c := by omega
  have hjc : t + 1 ≤ c := by omega
  have htI : (t : Int) + 1 ≤ (t : Int) + 1 + r := by omega
  have hne : ¬ t = t + 1 := by omega
  have h0t : (0 : Int) ≤ (t : Int) + 1 := by omega
  have htn : t + 1 ≤ t + 1 + r := by omega
  clear hW1 hcell hfro HRd ho1 hk1 ho2 hk2 hlen hdl
  go_enter Try.func91, Try.ntmps91
  go_wp2_with fail
  go_region_law (refine step_append_room rfl (.tmp 22) (.tmp 25) 68 rfl 87 i0 2 Try.underlying68 hi' hz1 g 0 t c (by simp [Act.eval, Act.put]) A r (c - (t + 1)) (flatK (sk.drop (t + 1))) (by simp [Act.eval, Act.put]) s1.out hsrc.out (flatK_one _) (by omega) s3.out ?_; rw [← hW.out])
  try simp only [Exit.then]
  go_wp2
  go_ret
  exact ⟨rfl, HO2.out (Nat.le_refl _), HK.out⟩
end Go.Proofs.Ytikbeagcflofhaa
namespace Go.Proofs.Ytikbeagcflofhaa
open Go.ChangeShapes Go.WideShapes Go.ChangeAt Go.RowKit Go.Maps
set_option maxRecDepth 100000
attribute [local go_sem ↓] Go.wp_at_zero Go.wp_at_succ
theorem delete_k {g c t base : Nat} {sk : List Ky} {ws : World} (ht : t < sk.length) (hc : sk.length ≤ c) (h4 : sk.length ≤ 1000) (HR : ws.ownsRow base 87 2 (.slice (some ⟨g, 0, none⟩) sk.length c) sk.length (flatK sk)) : Calls Try.prog 91 #[.slice (some ⟨g, 0, none⟩) sk.length c, .int .i64 t, .int .i64 ((t : Int) + 1)] ws fun e w' => e = .returned (.slice (some ⟨g, 0, none⟩) (sk.eraseIdx t).length c) ∧ w'.ownsRow base 87 2 (.slice (some ⟨g, 0, none⟩) (sk.eraseIdx t).length c) (sk.eraseIdx t).length (flatK (sk.eraseIdx t)) ∧ Keeps (fun k => k = g) ws w' := by
  obtain ⟨r, hr⟩ : ∃ r, sk.length = t + 1 + r := ⟨sk.length - (t + 1), by omega⟩
  have he : (sk.eraseIdx t).length = t + r := by rw [List.length_eraseIdx, if_pos ht]; omega
  rw [hr] at HR hc h4
  rw [he, hr]
  exact delete_low g c t r base sk hr hc h4 ws HR
theorem keeps_two (w5 : World) (hb ob : Nat) (v5 v6 u0 u1 : Value) : Keeps (fun k => k = hb ∨ k = ob) w5 (((((w5.setCell ⟨hb, 2, none⟩ v5).setCell ⟨ob, 0, none⟩ u0).setCell ⟨ob, 1, none⟩ u1).setCell ⟨ob, 2, none⟩ v6).drew) := by
  have h1 : Keeps (fun k => k = hb ∨ k = ob) w5 (w5.setCell ⟨hb, 2, none⟩ v5) := Keeps.of_grown (put_grown _ _ _) (fun k hk => by cases hk; exact .inl rfl)
  have h2 : ∀ (x : World) (t : Nat) (u : Value), Keeps (fun k => k = hb ∨ k = ob) x (x.setCell ⟨ob, t, none⟩ u) := fun x t u => Keeps.of_grown (put_grown _ _ _) (fun k hk => by cases hk; exact .inr rfl)
  have h3 : ∀ x : World, Keeps (fun k => k = hb ∨ k = ob) x x.drew := fun x => ⟨rfl, rfl, rfl, Nat.le_refl _, fun _ _ _ => rfl⟩
  have tr : ∀ {a b c : World}, Keeps (fun k => k = hb ∨ k = ob) a b → Keeps (fun k => k = hb ∨ k = ob) b c → Keeps (fun k => k = hb ∨ k = ob) a c := fun h h' => Keeps.trans h h' (fun _ _ h => h)
  exact tr (tr (tr (tr h1 (h2 _ _ _)) (h2 _ _ _)) (h2 _ _ _)) (h3 _)
set_option maxHeartbeats 4000000 in
theorem skipped_yes (p : Option Addr) (c : Nat) (ch next m : Int) (sk : List Ky) (ws : World) (h4 : sk.length ≤ 1000) (RK : Hid (RdK ws (.slice p sk.length c) sk)) (hyes : Hid (∃ k ∈ sk, k.1 = m)) : Calls Try.prog 76 #[.agg #[.int .i64 ch, .int .i64 next, .slice p sk.length c], .int .i64 m] ws fun e w' => ∃ (t : Nat) (s : Int) (q : Option Addr) (d : Nat), sk[t]? = some (m, s) ∧ e = .returned (.tuple #[.int .i64 s, .agg #[.int .i64 ch, .int .i64 next, .slice q (sk.eraseIdx t).length d], .int .i64 0]) ∧ w'.ownsRow (ws.heap.size + 3) 87 2 (.slice q (sk.eraseIdx t).length d) (sk.eraseIdx t).length (flatK (sk.eraseIdx t)) ∧ Below ws.heap.size ws w' := by
  go_enter Try.func76, Try.ntmps76
  let o1 : Obj := .cells #[.int .i64 ch, .int .i64 next, .slice p sk.length c] 70
  let o2 : Obj := .cells #[.int .i64 m] 3
  let o3 : Obj := .cells #[.int .i64 0, .int .i64 0, .slice none 0 0] 70
  go_wp2_with (first
    | (go_at_call 89
       refine (index_low p c (ws.heap.size + 1) m sk (((ws.alloc o1).alloc o2).alloc o3) h4 (((RK.out.alloc _).alloc _).alloc _) (by simp) (show Hid ((((ws.alloc o1).alloc o2).alloc o3).cell? ⟨ws.heap.size + 1, 0, none⟩ = some (.int .i64 m)) from (show ((((ws.alloc o1).alloc o2).alloc o3).cell? ⟨ws.heap.size + 1, 0, none⟩ = some (.int .i64 m)) from by simp [go_sem, o1, o2, o3]))).mono ?_; rintro ev w1 ⟨i, rfl, hi, B1⟩
       rcases hi with ⟨_, hno⟩ | ⟨t, s, rfl, ht⟩
       · exact absurd hyes.out (fun ⟨k, hk, e⟩ => hno k hk e)
       have HT := (show Hid (sk[t]? = some (m, s)) from ht)
       have htl : t < sk.length := (List.getElem?_eq_some_iff.1 ht).1
       have htI : (t : Int) < sk.length := by omega
       have hsz : ws.heap.size + 3 ≤ w1.heap.size := by have := B1.size; simpa using this
       have HB1 := (show Hid (Below ws.heap.size ws w1) from ((((Below.refl _ ws).alloc (Nat.le_refl _) o1).alloc (by simp) o2).alloc (by simp; omega) o3).trans (B1.mono (by simp; omega)))
       have r0 : w1.cell? ⟨ws.heap.size, 0, none⟩ = some (.int .i64 ch) := (B1.cell (p := ⟨ws.heap.size, 0, none⟩) (by simp; omega)).trans (by simp [go_sem, o1, o2, o3])
       have r1 : w1.cell? ⟨ws.heap.size, 1, none⟩ = some (.int .i64 next) := (B1.cell (p := ⟨ws.heap.size, 1, none⟩) (by simp; omega)).trans (by simp [go_sem, o1, o2, o3])
       have r2 : w1.cell? ⟨ws.heap.size, 2, none⟩ = some (.slice p sk.length c) := (B1.cell (p := ⟨ws.heap.size, 2, none⟩) (by simp; omega)).trans (by simp [go_sem, o1, o2, o3])
       have rf : w1.frozen? ⟨ws.heap.size, 2, none⟩ = false := (B1.frozen (p := ⟨ws.heap.size, 2, none⟩) (by simp; omega)).trans (by simp [go_sem, o1, o2, o3])
       have d0 : w1.cell? ⟨ws.heap.size + 1 + 1, 0, none⟩ = some (.int .i64 0) := (B1.cell (p := ⟨ws.heap.size + 1 + 1, 0, none⟩) (by simp)).trans (by simp [go_sem, o1, o2, o3])
       have d1 : w1.cell? ⟨ws.heap.size + 1 + 1, 1, none⟩ = some (.int .i64 0) := (B1.cell (p := ⟨ws.heap.size + 1 + 1, 1, none⟩) (by simp)).trans (by simp [go_sem, o1, o2, o3])
       have d2 : w1.cell? ⟨ws.heap.size + 1 + 1, 2, none⟩ = some (.slice none 0 0) := (B1.cell (p := ⟨ws.heap.size + 1 + 1, 2, none⟩) (by simp)).trans (by simp [go_sem, o1, o2, o3])
       have q0 : w1.frozen? ⟨ws.heap.size + 1 + 1, 0, none⟩ = false := (B1.frozen (p := ⟨ws.heap.size + 1 + 1, 0, none⟩) (by simp)).trans (by simp [go_sem, o1, o2, o3])
       have q1 : w1.frozen? ⟨ws.heap.size + 1 + 1, 1, none⟩ = false := (B1.frozen (p := ⟨ws.heap.size + 1 + 1, 1, none⟩) (by simp)).trans (by simp [go_sem, o1, o2, o3])
       have q2 : w1.frozen? ⟨ws.heap.size + 1 + 1, 2, none⟩ = false := (B1.frozen (p := ⟨ws.heap.size + 1 + 1, 2, none⟩) (by simp)).trans (by simp [go_sem, o1, o2, o3])
       have HRK1 := (show Hid (RdK w1 (.slice p sk.length c) sk) from (((RK.out.alloc _).alloc _).alloc _).below B1)
       obtain ⟨b, o, rfl, hb, x0, x1⟩ := rdk_nth HRK1.out ht
       simp only at x0 x1
       clear ht B1)
    | (go_at_call 79; refine (clonek_ok HRK1.out h4).mono ?_; rintro ev w2 ⟨q, d, rfl, hown2, B2⟩
       obtain ⟨g, rfl, hg, hg2, hgd, _⟩ := row_open hown2 (by omega)
       have HO2 := (show Hid (w2.ownsRow w1.heap.size 87 2 (.slice (some ⟨g, 0, none⟩) sk.length d) sk.length (flatK sk)) from hown2)
       have HB2 := (show Hid (Below w1.heap.size w1 w2) from B2)
       clear hown2 B2)
    | (go_at_call 91; refine (delete_k htl hgd h4 HO2.out).mono ?_; rintro ev w3 ⟨rfl, O3, K3⟩
       have HS := fun (b i : Nat) (h : b < ws.heap.size + 3) => (K3.cell (p := ⟨b, i, none⟩) (show b < w2.heap.size by have := HB2.out.size; omega) (show ¬ b = g by omega)).trans (HB2.out.cell (p := ⟨b, i, none⟩) (show b < w1.heap.size by omega))
       have HF := fun (b i : Nat) (h : b < ws.heap.size + 3) => (K3.frozen (p := ⟨b, i, none⟩) (show b < w2.heap.size by have := HB2.out.size; omega) (show ¬ b = g by omega)).trans (HB2.out.frozen (p := ⟨b, i, none⟩) (show b < w1.heap.size by omega))
       have s0 := (HS ws.heap.size 0 (by omega)).trans r0
       have s1 := (HS ws.heap.size 1 (by omega)).trans r1
       have s2 := (HS ws.heap.size 2 (by omega)).trans r2
       have sf := (HF ws.heap.size 2 (by omega)).trans rf
       have e0 := (HS (ws.heap.size + 1 + 1) 0 (by omega)).trans d0
       have e1 := (HS (ws.heap.size + 1 + 1) 1 (by omega)).trans d1
       have e2 := (HS (ws.heap.size + 1 + 1) 2 (by omega)).trans d2
       have g0 := (HF (ws.heap.size + 1 + 1) 0 (by omega)).trans q0
       have g1 := (HF (ws.heap.size + 1 + 1) 1 (by omega)).trans q1
       have g2 := (HF (ws.heap.size + 1 + 1) 2 (by omega)).trans q2
       have HO3 := (show Hid (w3.ownsRow w1.heap.size 87 2 (.slice (some ⟨g, 0, none⟩) (sk.eraseIdx t).length d) (sk.eraseIdx t).length (flatK (sk.eraseIdx t))) from O3)
       have HB3 := (show Hid (Below ws.heap.size ws w3) from (HB1.out.trans (HB2.out.mono (by omega))).trans ((K3.below (by have := HB2.out.size; omega) (fun k hk => by omega))))
       generalize hKs : sk.eraseIdx t = ks at *
       have HKS := (show Hid (sk.eraseIdx t = ks) from hKs)
       clear HS HF r0 r1 r2 rf d0 d1 d2 q0 q1 q2 x0 x1 O3 K3 hKs))
  go_region
  go_wp2
  refine bodyPost_ret (v := .tuple #[.int .i64 s, .agg #[.int .i64 ch, .int .i64 next, .slice (some ⟨g, 0, none⟩) ks.length d], .int .i64 0]) (by simp [results, Try.results76, go_sem, s0, s1, s2, sf, e0, e1, e2, g0, g1, g2]) rfl ?_
  have hK := keeps_two w3 ws.heap.size (ws.heap.size + 1 + 1) (.slice (some ⟨g, 0, none⟩) ks.length d) (.slice (some ⟨g, 0, none⟩) ks.length d) (.int .i64 ch) (.int .i64 next)
  refine ⟨t, s, some ⟨g, 0, none⟩, d, HT.out, by rw [HKS.out], ?_, HB3.out.trans (hK.below HB3.out.size (fun k hk => by omega))⟩
  rw [HKS.out]
  exact row_lower (row_keeps HO3.out hK (fun k hk he => by have := (row_base HO3.out hk).1; omega)) hsz
section
variable {w wr w' : World} {aa : Nat} {L L1 L2 : List Tm} {G : Nat → Prop}
set_option maxHeartbeats 4000000 in
theorem take_old_yes (T : Hid (On w wr aa L G)) (c0 c next : Nat) (m : Int) (p : Option Addr) (cc : Nat) (sk : List Ky) (R : Hid (RtOk L c0 c next sk)) (RK : Hid (RdK wr (.slice p sk.length cc) sk)) (hm0 : 0 ≤ m) (hm : m < next) (hyes : Hid (∃ k ∈ sk, k.1 = m)) : Calls Try.prog 48 #[.pointer (some ⟨aa, 0, none⟩), .agg #[.int .i64 c, .int .i64 next, .slice p sk.length cc], .int .i64 m] wr fun e w' => ∃ (t : Nat) (s : Int) (q : Option Addr) (d : Nat), sk[t]? = some (m, s) ∧ e = .returned (.tuple #[.int .i64 s, .agg #[.int .i64 c, .int .i64 next, .slice q (sk.eraseIdx t).length d], .int .i64 0]) ∧ w'.ownsRow wr.heap.size 87 2 (.slice q (sk.eraseIdx t).length d) (sk.eraseIdx t).length (flatK (sk.eraseIdx t)) ∧ Below wr.heap.size wr w' := by
  have hnM := R.out.right.nM
  have hlen := R.out.right.len
  have h1 : ¬ m < 0 := by omega
  have h2 : ¬ (1073741824 : Int) ≤ m := by omega
  clear hnM
  go_enter Try.func48, Try.ntmps48
  go_wp2_with (first
    | (go_at_call 75; refine (usable_yes (loc_on T.out _ _) R.out.right ((RK.out.alloc _).alloc _) R.out.pos.lt R.out.sec).mono ?_; rintro ev w1 ⟨rfl, B1⟩
       have S1 := stay_below (G := Loc wr G) B1
       have r0 : w1.cell? ⟨wr.heap.size, 0, none⟩ = some (.int .i64 c) := loc_cell S1 (.inl rfl) (by simp [go_sem])
       have r1 : w1.cell? ⟨wr.heap.size, 1, none⟩ = some (.int .i64 next) := loc_cell S1 (.inl rfl) (by simp [go_sem])
       have r2 : w1.cell? ⟨wr.heap.size, 2, none⟩ = some (.slice p sk.length cc) := loc_cell S1 (.inl rfl) (by simp [go_sem])
       have d0 : w1.cell? ⟨wr.heap.size + 1, 0, none⟩ = some (.int .i64 0) := loc_cell S1 (.inr rfl) (by simp [go_sem])
       have d1 : w1.cell? ⟨wr.heap.size + 1, 1, none⟩ = some (.int .i64 0) := loc_cell S1 (.inr rfl) (by simp [go_sem])
       have d2 : w1.cell? ⟨wr.heap.size + 1, 2, none⟩ = some (.slice none 0 0) := loc_cell S1 (.inr rfl) (by simp [go_sem])
       have q0 : w1.frozen? ⟨wr.heap.size + 1, 0, none⟩ = false := loc_frozen S1 (.inr rfl) (by simp [go_sem])
       have q1 : w1.frozen? ⟨wr.heap.size + 1, 1, none⟩ = false := loc_frozen S1 (.inr rfl) (by simp [go_sem])
       have q2 : w1.frozen? ⟨wr.heap.size + 1, 2, none⟩ = false := loc_frozen S1 (.inr rfl) (by simp [go_sem])
       have HRK1 := (show Hid (RdK w1 (.slice p sk.length cc) sk) from ((RK.out.alloc _).alloc _).below B1)
       have HB1 := (show Hid (Below wr.heap.size wr w1) from (loc_below wr _ _).trans (B1.mono (by simp; omega)))
       have hsz1 : wr.heap.size + 2 ≤ w1.heap.size := by have := S1.size; simpa using this
       have HRKs := (show Hid (wr.heap.size + 2 ≤ w1.heap.size) from hsz1)
       clear hsz1
       clear B1 S1)
    | (go_at_call 76; refine (skipped_yes p cc _ _ m sk _ (by omega) HRK1 hyes).mono ?_; rintro ev w2 ⟨t, s, q, d, ht, rfl, O2, B2⟩
       have hsz := HB1.out.size
       have hs1 := HRKs.out
       have e0 := (B2.cell (p := ⟨wr.heap.size + 1, 0, none⟩) (show wr.heap.size + 1 < w1.heap.size by omega)).trans d0
       have e1 := (B2.cell (p := ⟨wr.heap.size + 1, 1, none⟩) (show wr.heap.size + 1 < w1.heap.size by omega)).trans d1
       have e2 := (B2.cell (p := ⟨wr.heap.size + 1, 2, none⟩) (show wr.heap.size + 1 < w1.heap.size by omega)).trans d2
       have g0 := (B2.frozen (p := ⟨wr.heap.size + 1, 0, none⟩) (show wr.heap.size + 1 < w1.heap.size by omega)).trans q0
       have g1 := (B2.frozen (p := ⟨wr.heap.size + 1, 1, none⟩) (show wr.heap.size + 1 < w1.heap.size by omega)).trans q1
       have g2 := (B2.frozen (p := ⟨wr.heap.size + 1, 2, none⟩) (show wr.heap.size + 1 < w1.heap.size by omega)).trans q2
       have HB2 := (show Hid (Below wr.heap.size wr w2) from HB1.out.trans (B2.mono hsz))
       have HO2 := (show Hid (w2.ownsRow (w1.heap.size + 3) 87 2 (.slice q (sk.eraseIdx t).length d) (sk.eraseIdx t).length (flatK (sk.eraseIdx t))) from O2)
       have HT := (show Hid (sk[t]? = some (m, s)) from ht)
       generalize hKs : sk.eraseIdx t = ks at *
       have HKS := (show Hid (sk.eraseIdx t = ks) from hKs)
       clear d0 d1 d2 q0 q1 q2 B2 O2 ht hKs))
  refine bodyPost_ret (v := .tuple #[.int .i64 s, .agg #[.int .i64 (c : Int), .int .i64 (next : Int), .slice q ks.length d], .int .i64 0]) (by simp [results, Try.results48, go_sem, e0, e1, e2, g0, g1, g2]) rfl ?_
  have hK := keeps_set3 w2 (wr.heap.size + 1) (.int .i64 (c : Int)) (.int .i64 (next : Int)) (.slice q ks.length d)
  refine ⟨t, s, q, d, HT.out, by rw [HKS.out], ?_, HB2.out.trans (hK.below HB2.out.size (fun k hk => by omega))⟩
  rw [HKS.out]
  exact row_lower (row_keeps HO2.out hK (fun k hk he => by have := (row_base HO2.out hk).1; omega)) (by omega)
end
end Go.Proofs.Ytikbeagcflofhaa
namespace Go.Proofs.Ytikbeagcflofhaa
open Go.ChangeShapes Go.WideShapes Go.ChangeAt Go.RowKit Go.Maps
set_option maxRecDepth 100000
theorem Pos.up {L : List Tm} (hW : Wf L) {c0 : Nat} : ∀ (d i c e : Nat), Pos L c0 i c → Pos L c0 (i + 1 + d) e → c < e := by
  intro d
  induction d with
  | zero =>
    intro i c e h h'
    cases h' with
    | succ _ b _ hb h2 =>
      obtain rfl := h.one hW b hb
      have hl := (List.getElem?_eq_some_iff.1 h2).1
      exact ar_lt hW hl c (by rw [(at_kd h2).2]; simp)
  | succ d ih =>
    intro i c e h h'
    cases h' with
    | succ _ b _ hb h2 =>
      have h3 := ih i c b h hb
      have hl := (List.getElem?_eq_some_iff.1 h2).1
      have h4 := ar_lt hW hl b (by rw [(at_kd h2).2]; simp)
      omega
theorem KeyAt.ne {L : List Tm} (hW : Wf L) {c0 i j k l : Nat} (hij : i < j) (h : KeyAt L c0 i k) (h' : KeyAt L c0 j l) : k ≠ l := by
  rintro rfl
  obtain ⟨c, h1, h2⟩ := h
  obtain ⟨d, h3, h4⟩ := h'
  rw [h2] at h4
  have hcd : (c : Int) = d := by
    simp only [Option.some.injEq, Prod.mk.injEq, List.cons.injEq, true_and, and_true] at h4
    exact h4
  obtain ⟨q, rfl⟩ : ∃ q, j = i + 1 + q := ⟨j - (i + 1), by omega⟩
  have := h1.up hW q i c d h3
  omega
theorem asc_add {l : List Ky} (hup : ∀ (i : Nat) (k m : Ky), l[i]? = some k → l[i + 1]? = some m → k.1 < m.1) : ∀ (d p : Nat) (k m : Ky), l[p]? = some k → l[p + d]? = some m → k.1 + d ≤ m.1 := by
  intro d
  induction d with
  | zero =>
    intro p k m h1 h2
    rw [Nat.add_zero, h1] at h2
    cases h2
    simp
  | succ d ih =>
    intro p k m h1 h2
    obtain ⟨q, hq⟩ : ∃ q, l[p + d]? = some q := ⟨_, List.getElem?_eq_getElem (by have := (List.getElem?_eq_some_iff.1 h2).1; omega)⟩
    have a1 := ih p k q h1 hq
    have a2 := hup (p + d) q m hq (by rw [Nat.add_assoc]; exact h2)
    omega
theorem RightK.asc {next : Int} {sk : List Ky} (h : RightK next sk) {i j : Nat} {k l : Ky} (hij : i < j) (hk : sk[i]? = some k) (hl : sk[j]? = some l) : k.1 < l.1 := by
  have := asc_add h.up (j - i) i k l hk (by rw [show i + (j - i) = j by omega]; exact hl)
  omega
theorem ahead_up {L L' : List Tm} {c0 c next : Nat} {sk zs : List Ky} (R : RtOk L c0 c next sk) (hz : Skip L' c0 next zs) : ∀ (i : Nat) (k l : Ky), (sk ++ zs)[i]? = some k → (sk ++ zs)[i + 1]? = some l → k.1 < l.1 := by
  intro i k l h1 h2
  rcases Nat.lt_or_ge (i + 1) sk.length with h | h
  · rw [List.getElem?_append_left (by omega)] at h1
    rw [List.getElem?_append_left h] at h2
    exact R.right.up i k l h1 h2
  · rw [List.getElem?_append_right h] at h2
    obtain ⟨s2, e2, _⟩ := hz.at' _ _ h2
    rcases Nat.lt_or_ge i sk.length with h3 | h3
    · rw [List.getElem?_append_left h3] at h1
      have := R.right.hi k (at_mem h1)
      rw [e2]
      simp only
      omega
    · rw [List.getElem?_append_right h3] at h1
      obtain ⟨s1, e1, _⟩ := hz.at' _ _ h1
      rw [e1, e2]
      simp only
      omega
structure Tak (n : Nat) (tk : List Bool) (next : Nat) (sk : List Ky) : Prop where
  len : tk.length = n
  nx : next ≤ n
  i1 : ∀ i : Nat, bt tk i = true → i < next ∧ ∀ k ∈ sk, k.1 ≠ (i : Int)
  i2 : ∀ i : Nat, i < next → bt tk i = false → (∃ k ∈ sk, k.1 = (i : Int)) ∨ 16 < next - i
theorem Tak.start (n : Nat) : Tak n (List.replicate n false) 0 [] := ⟨by simp, by omega, fun i h => (by rw [bt_rep] at h; cases h), fun i h => (by omega)⟩
theorem Tak.ahead {L L' : List Tm} {c0 c next D n : Nat} {tk : List Bool} {sk zs : List Ky} (h : Tak n tk next sk) (R : RtOk L c0 c next sk) (hz : Skip L' c0 next zs) (hl : zs.length = D) (hD : next + D < n) : Tak n (tk.set (next + D) true) (next + D + 1) ((sk ++ zs).drop ((sk ++ zs).length - 16)) := by
  have hmem : ∀ k ∈ sk ++ zs, k.1 < ((next + D : Nat) : Int) ∧ (k ∈ sk ∨ (next : Int) ≤ k.1) := by
    intro k hk
    rcases List.mem_append.1 hk with h1 | h1
    · have := R.right.hi k h1
      exact ⟨by omega, .inl h1⟩
    · obtain ⟨t, ht, rfl⟩ := List.getElem_of_mem h1
      obtain ⟨s, e, _⟩ := hz.at' t _ (List.getElem?_eq_getElem ht)
      rw [e]
      simp only
      exact ⟨by omega, .inr (by omega)⟩
  refine ⟨by simp [h.len], by omega, fun i hi => ?_, fun i hi hb => ?_⟩
  · rw [bt_set, Bool.or_eq_true, decide_eq_true_eq] at hi
    rcases hi with ⟨rfl, _⟩ | hi
    · exact ⟨by omega, fun k hk e => by have := (hmem k (List.mem_of_mem_drop hk)).1; omega⟩
    · obtain ⟨a1, a2⟩ := h.i1 i hi
      refine ⟨by omega, fun k hk e => ?_⟩
      rcases (hmem k (List.mem_of_mem_drop hk)).2 with h1 | h1
      · exact a2 k h1 e
      · omega
  · rw [bt_set, Bool.or_eq_false_iff, decide_eq_false_iff_not] at hb
    have hne : i ≠ next + D := fun e => hb.1 ⟨e.symm, by rw [h.len]; omega⟩
    have hex : (∃ k ∈ sk ++ zs, k.1 = (i : Int)) ∨ 16 < next + D + 1 - i := by
      rcases Nat.lt_or_ge i next with h1 | h1
      · rcases h.i2 i h1 hb.2 with ⟨k, hk, e⟩ | h2
        · exact .inl ⟨k, List.mem_append_left _ hk, e⟩
        · exact .inr (by omega)
      · obtain ⟨k, hk⟩ : ∃ k, zs[i - next]? = some k := ⟨_, List.getElem?_eq_getElem (by omega)⟩
        obtain ⟨s, e, _⟩ := hz.at' _ _ hk
        exact .inl ⟨k, List.mem_append_right _ (at_mem hk), by rw [e]; simp only; omega⟩
    rcases hex with ⟨k, hk, e⟩ | h2
    · obtain ⟨p, hp, hpk⟩ := List.getElem_of_mem hk
      have hp' : (sk ++ zs)[p]? = some k := by rw [List.getElem?_eq_getElem hp, hpk]
      rcases Nat.lt_or_ge p ((sk ++ zs).length - 16) with h3 | h3
      · obtain ⟨q, hq⟩ : ∃ q, (sk ++ zs)[p + 16]? = some q := ⟨_, List.getElem?_eq_getElem (by omega)⟩
        have a1 := asc_add (ahead_up R hz) 16 p k q hp' hq
        have a2 := (hmem q (at_mem hq)).1
        exact .inr (by omega)
      · refine .inl ⟨k, ?_, e⟩
        have : ((sk ++ zs).drop ((sk ++ zs).length - 16))[p - ((sk ++ zs).length - 16)]? = some k := by
          rw [List.getElem?_drop, show (sk ++ zs).length - 16 + (p - ((sk ++ zs).length - 16)) = p by omega]
          exact hp'
        exact at_mem this
    · exact .inr h2
theorem mem_erase {sk : List Ky} {t : Nat} {k : Ky} : k ∈ sk.eraseIdx t ↔ ∃ i, i ≠ t ∧ sk[i]? = some k := List.mem_eraseIdx_iff_getElem?
theorem Tak.take {next n m t : Nat} {s : Int} {tk : List Bool} {sk : List Ky} (h : Tak n tk next sk) (R : RightK next sk) (ht : sk[t]? = some ((m : Int), s)) : Tak n (tk.set m true) next (sk.eraseIdx t) := by
  have hm := R.hi _ (at_mem ht)
  simp only at hm
  refine ⟨by simp [h.len], h.nx, fun i hi => ?_, fun i hi hb => ?_⟩
  · rw [bt_set, Bool.or_eq_true, decide_eq_true_eq] at hi
    rcases hi with ⟨rfl, _⟩ | hi
    · refine ⟨by omega, fun k hk e => ?_⟩
      obtain ⟨q, hq, hk⟩ := mem_erase.1 hk
      rcases Nat.lt_or_gt_of_ne hq with h1 | h1
      · have := R.asc h1 hk ht
        simp only at this
        omega
      · have := R.asc h1 ht hk
        simp only at this
        omega
    · obtain ⟨a1, a2⟩ := h.i1 i hi
      exact ⟨a1, fun k hk => by
        obtain ⟨q, _, hk⟩ := mem_erase.1 hk
        exact a2 k (at_mem hk)⟩
  · rw [bt_set, Bool.or_eq_false_iff, decide_eq_false_iff_not] at hb
    have hne : i ≠ m := fun e => hb.1 ⟨e.symm, by rw [h.len]; have := h.nx; omega⟩
    rcases h.i2 i hi hb.2 with ⟨k, hk, e⟩ | h2
    · obtain ⟨p, hp, hpk⟩ := List.getElem_of_mem hk
      have hp' : sk[p]? = some k := by rw [List.getElem?_eq_getElem hp, hpk]
      refine .inl ⟨k, mem_erase.2 ⟨p, fun e2 => ?_, hp'⟩, e⟩
      rw [e2, ht] at hp'
      cases hp'
      simp only at e
      omega
    · exact .inr h2
theorem RtOk.erase {L : List Tm} {c0 c next : Nat} {sk : List Ky} (R : RtOk L c0 c next sk) (t : Nat) : RtOk L c0 c next (sk.eraseIdx t) := by
  have hm : ∀ k ∈ sk.eraseIdx t, k ∈ sk := fun k hk => by
    obtain ⟨q, _, hk⟩ := mem_erase.1 hk
    exact at_mem hk
  refine ⟨⟨R.right.n0, R.right.nM, Nat.le_trans (List.length_eraseIdx_le _ _) R.right.len, fun i k l h1 h2 => ?_, fun k hk => R.right.lo k (hm k hk), fun k hk => R.right.hi k (hm k hk)⟩, R.pos, fun k hk => R.keys k (hm k hk)⟩
  rw [List.getElem?_eraseIdx] at h1 h2
  split at h1 <;> split at h2
  · exact R.right.asc (by omega) h1 h2
  · exact R.right.asc (by omega) h1 h2
  · exact R.right.asc (by omega) h1 h2
  · exact R.right.asc (by omega) h1 h2
/-- The keys of a chain, in order. -/
structure Kys (L : List Tm) (xs : List Int) : Prop where
  at' : ∀ (i : Nat) (k : Int), xs[i]? = some k → ∃ s : Nat, k = (s : Int) ∧ KeyAt L 0 i s
theorem Kys.keep {L L' : List Tm} {xs : List Int} (h : Kys L xs) (hm : ∀ (j : Nat) (u : Tm), L[j]? = some u → L'[j]? = some u) : Kys L' xs := ⟨fun i k hk => by
  obtain ⟨s, e, h1⟩ := h.at' i k hk
  exact ⟨s, e, h1.keep hm⟩⟩
theorem Kys.snoc {L : List Tm} {xs : List Int} {s : Nat} (h : Kys L xs) (hk : KeyAt L 0 xs.length s) : Kys L (xs ++ [(s : Int)]) := ⟨fun i k hi => by
  rcases Nat.lt_or_ge i xs.length with h1 | h1
  · rw [List.getElem?_append_left h1] at hi
    exact h.at' i k hi
  · have hl := (List.getElem?_eq_some_iff.1 hi).1
    simp only [List.length_append, List.length_cons, List.length_nil] at hl
    obtain rfl : i = xs.length := by omega
    rw [List.getElem?_append_right (Nat.le_refl _), Nat.sub_self] at hi
    cases hi
    exact ⟨s, rfl, hk⟩⟩
theorem on_grow2 {w wx w' : World} {aa : Nat} {L : List Tm} {G : Nat → Prop} {v : Value} {g : Nat} (T : On w wx aa L (fun j => G j ∨ v.ownBlock = some j)) (hb : ∀ j, v.ownBlock = some j → w.heap.size ≤ j) (hg : wx.grownBy w' v.ownBlock) (hat : v.ownBlock = some g ∨ g = wx.heap.size) (hlt : g < w'.heap.size) : On w w' aa L (fun j => G j ∨ j = g) := by
  have hK : Keeps (fun k => v.ownBlock = some k) wx w' := Keeps.of_grown hg (fun k hk => hk)
  have T2 := T.more (P := fun k => k = wx.heap.size ∧ k < w'.heap.size) hK (fun k hk => .inl ⟨.inr hk, hb k hk⟩) (fun k hk => ⟨by omega, hk.2⟩)
  refine T2.mono (fun j hj => ?_)
  rcases hj with h | rfl
  · exact .inl (.inl h)
  · rcases hat with e | e
    · exact .inl (.inr e)
    · exact .inr ⟨e, hlt⟩
end Go.Proofs.Ytikbeagcflofhaa
