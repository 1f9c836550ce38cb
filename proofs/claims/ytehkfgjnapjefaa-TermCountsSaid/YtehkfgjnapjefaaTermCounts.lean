/-
  TermCounts: of each kind just so many arguments may be as the page says; a number just where one may be. For all kinds, numbers and counts.
-/
import Derived.Test.YtehkfgjnapjefaaTL
import Derived.Test.YtehkfgjnapjefaaCa0
import Derived.Test.YtehkfgjnapjefaaCa1
import Derived.Test.YtehkfgjnapjefaaCa2
import Derived.Test.YtehkfgjnapjefaaCa3
namespace Go.Proofs.Ytehkfgjnapjefaa
open Go.ChangeShapes Go.WideShapes Go.ChangeAt Go.RowKit
set_option maxRecDepth 100000
theorem bad_put (kd n s : Int) (a : Nat) (h : rightOf kd n a = s) (hs : s ≠ 0) : put [(1, 1, [])] (kd, n, List.replicate a 0) = (0, s, [(1, 1, [])]) := by
  have e : shape (kd, n, List.replicate a 0) = s := by
    unfold shape
    simp only [List.length_replicate]
    exact h
  rw [put_bad (by rw [e]; exact hs), e]
theorem good_put (kd n : Int) (a : Nat) (h : rightOf kd n a = 0) : ∃ y L', put [(1, 1, [])] (kd, n, List.replicate a 0) = (y, 0, L') ∧ Told y L' (kd, n, List.replicate a 0) := by
  refine put_told ?_ ?_ (by simp)
  · unfold shape
    simp only [List.length_replicate]
    exact h
  · intro x hx
    simp only [List.mem_replicate] at hx
    simp
    omega
set_option maxHeartbeats 2000000 in
theorem termCounts_over (kd n args : Int) (h : args < 0 ∨ 403 < args) (w : World) : Calls Try.prog 9 #[.int .i64 kd, .int .i64 n, .int .i64 args] w fun e w' => e = .returned (.bool true) ∧ Below w.heap.size w w' := by
  rcases h with h | h
  all_goals (
    go_enter Try.func9, Try.ntmps9
    go_wp2_with (fail)
    go_ret
    exact ⟨rfl, Below.refl _ _⟩)
set_option maxHeartbeats 8000000 in
theorem termCounts_law (kd n args : Int) (_hk : -9223372036854775808 ≤ kd ∧ kd < 9223372036854775808) (hn : -9223372036854775808 ≤ n ∧ n < 9223372036854775808) (_ha : -9223372036854775808 ≤ args ∧ args < 9223372036854775808) (w : World) : Calls Try.prog 9 #[.int .i64 kd, .int .i64 n, .int .i64 args] w fun e w' => e = .returned (.bool true) ∧ Below w.heap.size w w' := by
  by_cases hbig : args < 0 ∨ 403 < args
  · exact termCounts_over kd n args hbig w
  obtain ⟨a, rfl⟩ : ∃ a : Nat, args = a := ⟨args.toNat, by omega⟩
  have ha : a ≤ 403 := by omega
  clear hbig _ha
  have hn2 := hn.2
  clear hn
  have bad : ∀ s : Int, rightOf kd n a = s → s ≠ 0 → put [(1, 1, [])] (kd, n, List.replicate a 0) = (0, s, [(1, 1, [])]) := fun s h hs => bad_put kd n s a h hs
  by_cases hlo : kd < 1
  · exact counts_lo kd n hlo hn2 a ha w (bad 6 (by unfold rightOf; rw [if_pos (.inl hlo)]) (by decide))
  by_cases hhi : 9 < kd
  · exact counts_hi kd n hhi hn2 a ha w (bad 6 (by unfold rightOf; rw [if_pos (.inr hhi)]) (by decide))
  have hks : kd = 1 ∨ kd = 2 ∨ kd = 3 ∨ kd = 4 ∨ kd = 5 ∨ kd = 6 ∨ kd = 7 ∨ kd = 8 ∨ kd = 9 := by omega
  clear hlo hhi _hk
  rcases hks with rfl | rfl | rfl | rfl | rfl | rfl | rfl | rfl | rfl
  · by_cases h0 : n < 0
    · exact counts_neg1 n h0 a ha  w (bad 1 (by unfold rightOf leastOf mostOf; (repeat' split) <;> omega) (by decide))
    by_cases h1 : a = 0
    · (obtain ⟨y, L', g1, g2⟩ := good_put 1 n a (by unfold rightOf leastOf mostOf; (repeat' split) <;> omega); exact counts_none1 n (by omega) hn2 a ha h1 w y L' g2 g1)
    · exact counts_some1 n (by omega) hn2 a ha (by omega) w (bad 2 (by unfold rightOf leastOf mostOf; (repeat' split) <;> omega) (by decide))
  · by_cases h0 : n < 0
    · exact counts_neg2 n h0 a ha  w (bad 1 (by unfold rightOf leastOf mostOf; (repeat' split) <;> omega) (by decide))
    by_cases h1 : a = 0
    · (obtain ⟨y, L', g1, g2⟩ := good_put 2 n a (by unfold rightOf leastOf mostOf; (repeat' split) <;> omega); exact counts_none2 n (by omega) hn2 a ha h1 w y L' g2 g1)
    · exact counts_some2 n (by omega) hn2 a ha (by omega) w (bad 2 (by unfold rightOf leastOf mostOf; (repeat' split) <;> omega) (by decide))
  · by_cases h0 : n < 0
    · exact counts_neg3 n h0 a ha  w (bad 1 (by unfold rightOf leastOf mostOf; (repeat' split) <;> omega) (by decide))
    by_cases h1 : 0 < n
    · exact counts_pos3 n h1 hn2 a ha  w (bad 1 (by unfold rightOf leastOf mostOf; (repeat' split) <;> omega) (by decide))
    obtain rfl : n = 0 := by omega
    by_cases h3 : 400 < a
    · exact counts_much3  a ha h3 w (bad 2 (by unfold rightOf leastOf mostOf; (repeat' split) <;> omega) (by decide))
    · (obtain ⟨y, L', g1, g2⟩ := good_put 3 0 a (by unfold rightOf leastOf mostOf; (repeat' split) <;> omega); exact counts_fit3  a ha (by omega) w y L' g2 g1)
  · by_cases h0 : n < 0
    · exact counts_neg4 n h0 a ha  w (bad 1 (by unfold rightOf leastOf mostOf; (repeat' split) <;> omega) (by decide))
    by_cases h2 : a = 1
    · (obtain ⟨y, L', g1, g2⟩ := good_put 4 n a (by unfold rightOf leastOf mostOf; (repeat' split) <;> omega); exact counts_one4 n (by omega) hn2 a ha h2 w y L' g2 g1)
    by_cases h3 : a = 0
    · exact counts_zero4 n (by omega) hn2 a ha h3 w (bad 2 (by unfold rightOf leastOf mostOf; (repeat' split) <;> omega) (by decide))
    · exact counts_two4 n (by omega) hn2 a ha (by omega) w (bad 2 (by unfold rightOf leastOf mostOf; (repeat' split) <;> omega) (by decide))
  · by_cases h0 : n < 0
    · exact counts_neg5 n h0 a ha  w (bad 1 (by unfold rightOf leastOf mostOf; (repeat' split) <;> omega) (by decide))
    by_cases h1 : 0 < n
    · exact counts_pos5 n h1 hn2 a ha  w (bad 1 (by unfold rightOf leastOf mostOf; (repeat' split) <;> omega) (by decide))
    obtain rfl : n = 0 := by omega
    by_cases h2 : a = 1
    · (obtain ⟨y, L', g1, g2⟩ := good_put 5 0 a (by unfold rightOf leastOf mostOf; (repeat' split) <;> omega); exact counts_one5  a ha h2 w y L' g2 g1)
    by_cases h3 : a = 0
    · exact counts_zero5  a ha h3 w (bad 2 (by unfold rightOf leastOf mostOf; (repeat' split) <;> omega) (by decide))
    · exact counts_two5  a ha (by omega) w (bad 2 (by unfold rightOf leastOf mostOf; (repeat' split) <;> omega) (by decide))
  · by_cases h0 : n < 0
    · exact counts_neg6 n h0 a ha  w (bad 1 (by unfold rightOf leastOf mostOf; (repeat' split) <;> omega) (by decide))
    by_cases h1 : 0 < n
    · exact counts_pos6 n h1 hn2 a ha  w (bad 1 (by unfold rightOf leastOf mostOf; (repeat' split) <;> omega) (by decide))
    obtain rfl : n = 0 := by omega
    by_cases h2 : a < 1
    · exact counts_few6  a ha h2 w (bad 2 (by unfold rightOf leastOf mostOf; (repeat' split) <;> omega) (by decide))
    by_cases h3 : 400 < a
    · exact counts_much6  a ha h3 w (bad 2 (by unfold rightOf leastOf mostOf; (repeat' split) <;> omega) (by decide))
    · (obtain ⟨y, L', g1, g2⟩ := good_put 6 0 a (by unfold rightOf leastOf mostOf; (repeat' split) <;> omega); exact counts_fit6  a ha (by omega) (by omega) w y L' g2 g1)
  · by_cases h0 : n < 0
    · exact counts_neg7 n h0 a ha  w (bad 1 (by unfold rightOf leastOf mostOf; (repeat' split) <;> omega) (by decide))
    by_cases h1 : 0 < n
    · exact counts_pos7 n h1 hn2 a ha  w (bad 1 (by unfold rightOf leastOf mostOf; (repeat' split) <;> omega) (by decide))
    obtain rfl : n = 0 := by omega
    by_cases h2 : a < 2
    · exact counts_few7  a ha h2 w (bad 2 (by unfold rightOf leastOf mostOf; (repeat' split) <;> omega) (by decide))
    by_cases h3 : 400 < a
    · exact counts_much7  a ha h3 w (bad 2 (by unfold rightOf leastOf mostOf; (repeat' split) <;> omega) (by decide))
    · (obtain ⟨y, L', g1, g2⟩ := good_put 7 0 a (by unfold rightOf leastOf mostOf; (repeat' split) <;> omega); exact counts_fit7  a ha (by omega) (by omega) w y L' g2 g1)
  · by_cases h0 : n < 0
    · exact counts_neg8 n h0 a ha  w (bad 1 (by unfold rightOf leastOf mostOf; (repeat' split) <;> omega) (by decide))
    by_cases h1 : 0 < n
    · exact counts_pos8 n h1 hn2 a ha  w (bad 1 (by unfold rightOf leastOf mostOf; (repeat' split) <;> omega) (by decide))
    obtain rfl : n = 0 := by omega
    by_cases h2 : a < 1
    · exact counts_few8  a ha h2 w (bad 2 (by unfold rightOf leastOf mostOf; (repeat' split) <;> omega) (by decide))
    by_cases h3 : 400 < a
    · exact counts_much8  a ha h3 w (bad 2 (by unfold rightOf leastOf mostOf; (repeat' split) <;> omega) (by decide))
    · (obtain ⟨y, L', g1, g2⟩ := good_put 8 0 a (by unfold rightOf leastOf mostOf; (repeat' split) <;> omega); exact counts_fit8  a ha (by omega) (by omega) w y L' g2 g1)
  · by_cases h0 : n < 0
    · exact counts_neg9 n h0 a ha  w (bad 1 (by unfold rightOf leastOf mostOf; (repeat' split) <;> omega) (by decide))
    by_cases h1 : 0 < n
    · exact counts_pos9 n h1 hn2 a ha  w (bad 1 (by unfold rightOf leastOf mostOf; (repeat' split) <;> omega) (by decide))
    obtain rfl : n = 0 := by omega
    by_cases h3 : 400 < a
    · exact counts_much9  a ha h3 w (bad 2 (by unfold rightOf leastOf mostOf; (repeat' split) <;> omega) (by decide))
    · (obtain ⟨y, L', g1, g2⟩ := good_put 9 0 a (by unfold rightOf leastOf mostOf; (repeat' split) <;> omega); exact counts_fit9  a ha (by omega) w y L' g2 g1)
theorem termCounts_lifted (os : Os) (started : os.Started) (H : Type) (enc : TypeId × Value → H) :
    ReturnsInHanded {} Try.checked os 9 .any (Rows.termCountsSpec.pre6 enc Try.prog Try.f9 Rows.termCountsRow.domain false) (Rows.termCountsSpec.post enc Try.prog Try.f9 false true false false) := by
  refine returnsInHanded_of_change (C := Try.checked) own started (by kernel_rfl) Try.func9
    (ChangeSpec.witness6 (enc := enc) (C := Try.checked) false ⟨#[], #[.int .i64 0, .int .i64 0, .int .i64 0], []⟩ 8 (by kernel_rfl) (by kernel_rfl) (by kernel_rfl) (by kernel_rfl)) ?_
  intro W base args ds gs before hval0 hW hcnd _
  have hval : ∀ (j : Nat) t v, Try.f9.params[j]? = some t → args[j]? = some v → Value.okWide Try.prog W .any base t v := hval0
  have hW' := hW
  obtain ⟨p, q, hA0, hV, rfl, hfz, hnd⟩ := hW
  have hA : DataW.TrodAll enc Try.prog W 0 (fun _ => true) true Try.f9.params.toList args.toList ds p := hA0
  rw [Try.params9] at hA hval
  obtain ⟨v0, vs0, d0, ds0, p0, q0, hargs, rfl, rfl, h0, r0⟩ := trodAll_cons hA
  obtain ⟨v1, vs1, d1, ds1, p1, q1, rfl, rfl, rfl, h1, r1⟩ := trodAll_cons r0
  obtain ⟨v2, vs2, d2, ds2, p2, q2, rfl, rfl, rfl, h2, r2⟩ := trodAll_cons r1
  obtain ⟨rfl, rfl, rfl⟩ := trodAll_nil r2
  obtain rfl : args = #[v0, v1, v2] := by cases args; simp_all
  obtain ⟨rfl, rfl⟩ := trodVars_none hV
  obtain ⟨a0, rfl, rfl, rfl, b0⟩ := open_int Try.underlying3 (hval 0 _ v0 rfl rfl) h0
  have s0 := plain_int (H := H) Try.underlying3 b0
  obtain ⟨a1, rfl, rfl, rfl, b1⟩ := open_int Try.underlying3 (hval 1 _ v1 rfl rfl) h1
  have s1 := plain_int (H := H) Try.underlying3 b1
  obtain ⟨a2, rfl, rfl, rfl, b2⟩ := open_int Try.underlying3 (hval 2 _ v2 rfl rfl) h2
  have s2 := plain_int (H := H) Try.underlying3 b2
  clear hA0 hval0
  simp only [List.append_nil] at hW'
  refine (termCounts_law a0 a1 a2 (i64_bounds b0) (i64_bounds b1) (i64_bounds b2) W).mono fun e W' ⟨he, hg⟩ => ?_
  subst he
  exact ⟨_, rfl, post_below (pa := []) (pv := []) hW' (fun _ _ _ => trodAll_cons_mk (shut_bool Try.underlying4 _) trodAll_mk0) (fun sp _ => (trodAll_cons_mk (s0 _ _ _ _ _) (trodAll_cons_mk (s1 _ _ _ _ _) (trodAll_cons_mk (s2 _ _ _ _ _) trodAll_mk0)))) (fun _ _ => rfl) rfl
    hg (ok_one (by kernel_rfl) rfl (okWide_bool_mk Try.underlying4 _))⟩

/-- THE STATEMENT. -/
theorem termCounts_holds : Rows.TermCountsSaid :=
  OpenClaim.holds_of_wide 9 Try.f9 rfl rfl rfl rfl rfl rfl rfl ⟨rfl, rfl, rfl, rfl, rfl⟩ rfl rfl rfl rfl rfl (by kernel_rfl) Try.func9 (by kernel_rfl)
    (of_decide_eq_true (by kernel_rfl)) (by unfold Func.isWrapper; first | (rw [if_pos (by decide +kernel)]; kernel_rfl) | (rw [if_neg (by decide +kernel)]; exact ⟨rfl, rfl⟩))
    (fun os started H enc _ => termCounts_lifted os started H enc)
#print axioms termCounts_holds

end Go.Proofs.Ytehkfgjnapjefaa
