/-
  FieldRoots: for all its arguments the law returns true. Conditions: none.
-/
import Derived.Test.YtdillfhieilgnaaFh
import Derived.Test.YtdillfhieilgnaaFi
namespace Go.Proofs.Ytdillfhieilgnaa
open Go.Sh
open Go.ChangeShapes Go.WideShapes Go.ChangeAt Go.RowKit
set_option maxRecDepth 100000

def fieldRootsNT : List Row := [⟨23, [bs 0], .tp [kB 0, .b false]⟩, ⟨25, [bs 0, kB 28948022309329048855892746252171976963317496166410141009864396001978282409974], bs 32⟩, ⟨13, [bs 0], bs 64⟩, ⟨16, [bs 32, kB 1], kB 0⟩, ⟨22, [], .b true⟩]
def fieldRootsNF : Facts := ⟨[], [neB (sL 64) (cL 0), neB (sL 32) (cL 1), neB (sL 32) (cL 1)]⟩
theorem fieldRootsN_says : says fieldRootsNF tree fieldRootsNT 600 7 9 [bs 0] (heap0 [] gmax) (.b true) = true := by kernel_rfl
theorem fieldRootsN_core (z0 z1 z2 x1 : Nat) (b0 : z0 < B4) (q0 : rootBy e8 e4 z0 = none) (h1 : x1 = 28948022309329048855892746252171976963317496166410141009864396001978282409974) (q1 : z1 = z0 ^ x1 % prime) (q2 : z2 = z0 % prime) (q3 : 0 = (z1 + 1) % prime) (f0 : z2 ≠ 0) (f1 : z1 ≠ 1) (f2 : z1 ≠ 1) :
    Pure Try.prog 9 [byt z0] (.bool true) := by
  have b1 : z1 < B4 := by rw [q1]; exact prime_lt _
  have b2 : z2 < B4 := by rw [q2]; exact prime_lt _
  have hF : Facts.Hold fieldRootsNF (nu (byL z0 ++ (byL z1 ++ (byL z2)))) := by
    refine ⟨fun p hp => (by cases hp), fun p hp => ?_⟩
    simp only [fieldRootsNF, List.mem_cons, List.not_mem_nil, or_false] at hp
    rcases hp with rfl | rfl | rfl
    · exact neB_holds (x := z2) (y := 0) b2 (by decide) (by kernel_rfl) (cL_val _ _) f0
    · exact neB_holds (x := z1) (y := 1) b1 (by decide) (by kernel_rfl) (cL_val _ _) f1
    · exact neB_holds (x := z1) (y := 1) b1 (by decide) (by kernel_rfl) (cL_val _ _) f2
  refine pure_of hF mixed tab_ok (fun r hr => ?_) fieldRootsN_says (by kernel_rfl) rfl
  simp only [fieldRootsNT, List.mem_cons, List.not_mem_nil, or_false] at hr
  rcases hr with rfl | rfl | rfl | rfl | rfl
  · exact rowRootN (x := z0) b0 q0 (by kernel_rfl) (by kernel_rfl)
  · exact rowPowB (x := z0) (y := x1) b0 (by rw [h1]; decide) (by kernel_rfl) (by rw [h1]; kernel_rfl) (by rw [← q1]; kernel_rfl)
  · exact rowModB (x := z0) b0 (by kernel_rfl) (by rw [← q2]; kernel_rfl)
  · exact rowAddB (x := z1) (y := 1) b1 (by decide) (by kernel_rfl) (by kernel_rfl) (by rw [← q3]; kernel_rfl)
  · exact rowWakes

def fieldRootsYT : List Row := [⟨23, [bs 0], .tp [bs 32, .b true]⟩, ⟨25, [bs 0, kB 28948022309329048855892746252171976963317496166410141009864396001978282409974], kB 1⟩, ⟨13, [bs 0], bs 64⟩, ⟨20, [bs 32, bs 32], bs 64⟩, ⟨22, [], .b true⟩]
def fieldRootsYF : Facts := ⟨[], [neB (sL 64) (cL 0), evenF 32]⟩
theorem fieldRootsY_says : says fieldRootsYF tree fieldRootsYT 600 7 9 [bs 0] (heap0 [] gmax) (.b true) = true := by kernel_rfl
theorem fieldRootsY_core (z0 z1 z2 x1 : Nat) (b0 : z0 < B4) (q0 : rootBy e8 e4 z0 = some z1) (h1 : x1 = 28948022309329048855892746252171976963317496166410141009864396001978282409974) (q1 : 1 = z0 ^ x1 % prime) (q2 : z2 = z0 % prime) (q3 : z2 = z1 * z1 % prime) (f0 : z2 ≠ 0) (f1 : z1 % 2 = 0) :
    Pure Try.prog 9 [byt z0] (.bool true) := by
  have b1 : z1 < B4 := Nat.lt_trans (root_some q0).1 (by decide)
  have b2 : z2 < B4 := by rw [q2]; exact prime_lt _
  have hF : Facts.Hold fieldRootsYF (nu (byL z0 ++ (byL z1 ++ (byL z2)))) := by
    refine ⟨fun p hp => (by cases hp), fun p hp => ?_⟩
    simp only [fieldRootsYF, List.mem_cons, List.not_mem_nil, or_false] at hp
    rcases hp with rfl | rfl
    · exact neB_holds (x := z2) (y := 0) b2 (by decide) (by kernel_rfl) (cL_val _ _) f0
    · exact evenF_holds (by kernel_rfl) f1
  refine pure_of hF mixed tab_ok (fun r hr => ?_) fieldRootsY_says (by kernel_rfl) rfl
  simp only [fieldRootsYT, List.mem_cons, List.not_mem_nil, or_false] at hr
  rcases hr with rfl | rfl | rfl | rfl | rfl
  · exact rowRootY (x := z0) (y := z1) b0 q0 (by kernel_rfl) (by kernel_rfl)
  · exact rowPowB (x := z0) (y := x1) b0 (by rw [h1]; decide) (by kernel_rfl) (by rw [h1]; kernel_rfl) (by rw [← q1]; kernel_rfl)
  · exact rowModB (x := z0) b0 (by kernel_rfl) (by rw [← q2]; kernel_rfl)
  · exact rowMulB (x := z1) (y := z1) b1 b1 (by kernel_rfl) (by kernel_rfl) (by rw [← q3]; kernel_rfl)
  · exact rowWakes

def fieldRootsZT : List Row := [⟨23, [bs 0], .tp [kB 0, .b true]⟩, ⟨25, [bs 0, kB 28948022309329048855892746252171976963317496166410141009864396001978282409974], kB 0⟩, ⟨13, [bs 0], kB 0⟩, ⟨20, [kB 0, kB 0], kB 0⟩, ⟨22, [], .b true⟩]
def fieldRootsZF : Facts := ⟨[], []⟩
theorem fieldRootsZ_says : says fieldRootsZF tree fieldRootsZT 600 7 9 [bs 0] (heap0 [] gmax) (.b true) = true := by kernel_rfl
theorem fieldRootsZ_core (z0 x1 : Nat) (b0 : z0 < B4) (q0 : rootBy e8 e4 z0 = some 0) (h1 : x1 = 28948022309329048855892746252171976963317496166410141009864396001978282409974) (q1 : 0 = z0 ^ x1 % prime) (q2 : 0 = z0 % prime) (q3 : 0 = 0 * 0 % prime) :
    Pure Try.prog 9 [byt z0] (.bool true) := by
  have hF : Facts.Hold fieldRootsZF (nu (byL z0)) := by
    refine ⟨fun p hp => (by cases hp), fun p hp => ?_⟩
    cases hp
  refine pure_of hF mixed tab_ok (fun r hr => ?_) fieldRootsZ_says (by kernel_rfl) rfl
  simp only [fieldRootsZT, List.mem_cons, List.not_mem_nil, or_false] at hr
  rcases hr with rfl | rfl | rfl | rfl | rfl
  · exact rowRootY (x := z0) (y := 0) b0 q0 (by kernel_rfl) (by kernel_rfl)
  · exact rowPowB (x := z0) (y := x1) b0 (by rw [h1]; decide) (by kernel_rfl) (by rw [h1]; kernel_rfl) (by rw [← q1]; kernel_rfl)
  · exact rowModB (x := z0) b0 (by kernel_rfl) (by rw [← q2]; kernel_rfl)
  · exact rowMulB (x := 0) (y := 0) (by decide) (by decide) (by kernel_rfl) (by kernel_rfl) (by rw [← q3]; kernel_rfl)
  · exact rowWakes


theorem fieldRoots_law (a : Nat) (ha : a < B4) : Pure Try.prog 9 [byt a] (.bool true) := by
  by_cases h : a % prime = 0
  · exact fieldRootsZ_core a half' ha (root_zero h) rfl (inv_zero half' (by decide) h).symm h.symm (by decide)
  · rcases pow_half_or a h with h1 | h1
    · obtain ⟨y, hy⟩ := root_there h1
      obtain ⟨_, y2, y3⟩ := root_some hy
      exact fieldRootsY_core a y _ half' ha hy rfl h1.symm rfl y3.symm h y2
    · have hr : rootBy e8 e4 a = none := by
        cases hr : rootBy e8 e4 a with
        | none => rfl
        | some y =>
          obtain ⟨_, _, y3⟩ := root_some hr
          rw [pow_half_sq (z := y) y3 h] at h1
          exact absurd h1 (by decide)
      exact fieldRootsN_core a (prime - 1) _ half' ha hr rfl h1.symm rfl (by decide) h (by decide) (by decide)

theorem fieldRoots_lifted (os : Os) (started : os.Started) (H : Type) (enc : TypeId × Value → H) :
    ReturnsInHanded {} Try.checked os 9 .any (Rows.fieldRootsSpec.pre6 enc Try.prog Try.f9 Rows.fieldRootsRow.domain false) (Rows.fieldRootsSpec.post enc Try.prog Try.f9 false true false false) := by
  refine returnsInHanded_of_change (C := Try.checked) own started (by kernel_rfl) Try.func9
    (ChangeSpec.witness6 (enc := enc) (C := Try.checked) false ⟨#[], #[byt 0], []⟩ 8 (by kernel_rfl) (by kernel_rfl) (by kernel_rfl) (by kernel_rfl)) ?_
  intro W base args ds gs before hval0 hW hcnd _
  have hval : ∀ (j : Nat) t v, Try.f9.params[j]? = some t → args[j]? = some v → Value.okWide Try.prog W .any base t v := hval0
  have hW' := hW
  obtain ⟨p, q, hA0, hV, rfl, hfz, hnd⟩ := hW
  have hA : DataW.TrodAll enc Try.prog W 0 (fun _ => true) true Try.f9.params.toList args.toList ds p := hA0
  rw [Try.params9] at hA hval
  obtain ⟨v0, vs0, d0, ds0, p0, q0, hargs, rfl, rfl, h0, r0⟩ := trodAll_cons hA
  obtain ⟨rfl, rfl, rfl⟩ := trodAll_nil r0
  obtain rfl : args = #[v0] := by cases args; simp_all
  obtain ⟨rfl, rfl⟩ := trodVars_none hV
  obtain ⟨a0, b0, rfl, rfl, s0⟩ := open_num (hval 0 _ v0 rfl rfl) h0
  clear hA0 hval0
  simp only [List.append_nil] at hW'
  refine (Pure.calls (fieldRoots_law a0 b0) Try.func9 (by kernel_rfl) (by kernel_rfl) W).mono fun e W' ⟨he, hg⟩ => ?_
  subst he
  exact ⟨_, rfl, post_below (pa := []) (pv := []) hW' (fun _ _ _ => trodAll_cons_mk (shut_bool Try.underlying4 _) trodAll_mk0) (fun sp _ => (trodAll_cons_mk (s0 _ _ _ _ _) trodAll_mk0)) (fun _ _ => rfl) rfl
    hg (ok_one (by kernel_rfl) rfl (okWide_bool_mk Try.underlying4 _))⟩

/-- THE STATEMENT. -/
theorem fieldRoots_holds : Rows.FieldRootsSaid :=
  OpenClaim.holds_of_wide 9 Try.f9 rfl rfl rfl rfl rfl rfl rfl ⟨rfl, rfl, rfl, rfl, rfl⟩ rfl rfl rfl rfl rfl (by kernel_rfl) Try.func9 (by kernel_rfl)
    (of_decide_eq_true (by kernel_rfl)) (by unfold Func.isWrapper; first | (rw [if_pos (by decide +kernel)]; kernel_rfl) | (rw [if_neg (by decide +kernel)]; exact ⟨rfl, rfl⟩))
    (fun os started H enc _ => fieldRoots_lifted os started H enc)
#print axioms fieldRoots_holds
end Go.Proofs.Ytdillfhieilgnaa
