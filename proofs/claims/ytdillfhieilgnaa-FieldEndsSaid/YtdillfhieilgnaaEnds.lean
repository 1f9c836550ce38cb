/-
  FieldEnds: for all its arguments the law returns true. Conditions: none.
-/
import Derived.Test.YtdillfhieilgnaaFi
namespace Go.Proofs.Ytdillfhieilgnaa
open Go.Sh
open Go.ChangeShapes Go.WideShapes Go.ChangeAt Go.RowKit
set_option maxRecDepth 100000

theorem kB_conc2 (ν : Nat → Int) (x : Nat) : conc2 ν (kB x) = some (byt x) := by kernel_rfl
theorem kB_conc (ν : Nat → Int) (x : Nat) : conc ν (kB x) = some (byt x) := by kernel_rfl

def top' : Nat := 115792089237316195423570985008687907853269984665640564039457584007913129639935
def endsT (r : Nat) : List Row := [⟨13, [kB (prime + r)], kB r⟩, ⟨13, [kB prime], kB 0⟩, ⟨16, [kB (prime + r), kB 1], kB (r + 1)⟩, ⟨13, [kB (r + 1)], kB (r + 1)⟩, ⟨13, [kB top'], kB 37⟩,
  ⟨18, [kB 0, kB 1], kB (prime - 1)⟩, ⟨18, [kB prime, kB 1], kB (prime - 1)⟩, ⟨22, [], .b true⟩]
def endsF (r : Nat) : Facts := ⟨[(.e .rem .u64 (.s 0) (.c (.ofNat 19)), .ofNat r)], []⟩
noncomputable def sayEnds (r : Nat) (t : Bool) : Bool := says (endsF r) tree (endsT r) 600 7 7 [wd 0, .b t] (heap0 [] gmax) (.b true)
theorem ends_0 (t : Bool) : sayEnds 0 t = true := by cases t <;> kernel_rfl
theorem ends_1 (t : Bool) : sayEnds 1 t = true := by cases t <;> kernel_rfl
theorem ends_2 (t : Bool) : sayEnds 2 t = true := by cases t <;> kernel_rfl
theorem ends_3 (t : Bool) : sayEnds 3 t = true := by cases t <;> kernel_rfl
theorem ends_4 (t : Bool) : sayEnds 4 t = true := by cases t <;> kernel_rfl
theorem ends_5 (t : Bool) : sayEnds 5 t = true := by cases t <;> kernel_rfl
theorem ends_6 (t : Bool) : sayEnds 6 t = true := by cases t <;> kernel_rfl
theorem ends_7 (t : Bool) : sayEnds 7 t = true := by cases t <;> kernel_rfl
theorem ends_8 (t : Bool) : sayEnds 8 t = true := by cases t <;> kernel_rfl
theorem ends_9 (t : Bool) : sayEnds 9 t = true := by cases t <;> kernel_rfl
theorem ends_10 (t : Bool) : sayEnds 10 t = true := by cases t <;> kernel_rfl
theorem ends_11 (t : Bool) : sayEnds 11 t = true := by cases t <;> kernel_rfl
theorem ends_12 (t : Bool) : sayEnds 12 t = true := by cases t <;> kernel_rfl
theorem ends_13 (t : Bool) : sayEnds 13 t = true := by cases t <;> kernel_rfl
theorem ends_14 (t : Bool) : sayEnds 14 t = true := by cases t <;> kernel_rfl
theorem ends_15 (t : Bool) : sayEnds 15 t = true := by cases t <;> kernel_rfl
theorem ends_16 (t : Bool) : sayEnds 16 t = true := by cases t <;> kernel_rfl
theorem ends_17 (t : Bool) : sayEnds 17 t = true := by cases t <;> kernel_rfl
theorem ends_18 (t : Bool) : sayEnds 18 t = true := by cases t <;> kernel_rfl
theorem ends_says (t : Bool) : ∀ r, r < 19 → sayEnds r t = true
  | 0, _ => ends_0 t
  | 1, _ => ends_1 t
  | 2, _ => ends_2 t
  | 3, _ => ends_3 t
  | 4, _ => ends_4 t
  | 5, _ => ends_5 t
  | 6, _ => ends_6 t
  | 7, _ => ends_7 t
  | 8, _ => ends_8 t
  | 9, _ => ends_9 t
  | 10, _ => ends_10 t
  | 11, _ => ends_11 t
  | 12, _ => ends_12 t
  | 13, _ => ends_13 t
  | 14, _ => ends_14 t
  | 15, _ => ends_15 t
  | 16, _ => ends_16 t
  | 17, _ => ends_17 t
  | 18, _ => ends_18 t
  | r + 19, h => absurd h (by omega)

theorem fieldEnds_law (n : Nat) (t : Bool) (_ : n < 18446744073709551616) : Pure Try.prog 7 [u64 n, .bool t] (.bool true) := by
  have hr : n % 19 < 19 := Nat.mod_lt _ (by decide)
  have hF : Facts.Hold (endsF (n % 19)) (nu [n]) := by
    refine ⟨fun p hp => ?_, fun p hp => (by cases hp)⟩
    simp only [endsF, List.mem_cons, List.not_mem_nil, or_false] at hp
    subst hp
    show Int.tmod ((n : Nat) : Int) ((19 : Nat) : Int) = ((n % 19 : Nat) : Int)
    rw [← Int.ofNat_tmod]
  have hsay := ends_says t (n % 19) hr
  generalize n % 19 = r at hr hF hsay
  have g1 : (prime + r) % prime = r := by rw [Nat.add_mod_left]; exact Nat.mod_eq_of_lt (by unfold prime; omega)
  have g2 : (prime + r + 1) % prime = r + 1 := by rw [Nat.add_assoc, Nat.add_mod_left]; exact Nat.mod_eq_of_lt (by unfold prime; omega)
  have g3 : (r + 1) % prime = r + 1 := Nat.mod_eq_of_lt (by unfold prime; omega)
  have b1 : prime + r < B4 := by unfold prime B4; omega
  have b2 : r + 1 < B4 := by unfold B4; omega
  refine pure_of hF mixed tab_ok (fun q hq => ?_) hsay (by cases t <;> kernel_rfl) rfl
  simp only [endsT, List.mem_cons, List.not_mem_nil, or_false] at hq
  rcases hq with rfl | rfl | rfl | rfl | rfl | rfl | rfl | rfl
  · exact rowModB b1 (kB_conc2 _ _) (by rw [g1]; exact kB_conc _ _)
  · exact rowModB (by decide) (kB_conc2 _ _) (by rw [show prime % prime = 0 from Nat.mod_self _]; exact kB_conc _ _)
  · exact rowAddB b1 (by decide) (kB_conc2 _ _) (kB_conc2 _ _) (by rw [g2]; exact kB_conc _ _)
  · exact rowModB b2 (kB_conc2 _ _) (by rw [g3]; exact kB_conc _ _)
  · exact rowModB (by decide) (kB_conc2 _ _) (by rw [show top' % prime = 37 by decide]; exact kB_conc _ _)
  · exact rowSubB (by decide) (by decide) (kB_conc2 _ _) (kB_conc2 _ _) (by rw [show (0 + (prime - 1 % prime)) % prime = prime - 1 by decide]; exact kB_conc _ _)
  · exact rowSubB (by decide) (by decide) (kB_conc2 _ _) (kB_conc2 _ _) (by rw [show (prime + (prime - 1 % prime)) % prime = prime - 1 by decide]; exact kB_conc _ _)
  · exact rowWakes

theorem fieldEnds_lifted (os : Os) (started : os.Started) (H : Type) (enc : TypeId × Value → H) :
    ReturnsInHanded {} Try.checked os 7 .any (Rows.fieldEndsSpec.pre6 enc Try.prog Try.f7 Rows.fieldEndsRow.domain false) (Rows.fieldEndsSpec.post enc Try.prog Try.f7 false true false false) := by
  refine returnsInHanded_of_change (C := Try.checked) own started (by kernel_rfl) Try.func7
    (ChangeSpec.witness6 (enc := enc) (C := Try.checked) false ⟨#[], #[.int .u64 0, .bool false], []⟩ 8 (by kernel_rfl) (by kernel_rfl) (by kernel_rfl) (by kernel_rfl)) ?_
  intro W base args ds gs before hval0 hW hcnd _
  have hval : ∀ (j : Nat) t v, Try.f7.params[j]? = some t → args[j]? = some v → Value.okWide Try.prog W .any base t v := hval0
  have hW' := hW
  obtain ⟨p, q, hA0, hV, rfl, hfz, hnd⟩ := hW
  have hA : DataW.TrodAll enc Try.prog W 0 (fun _ => true) true Try.f7.params.toList args.toList ds p := hA0
  rw [Try.params7] at hA hval
  obtain ⟨v0, vs0, d0, ds0, p0, q0, hargs, rfl, rfl, h0, r0⟩ := trodAll_cons hA
  obtain ⟨v1, vs1, d1, ds1, p1, q1, rfl, rfl, rfl, h1, r1⟩ := trodAll_cons r0
  obtain ⟨rfl, rfl, rfl⟩ := trodAll_nil r1
  obtain rfl : args = #[v0, v1] := by cases args; simp_all
  obtain ⟨rfl, rfl⟩ := trodVars_none hV
  obtain ⟨n0, rfl, rfl, rfl, w0⟩ := open_int Try.underlying23 (hval 0 _ v0 rfl rfl) h0
  have s0 := plain_int (H := H) Try.underlying23 w0
  obtain ⟨a0, rfl, b0⟩ := word_of w0
  obtain ⟨a1, rfl, rfl, rfl⟩ := open_bool Try.underlying4 (hval 1 _ v1 rfl rfl) h1
  have s1 := plain_bool (H := H) Try.underlying4 a1
  clear hA0 hval0
  simp only [List.append_nil] at hW'
  refine (Pure.calls (fieldEnds_law a0 a1 b0) Try.func7 (by kernel_rfl) (by kernel_rfl) W).mono fun e W' ⟨he, hg⟩ => ?_
  subst he
  exact ⟨_, rfl, post_below (pa := []) (pv := []) hW' (fun _ _ _ => trodAll_cons_mk (shut_bool Try.underlying4 _) trodAll_mk0) (fun sp _ => (trodAll_cons_mk (s0 _ _ _ _ _) (trodAll_cons_mk (s1 _ _ _ _ _) trodAll_mk0))) (fun _ _ => rfl) rfl
    hg (ok_one (by kernel_rfl) rfl (okWide_bool_mk Try.underlying4 _))⟩

/-- THE STATEMENT. -/
theorem fieldEnds_holds : Rows.FieldEndsSaid :=
  OpenClaim.holds_of_wide 7 Try.f7 rfl rfl rfl rfl rfl rfl rfl ⟨rfl, rfl, rfl, rfl, rfl⟩ rfl rfl rfl rfl rfl (by kernel_rfl) Try.func7 (by kernel_rfl)
    (of_decide_eq_true (by kernel_rfl)) (by unfold Func.isWrapper; first | (rw [if_pos (by decide +kernel)]; kernel_rfl) | (rw [if_neg (by decide +kernel)]; exact ⟨rfl, rfl⟩))
    (fun os started H enc _ => fieldEnds_lifted os started H enc)
#print axioms fieldEnds_holds
end Go.Proofs.Ytdillfhieilgnaa
