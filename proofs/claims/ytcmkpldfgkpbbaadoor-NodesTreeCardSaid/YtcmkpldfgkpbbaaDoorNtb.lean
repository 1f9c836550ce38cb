/-
  NodesTree: for every k and x the law returns true, where the table of de Bruijn's numbers is laid as the program's text lays it. Conditions: none beside that one (the card ties it to the text).
-/
import Derived.Test.YtcmkpldfgkpbbaaDoorNta
import Derived.Test.YtcmkpldfgkpbbaaDoorCards
import Derived.Test.YtcmkpldfgkpbbaaDoorTie
import Derived.ProofKit
import Derived.LaidMore
import Derived.OpenShut
import Derived.Stop.Joined
import Derived.MakeChecks
namespace Go.Proofs.YtcmkpldfgkpbbaaDoor
open Go.Sh
open Go.ChangeShapes Go.WideShapes Go.ChangeAt Go.RowKit
set_option maxRecDepth 100000

theorem own : ownKnob Tryd.prog.godebug = none := by kernel_rfl
theorem gDeb : Tryd.prog.globalNamed "math/bits.deBruijn64tab" = some 0 := by kernel_rfl
theorem tDeb : (Tryd.prog.globals[0]?).map (·.type) = some 43 := by kernel_rfl
theorem cells5 : Tryd.prog.cellsOf 5 = 1 := by kernel_rfl

theorem deb_laid {H : Type} : (Rows.laid_math_bits_deBruijn64tab : DataW H) = .agg (deb.map fun z => .lit (.int .u8 z)) := rfl

theorem of_laid {W : World} (h : laidMetH Tryd.prog [("math/bits.deBruijn64tab", Rows.laid_math_bits_deBruijn64tab)] W) (j : Nat) (z : Int) (hz : deb[j]? = some z) : W.cell? ⟨0, j, none⟩ = some (.int .u8 z) := by
  rw [MakeChecks.laidMetH_plain _ _ _ (by kernel_rfl)] at h
  obtain ⟨ps, ⟨g0, t0, cs0, f0, p0, q0, hg0, ht0, hv0, hd0, _⟩, _⟩ := h
  obtain rfl := Option.some.inj (gDeb.symm.trans hg0)
  obtain rfl := Option.some.inj (tDeb.symm.trans ht0)
  rw [deb_laid] at hd0
  have hc := array_cells Tryd.underlying43 Tryd.underlying5 cells5 hd0 j z hz
  have := World.var?_cell hg0 hv0 j
  rw [this]
  simpa using hc

/-- The named numbers of a call. -/
def nu (a b : Int) : Nat → Int := fun k => if k = 0 then a else b

theorem wrap_u64 (n : Int) : 0 ≤ IntKind.u64.wrap n ∧ IntKind.u64.wrap n = n % 18446744073709551616 := by
  have : IntKind.u64.wrap n = n % 18446744073709551616 := by simp [IntKind.wrap, IntKind.signed, IntKind.bits]
  rw [this]
  omega

theorem walk (a0 a1 : Int) (W : World) (hL : laidMetH Tryd.prog [("math/bits.deBruijn64tab", Rows.laid_math_bits_deBruijn64tab)] W) :
    Calls Tryd.prog 4 #[.int .i64 a0, .int .i64 a1] W fun e w' => e = .returned (.bool true) ∧ Below W.heap.size W w' := by
  obtain ⟨u1, _⟩ := wrap_u64 a0
  obtain ⟨v1, _⟩ := wrap_u64 a1
  obtain ⟨a, ha, ha4⟩ : ∃ a : Nat, (IntKind.u64.wrap a0).tmod 4 = a ∧ a < 4 := by
    rw [Int.tmod_eq_emod_of_nonneg u1]
    exact ⟨((IntKind.u64.wrap a0) % 4).toNat, by omega, by omega⟩
  have hm : 0 < 2 ^ (a + 1) - 1 := by
    have : 2 ≤ 2 ^ (a + 1) := by rw [Nat.pow_succ]; have := Nat.one_le_two_pow (n := a); omega
    omega
  generalize hmm : 2 ^ (a + 1) - 1 = m at hm
  obtain ⟨b, hb, hbm⟩ : ∃ b : Nat, (IntKind.u64.wrap a1).tmod m = b ∧ b < m := by
    rw [Int.tmod_eq_emod_of_nonneg v1]
    have h1 : 0 ≤ IntKind.u64.wrap a1 % (m : Int) := Int.emod_nonneg _ (by omega)
    have h2 : IntKind.u64.wrap a1 % (m : Int) < m := Int.emod_lt_of_pos _ (by omega)
    exact ⟨(IntKind.u64.wrap a1 % (m : Int)).toNat, by omega, by omega⟩
  obtain ⟨H', hrun⟩ := saysTrue_some (all_c a b m ha4 hmm.symm hbm)
  have hF : (factsT m a b).Hold (nu a0 a1) := by
    refine ⟨fun p hp => ?_, fun p hp => by cases hp⟩
    simp only [factsT, List.mem_cons, List.not_mem_nil, or_false] at hp
    rcases hp with rfl | rfl
    · exact ha
    · exact hb
  refine law_true (ρ := embF fun _ => none) hF mixed tab_ok hrun ?_ (fun b hb => embF_other hb) ⟨rfl, fun j x v hx hv => ?_⟩
  · intro p hp
    simp only [List.mem_cons, List.not_mem_nil, or_false] at hp
    subst hp
    refine ⟨⟨0, 0, 0⟩, embF_glob (by decide), br_cells (by simp) fun j c hc => ?_⟩
    have hd : debA[j]? = some c := hc
    simp only [debA, List.getElem?_map, Option.map_eq_some_iff] at hd
    obtain ⟨z, hz, rfl⟩ := hd
    refine ⟨.int .u8 z, ?_, .i _ (.c z)⟩
    rw [Nat.zero_add]
    exact of_laid hL j z hz
  · match j with
    | 0 => simp at hx hv; subst hx; subst hv; exact .i _ (.s 0)
    | 1 => simp at hx hv; subst hx; subst hv; exact .i _ (.s 1)
    | j + 2 => simp at hx

/-- The door's own heap meets the condition. -/
theorem door_met (os : Os) (args : Array Value) : laidMetH Tryd.prog [("math/bits.deBruijn64tab", Rows.laid_math_bits_deBruijn64tab)] ((World.doorLaid Tryd.prog 400 os).forCall (fun _ _ => 0) ⟨#[], args, []⟩).memory :=
  laidMetH_of_parts3 (fuel := 8) (laidMet_of_run' 8 (by kernel_rfl) (by kernel_rfl)) (by kernel_rfl) (by kernel_rfl)

theorem lifted (os : Os) (started : os.Started) (H : Type) (enc : TypeId × Value → H) :
    ReturnsInHanded {} Tryd.checked os 4 .any (fun w args => (Rows.nodesTreeSpec.pre enc Tryd.prog Tryd.f4 [] false w args ∧ laidMetH Tryd.prog [("math/bits.deBruijn64tab", Rows.laid_math_bits_deBruijn64tab)] w) ∧ sizedMet enc Tryd.prog Tryd.f4 (OpenSpec.ofChange Rows.nodesTreeSpec) false w args)
      (Rows.nodesTreeSpec.post enc Tryd.prog Tryd.f4 false true false false) := by
  refine returnsInHanded_of_change_and (C := Tryd.checked) (X := fun w _ => laidMetH Tryd.prog [("math/bits.deBruijn64tab", Rows.laid_math_bits_deBruijn64tab)] w) (fun _ _ _ hh h => h.of_heap hh) own started (by kernel_rfl) Tryd.func4
    (ChangeSpec.witness_shaped (enc := enc) (C := Tryd.checked) (os := os) (X := fun w _ => laidMetH Tryd.prog [("math/bits.deBruijn64tab", Rows.laid_math_bits_deBruijn64tab)] w) false (World.doorLaid Tryd.prog 400 os) #[.int .i64 0, .int .i64 0] 8 rfl (World.shaped_of_RefB (by kernel_rfl) (by kernel_rfl)) (by kernel_rfl) (by kernel_rfl) (by kernel_rfl) (door_met os _)) ?_
  intro W base args ds gs before hval0 hW _ _ hL _
  have hval : ∀ (j : Nat) t v, Tryd.f4.params[j]? = some t → args[j]? = some v → Value.okWide Tryd.prog W .any base t v := hval0
  have hW' := hW
  obtain ⟨p, q, hA0, hV, rfl, hfz, hnd⟩ := hW
  have hA : DataW.TrodAll enc Tryd.prog W 0 (fun _ => true) true Tryd.f4.params.toList args.toList ds p := hA0
  rw [Tryd.params4] at hA hval
  obtain ⟨v0, vs0, d0, ds0, p0, q0, hargs, rfl, rfl, h0, r0⟩ := trodAll_cons hA
  obtain ⟨v1, vs1, d1, ds1, p1, q1, rfl, rfl, rfl, h1, r1⟩ := trodAll_cons r0
  obtain ⟨rfl, rfl, rfl⟩ := trodAll_nil r1
  obtain rfl : args = #[v0, v1] := by cases args; simp_all
  obtain ⟨rfl, rfl⟩ := trodVars_none hV
  obtain ⟨a0, rfl, rfl, rfl, w0⟩ := open_int Tryd.underlying3 (hval 0 3 v0 rfl rfl) h0
  obtain ⟨a1, rfl, rfl, rfl, w1⟩ := open_int Tryd.underlying3 (hval 1 3 v1 rfl rfl) h1
  clear hA0 hval0
  simp only [List.append_nil] at hW'
  refine (walk a0 a1 W hL).mono fun e W' ⟨he, hg⟩ => ?_
  subst he
  exact ⟨_, rfl, post_below (pa := []) (pv := []) hW' (fun _ _ _ => (trodAll_cons_mk (shut_bool Tryd.underlying4 _) trodAll_mk0)) (fun sp _ => (trodAll_cons_mk (shut_int Tryd.underlying3 w0) (trodAll_cons_mk (shut_int Tryd.underlying3 w1) trodAll_mk0))) (fun _ _ => rfl) rfl
    hg (ok_one (by kernel_rfl) rfl (okWide_bool_mk Tryd.underlying4 _))⟩

theorem nodesTree_over : Rows.NodesTreeSaid :=
  OpenClaim.holds_of_wide 4 Tryd.f4 rfl rfl rfl rfl rfl rfl rfl ⟨rfl, rfl, rfl, rfl, rfl⟩ rfl rfl rfl rfl rfl (by kernel_rfl) Tryd.func4 (by kernel_rfl)
    (of_decide_eq_true (by kernel_rfl)) (by unfold Func.isWrapper; first | (rw [if_pos (by decide +kernel)]; kernel_rfl) | (rw [if_neg (by decide +kernel)]; exact ⟨rfl, rfl⟩))
    (fun os started H enc _ => lifted os started H enc)

/-- THE STATEMENT. -/
theorem nodesTree_card : Rows.NodesTreeCardSaid :=
  Claim7.holds_tied_plain_at .later [] [.data] true (true, "5a2eca6e915ed7e7edb8414920ee1bb33ca12546ae00c053ca53ac1d56346fe7") false
    nodesTree_over (fun _ h => by cases h) (by kernel_rfl) (fun _ h => by cases h) nodesTree_row_tie rfl ⟨rfl, rfl⟩ (by kernel_rfl) rfl
    (fun f fn hf hfn => by
      obtain rfl : f = 4 := Option.some.inj ((show Tryd.prog.funcNamed "tryst/trystlaw15.NodesTree" = some 4 by kernel_rfl).symm.trans hf) |>.symm
      obtain rfl : fn = Tryd.f4 := (Option.some.inj (Tryd.func4.symm.trans hfn)).symm
      exact ⟨by kernel_rfl, fun j t ht => by
        rw [Tryd.params4] at ht
        have hm : t ∈ [3, 3] := by simpa using Array.mem_of_getElem? ht
        have hall : ([3, 3].all fun u => !Tryd.prog.wantsStandIn u) = true := by kernel_rfl
        exact (show Tryd.prog.wantsStandIn t = false by simpa using List.all_eq_true.1 hall t hm)⟩)
    (by kernel_rfl)
#print axioms nodesTree_card
end Go.Proofs.YtcmkpldfgkpbbaaDoor
