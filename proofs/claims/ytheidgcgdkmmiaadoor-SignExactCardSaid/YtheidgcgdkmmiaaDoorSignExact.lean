/-
 SignExact: for all its arguments the law returns true, where the program's variables are laid as the program's text lays them. Conditions: none beside that one (the card ties it to the text).
-/
import Derived.Test.YtheidgcgdkmmiaaDoorRl
namespace Go.Proofs.YtheidgcgdkmmiaaDoor
open Go.Sh
open Go.ChangeShapes Go.WideShapes Go.ChangeAt Go.RowKit
set_option maxRecDepth 100000

theorem exF_hold {g : Sg} {e : Ex} {n : Nat} {zz : Nat → Nat} (H : g.Ok n zz) (h0 : 0 < n) (hn : n ≤ 500) : exF.Hold (nuX9 g e n zz) := by
 refine ⟨fun p hp => (by cases hp), fun p hp => ?_, fun p hp => ?_⟩
 ·simp only [exF, List.mem_cons, List.not_mem_nil, or_false] at hp
  rcases hp with rfl | rfl | rfl | rfl | rfl | rfl | rfl | rfl | rfl | rfl | rfl | rfl | rfl | rfl | rfl
  ·exact mxF_ok (.inl rfl) hn
  ·exact mxF_ok (.inr rfl) (by omega)
  ·exact gtF_ok (.inl rfl) h0
  ·exact gtF_ok (.inr rfl) h0
  ·exact ltF_ok (by decide) (by omega)
  ·exact ltF_ok (by decide) (by omega)
  ·exact ltF_ok (by decide) (by omega)
  ·exact ltF_ok (by decide) (by omega)
  ·exact ltF_ok (by decide) (by omega)
  ·exact ltF_ok (by decide) (by omega)
  ·exact eqF_ok (by decide)
  ·exact eqF_ok (by decide)
  ·exact eqF_ok (by decide)
  ·exact eqF_ok (by decide)
  ·exact eqF_ok (by decide)
 ·simp only [exF, List.mem_cons, List.not_mem_nil, or_false] at hp
  rcases hp with rfl | rfl | rfl | rfl
  ·exact catR_ok H (.inr rfl) (.inr rfl) (by omega)
  ·exact catK_ok (.inr rfl) (.inr rfl) (by omega)
  ·exact catR_ok H (.inl rfl) (.inl rfl) (by omega)
  ·exact catK_ok (.inl rfl) (.inl rfl) (by omega)
theorem exM_ok {g : Sg} {e : Ex} {n : Nat} {zz : Nat → Nat} (H : g.Ok n zz) (hz : ∀ j, zz j < 256) (h0 : 0 < n) (hn : n < 1000000000) : ∀ r ∈ exM, r.Ok (nuX9 g e n zz) Tryd.prog gl9 := by
 intro r hr
 simp only [exM, List.mem_cons, List.not_mem_nil, or_false] at hr
 rcases hr with rfl | rfl | rfl | rfl | rfl | rfl | rfl | rfl | rfl | rfl
 ·have e : sgN n 4 = n := rfl
  exact RowM.up (gl := gl256) (fun p hp => by cases hp) (rowTw_T (tx_text List.mem_cons_self (.inl rfl) h0 hn) h0 (by omega) (tgT (by decide) (by decide)) (tg_Ke (by decide)) (nu9_L (t := 4) (by decide)) fun j hj => nu9_B (t := 4) (by decide) (by omega))
 ·exact rowSeed_ok H
 ·exact sg1_ok H (.inr rfl) hn
 ·exact sg2_ok H (.inr rfl) hn
 ·exact rowSeed_ok H
 ·exact rowPSeed_ok H
 ·exact rowPSeed_ok H
 ·exact ps1_ok H hz (.inl rfl) hn
 ·exact ps2_ok H hz (.inl rfl) hn
 ·exact RowM.up (gl := gl256) (fun p hp => by cases hp) (rowEq_T (tx_text List.mem_cons_self (.inr rfl) h0 hn) (tx_text (List.mem_cons_of_mem _ List.mem_cons_self) (.inl rfl) h0 hn) h0 (by omega))
theorem exEm_ok {g : Sg} {e : Ex} {zz : Nat → Nat} (H : g.Ok 0 zz) (hz : ∀ j, zz j < 256) : ∀ r ∈ exEm, r.Ok (nuX9 g e 0 zz) Tryd.prog gl9 := by
 intro r hr
 simp only [exEm, List.mem_cons, List.not_mem_nil, or_false] at hr
 rcases hr with rfl | rfl | rfl | rfl | rfl | rfl | rfl | rfl
 ·exact rowSeed_ok H
 ·exact sg1E_ok H
 ·exact sg2E_ok H
 ·exact rowSeed_ok H
 ·exact rowPSeed_ok H
 ·exact rowPSeed_ok H
 ·exact ps1E_ok H hz
 ·exact ps2E_ok H hz
theorem signExact_law {W : World} (hL : Laid gl9 W) {v : Value} {zs : List Int} (hv : ReadsAs W .u8 v zs) (hw : ∀ z ∈ zs, (Lit.int .u8 z).wf = true) (x : Nat) (_ : x < B4) :
  Calls Tryd.prog 3 #[byt x, v] W fun e W' => e = .returned (.bool true) ∧ Below W.heap.size W W' := by
 obtain ⟨u, n, pl, hc, _⟩ := came_of hv hw
 obtain ⟨zz, hz8, hzz⟩ := nat_bytes hw
 rw [show (fun i => zs.getD i 0) = fun j => (zz j : Int) from funext hzz] at hc
 obtain ⟨g, rfl, H⟩ := sg_is x n zz
 have args : ∀ {ρ : Emb} {y : AV}, VR (nuX9 g (exE g) n zz) ρ y v → LR (nuX9 g (exE g) n zz) ρ [rw8 0, y] #[byt g.x, v] := fun hx => lr_of (vs := [_, _]) ⟨(conc2_vr (nu9_b 0 (by decide))).1, hx, trivial⟩
 by_cases hm : 500 < n
 ·cases u
  ·have : n = 0 := hc.2.1
   omega
  ·have : n = 0 := hc.2.1
   omega
  ·obtain ⟨va, nd⟩ := hc.here0 (ν := nuX9 g (exE g) n zz) (gp := at1' 64 pl) (blk := 64) (k := 9000) (by decide) (if_pos rfl) nu9_n
   refine yes_ofN (law_row9 (by decide) ⟨fun p hp => (by cases hp), fun p hp => ?_, fun p hp => by cases hp⟩ (fun r hr => by cases hr) (fun r hr => by cases hr) (fun r hr => by cases hr) se_over (gl0_need (by decide)) (by kernel_rfl)) hL nd (args va)
   simp only [List.mem_cons, List.not_mem_nil, or_false] at hp
   subst hp
   show decide (nuX9 g (exE g) n zz 9000 > ((500 : Nat) : Int)) = true
   rw [show nuX9 g (exE g) n zz 9000 = (n : Int) from nu9_n]
   exact decide_eq_true (by omega)
 ·cases u
  ·have h0 : n = 0 := hc.2.1
   subst h0
   exact yes_ofN (ρ := embF fun _ => none) (law_row9 (by decide) (none_f _) (exT_ok H) (exG_ok H) (exEm_ok H hz8) se_goE1 (fun p hp => by cases hp) (by kernel_rfl)) hL (fun p hp => by cases hp) (args (by rw [hc.1]; exact .nsl))
  ·have h0 : n = 0 := hc.2.1
   subst h0
   obtain ⟨a, cp, rfl⟩ := hc.1
   exact yes_ofN (ρ := embF fun _ => none) (law_row9 (by decide) (none_f _) (exT_ok H) (exG_ok H) (exEm_ok H hz8) se_goE2 (fun p hp => by cases hp) (by kernel_rfl)) hL (fun p hp => by cases hp) (args (.sle _ _ _ (fun h => by cases h)))
  ·have h0 : 0 < n := hc.fits
   obtain ⟨va, nd⟩ := hc.here (ν := nuX9 g (exE g) n zz) (gp := at1' 64 pl) (blk := 64) (T := tg 2) (by decide) (if_pos rfl) (tgT (by decide) (by decide)) (tg_Ke (by decide)) (nu9_L (t := 2) (by decide)) (fun j hj => nu9_B (t := 2) (by decide) (by omega))
   refine yes_ofN (law_row9 (by decide) (exF_hold H h0 (by omega)) (exT_ok H) (exG_ok H) (exM_ok H hz8 h0 (by omega)) se_go pn_need (by kernel_rfl)) hL (fun p hp => ?_) (args va)
   simp only [List.mem_cons, List.not_mem_nil, or_false] at hp
   subst hp
   obtain ⟨_, _, pl', q3, q4⟩ := nd _ List.mem_cons_self
   exact ⟨pl', (embF_other (by decide)).trans q3, q4⟩

abbrev signExactLaid : List (String × DataW Unit) := Rows.signExactRow.laid
theorem signExact_met (os : Os) (args : Array Value) : laidMetH Tryd.prog signExactLaid ((World.doorLaid Tryd.prog 400 os).forCall (fun _ _ => 0) ⟨#[], args, []⟩).memory :=
 laidMetH_of_parts3 (fuel := 8) (laidMet_of_run' 8 (by kernel_rfl) (by kernel_rfl)) (by kernel_rfl) (by kernel_rfl)

theorem signExact_lifted (os : Os) (started : os.Started) (H : Type) (enc : TypeId × Value → H) :
  ReturnsInHanded {} Tryd.checked os 3 .any (fun w args => (Rows.signExactSpec.pre enc Tryd.prog Tryd.f3 [] false w args ∧ laidMetH Tryd.prog signExactLaid w) ∧ sizedMet enc Tryd.prog Tryd.f3 (OpenSpec.ofChange Rows.signExactSpec) false w args)
   (Rows.signExactSpec.post enc Tryd.prog Tryd.f3 false true false false) := by
 refine returnsInHanded_of_change_and (C := Tryd.checked) (X := fun w _ => laidMetH Tryd.prog signExactLaid w) (fun _ _ _ hh h => h.of_heap hh) own started (by kernel_rfl) Tryd.func3
  (ChangeSpec.witness_shaped (enc := enc) (C := Tryd.checked) (os := os) (X := fun w _ => laidMetH Tryd.prog signExactLaid w) false (World.doorLaid Tryd.prog 400 os) #[byt 0, .slice none 0 0] 8 rfl (World.shaped_of_RefB (by kernel_rfl) (by kernel_rfl)) (by kernel_rfl) (by kernel_rfl) (by kernel_rfl) (signExact_met os _)) ?_
 intro W base args ds gs before hval0 hW _ _ hL _
 have hval : ∀ (j : Nat) t v, Tryd.f3.params[j]? = some t → args[j]? = some v → Value.okWide Tryd.prog W .any base t v := hval0
 have hW' := hW
 obtain ⟨p, q, hA0, hV, rfl, hfz, hnd⟩ := hW
 have hA : DataW.TrodAll enc Tryd.prog W 0 (fun _ => true) true Tryd.f3.params.toList args.toList ds p := hA0
 rw [Tryd.params3] at hA hval
 obtain ⟨v0, vs0, d0, ds0, p0, q0, hargs, rfl, rfl, h0, r0⟩ := trodAll_cons hA
 obtain ⟨v1, vs1, d1, ds1, p1, q1, rfl, rfl, rfl, h1, r1⟩ := trodAll_cons r0
 obtain ⟨rfl, rfl, rfl⟩ := trodAll_nil r1
 obtain rfl : args = #[v0, v1] := by cases args; simp_all
 obtain ⟨rfl, rfl⟩ := trodVars_none hV
 obtain ⟨a0, b0, rfl, rfl, s0⟩ := open_num (hval 0 _ v0 rfl rfl) h0
 obtain ⟨z1, k1, w1, _⟩ := reads_open Tryd.underlying23 Tryd.underlying5 cells1 (hval 1 _ v1 rfl rfl) h1
 clear hA0 hval0
 simp only [List.append_nil, List.nil_append] at hW'
 have hlt : ∀ x ∈ p1, x.block < W.heap.size := fun x hx => hW'.lt x hx
 refine (signExact_law (laid9 hL) k1 w1 a0 b0).mono fun e W' ⟨he, hg⟩ => ?_
 subst he
 exact ⟨_, rfl, post_below (pa := p1) (pv := []) hW' (fun _ _ _ => trodAll_cons_mk (shut_bool Tryd.underlying4 _) trodAll_mk0) (fun sp hsp => (by have hh := (trodAll_cons_mk (s0 _ _ _ _ _) (trodAll_cons_mk (kept_arg laidOut (by kernel_rfl) (of_decide_eq_true (by kernel_rfl)) h1 hg (fun x hx => hlt x (by simp [hx])) (fun x hx => hsp x (by simp [hx]))) trodAll_mk0)); simp only [List.append_nil] at hh; exact hh)) (fun _ _ => rfl) (by simp)
  hg (ok_one (by kernel_rfl) rfl (okWide_bool_mk Tryd.underlying4 _))⟩

theorem signExact_over : Rows.SignExactSaid :=
 OpenClaim.holds_of_wide 3 Tryd.f3 rfl rfl rfl rfl rfl rfl rfl ⟨rfl, rfl, rfl, rfl, rfl⟩ rfl rfl rfl rfl rfl (by kernel_rfl) Tryd.func3 (by kernel_rfl)
  (of_decide_eq_true (by kernel_rfl)) (by unfold Func.isWrapper; first | (rw [if_pos (by decide +kernel)]; kernel_rfl) | (rw [if_neg (by decide +kernel)]; exact ⟨rfl, rfl⟩))
  (fun os started H enc _ => signExact_lifted os started H enc)

/-- THE STATEMENT. -/
theorem signExact_holds : Rows.SignExactCardSaid :=
 Claim7.holds_tied_plain_at .later [] [.data, .data, .data, .data, .data, .data] true (true, "8945106303d7676a0a05d7d9f66dd55c44629bbb45e42e457c2af300e3c66b61") false
  signExact_over (fun _ h => by cases h) (by kernel_rfl) (fun _ h => by cases h) signExact_row_tie rfl ⟨rfl, rfl⟩ (by kernel_rfl) rfl
  (fun f fn hf hfn => by
   obtain rfl : f = 3 := Option.some.inj ((show Tryd.prog.funcNamed "tryst/trystlaw09.SignExact" = some 3 by kernel_rfl).symm.trans hf) |>.symm
   obtain rfl : fn = Tryd.f3 := (Option.some.inj (Tryd.func3.symm.trans hfn)).symm
   exact ⟨by kernel_rfl, fun j t ht => by
    rw [Tryd.params3] at ht
    have hm : t ∈ [22, 23] := by simpa using Array.mem_of_getElem? ht
    have hall : ([22, 23].all fun u => !Tryd.prog.wantsStandIn u) = true := by kernel_rfl
    exact (show Tryd.prog.wantsStandIn t = false by simpa using List.all_eq_true.1 hall t hm)⟩)
  (by kernel_rfl)
#print axioms signExact_holds
end Go.Proofs.YtheidgcgdkmmiaaDoor
