/-
 SignLooks: for all its arguments the law returns true, where the program's variables are laid as the program's text lays them. Conditions: none beside that one (the card ties it to the text).
-/
import Derived.Test.YtheidgcgdkmmiaaDoorRn
namespace Go.Proofs.YtheidgcgdkmmiaaDoor
open Go.Sh
open Go.ChangeShapes Go.WideShapes Go.ChangeAt Go.RowKit
set_option maxRecDepth 100000

theorem signLooks_law {W : World} (hL : Laid gl9 W) {v : Value} {zs : List Int} (hv : ReadsAs W .u8 v zs) (hw : ∀ z ∈ zs, (Lit.int .u8 z).wf = true) (p r s : Nat) (bp : p < B4) (br : r < B4) (bs : s < B4) :
  Calls Tryd.prog 4 #[byt p, v, byt2 r s] W fun e W' => e = .returned (.bool true) ∧ Below W.heap.size W W' := by
 obtain ⟨u, n, pl, hc, _⟩ := came_of hv hw
 obtain ⟨zz, hz8, hzz⟩ := nat_bytes hw
 rw [show (fun i => zs.getD i 0) = fun j => (zz j : Int) from funext hzz] at hc
 obtain ⟨k1, h9⟩ : ∃ d, d = dLo (zK r p zz) (64 + n) := ⟨_, rfl⟩
 obtain ⟨k2, h10⟩ : ∃ d, d = dHi (zK r p zz) (64 + n) := ⟨_, rfl⟩
 obtain ⟨k, hk⟩ : ∃ k, wS (dgt (zK r p zz) (64 + n)) 64 % ordL = k := ⟨_, rfl⟩
 have H : Lk (lkS9 p r s k1 k2 k) n zz := ⟨h9, h10, hk, bp, br, bs⟩
 by_cases hm : 500 < n
 ·cases u
  ·have : n = 0 := hc.2.1
   omega
  ·have : n = 0 := hc.2.1
   omega
  ·obtain ⟨va, nd⟩ := hc.here0 (ν := nuX9 (lkS9 p r s k1 k2 k) ex0 n zz) (gp := at1' 64 pl) (blk := 64) (k := 9000) (by decide) (if_pos rfl) nu9_n
   refine yes_ofN (law_row9 (by decide) ⟨fun p hp => (by cases hp), fun p hp => ?_, fun p hp => by cases hp⟩ (fun r hr => by cases hr) (fun r hr => by cases hr) (fun r hr => by cases hr) lk_over (gl0_need (by decide)) (by kernel_rfl)) hL nd (lr_of (vs := [_, _, _]) ⟨(qaK (qbC 4 (by decide))).1, va, (qaK (lkV_val (g := lkS9 p r s k1 k2 k))).1, trivial⟩)
   simp only [List.mem_cons, List.not_mem_nil, or_false] at hp
   subst hp
   show decide (nuX9 (lkS9 _ r s k1 k2 k) ex0 n zz 9000 > ((500 : Nat) : Int)) = true
   rw [show nuX9 (lkS9 _ r s k1 k2 k) ex0 n zz 9000 = (n : Int) from nu9_n]
   exact decide_eq_true (by omega)
 have no : ∀ {ν : Nat → Int}, ∀ p ∈ ([] : List (BinOp × AI × AI × Bool)), qaE p.1 (p.2.1.val ν) (p.2.2.1.val ν) = p.2.2.2 := fun p hp => by cases hp
 have hn : n ≤ 500 := by omega
 by_cases hs : s < ordL
 ·have hs : decide (s < ordL) = true := decide_eq_true hs
  by_cases hA : ∃ A, enc A = p
  ·obtain ⟨A, hA⟩ := hA
   obtain ⟨q, hq⟩ : ∃ q, enc (smul k A) = q := ⟨_, rfl⟩
   by_cases hR : ∃ R, enc R = r
   ·obtain ⟨R, hR⟩ := hR
    obtain ⟨v', hv'⟩ : ∃ v, enc (R.add (smul k A)) = v := ⟨_, rfl⟩
    obtain ⟨w, hw'⟩ : ∃ w, enc (smul s pB0) = w := ⟨_, rfl⟩
    by_cases hE : w = v'
    ·subst hE
     exact look_of (g := lkS9 p r s k1 k2 k) (T := lkT3 14) (G := lkG3 14) (N := []) hL hc hz8 hn (e := lkX q w w R) H (lkT3_ok H hs hR hA hq hv' (by decide) hw') (lkG3_ok H hs hR hA hq hv' (by decide) hw') no lk_goE
    ·exact look_of (g := lkS9 p r s k1 k2 k) (T := lkT3 15) (G := lkG3 15) (N := lkN) hL hc hz8 hn (e := lkX q v' w R) H (lkT3_ok H hs hR hA hq hv' (by decide) hw') (lkG3_ok H hs hR hA hq hv' (by decide) hw') (lkN_hold (hv' ▸ enc_lt _) (hw' ▸ enc_lt _) hE) lk_goF
   ·have hR : ∀ P, enc P ≠ r := fun P h => hR ⟨P, h⟩
    exact look_of (g := lkS9 p r s k1 k2 k) (T := lkT1) (G := lkG2) (N := []) hL hc hz8 hn (e := lkX q 0 0 .zero) H (lkT1_ok H hs hR) (lkG2_ok H hs hR hA hq) no lk_goD
  ·have hA : ∀ P, enc P ≠ p := fun P h => hA ⟨P, h⟩
   by_cases hR : ∃ R, enc R = r
   ·obtain ⟨R, hR⟩ := hR
    exact look_of (g := lkS9 p r s k1 k2 k) (T := lkT2) (G := lkG1) (N := []) hL hc hz8 hn (e := lkX 0 0 0 R) H (lkT2_ok H hs hR hA) (lkG1_ok H hs hA) no lk_goC
   ·have hR : ∀ P, enc P ≠ r := fun P h => hR ⟨P, h⟩
    exact look_of (g := lkS9 p r s k1 k2 k) (T := lkT1) (G := lkG1) (N := []) hL hc hz8 hn (e := ex0) H (lkT1_ok H hs hR) (lkG1_ok H hs hA) no lk_goB
 ·have hs : decide (s < ordL) = false := decide_eq_false hs
  exact look_of (g := lkS9 p r s k1 k2 k) (T := lkT false) (G := lkG false) (N := []) hL hc hz8 hn (e := ex0) H (lkT_ok H hs) (lkG_ok H hs) no lk_goA


abbrev signLooksLaid : List (String × DataW Unit) := Rows.signLooksRow.laid
theorem signLooks_met (os : Os) (args : Array Value) : laidMetH Tryd.prog signLooksLaid ((World.doorLaid Tryd.prog 400 os).forCall (fun _ _ => 0) ⟨#[], args, []⟩).memory :=
 laidMetH_of_parts3 (fuel := 8) (laidMet_of_run' 8 (by kernel_rfl) (by kernel_rfl)) (by kernel_rfl) (by kernel_rfl)

theorem signLooks_lifted (os : Os) (started : os.Started) (H : Type) (enc : TypeId × Value → H) :
  ReturnsInHanded {} Tryd.checked os 4 .any (fun w args => (Rows.signLooksSpec.pre enc Tryd.prog Tryd.f4 [] false w args ∧ laidMetH Tryd.prog signLooksLaid w) ∧ sizedMet enc Tryd.prog Tryd.f4 (OpenSpec.ofChange Rows.signLooksSpec) false w args)
   (Rows.signLooksSpec.post enc Tryd.prog Tryd.f4 false true false false) := by
 refine returnsInHanded_of_change_and (C := Tryd.checked) (X := fun w _ => laidMetH Tryd.prog signLooksLaid w) (fun _ _ _ hh h => h.of_heap hh) own started (by kernel_rfl) Tryd.func4
  (ChangeSpec.witness_shaped (enc := enc) (C := Tryd.checked) (os := os) (X := fun w _ => laidMetH Tryd.prog signLooksLaid w) false (World.doorLaid Tryd.prog 400 os) #[byt 0, .slice none 0 0, byt2 0 0] 8 rfl (World.shaped_of_RefB (by kernel_rfl) (by kernel_rfl)) (by kernel_rfl) (by kernel_rfl) (by kernel_rfl) (signLooks_met os _)) ?_
 intro W base args ds gs before hval0 hW _ _ hL _
 have hval : ∀ (j : Nat) t v, Tryd.f4.params[j]? = some t → args[j]? = some v → Value.okWide Tryd.prog W .any base t v := hval0
 have hW' := hW
 obtain ⟨p, q, hA0, hV, rfl, hfz, hnd⟩ := hW
 have hA : DataW.TrodAll enc Tryd.prog W 0 (fun _ => true) true Tryd.f4.params.toList args.toList ds p := hA0
 rw [Tryd.params4] at hA hval
 obtain ⟨v0, vs0, d0, ds0, p0, q0, hargs, rfl, rfl, h0, r0⟩ := trodAll_cons hA
 obtain ⟨v1, vs1, d1, ds1, p1, q1, rfl, rfl, rfl, h1, r1⟩ := trodAll_cons r0
 obtain ⟨v2, vs2, d2, ds2, p2, q2, rfl, rfl, rfl, h2, r2⟩ := trodAll_cons r1
 obtain ⟨rfl, rfl, rfl⟩ := trodAll_nil r2
 obtain rfl : args = #[v0, v1, v2] := by cases args; simp_all
 obtain ⟨rfl, rfl⟩ := trodVars_none hV
 obtain ⟨a0, b0, rfl, rfl, s0⟩ := open_num (hval 0 _ v0 rfl rfl) h0
 obtain ⟨z1, k1, w1, _⟩ := reads_open Tryd.underlying23 Tryd.underlying5 cells1 (hval 1 _ v1 rfl rfl) h1
 obtain ⟨a2, c2, b2, e2, rfl, rfl, s2⟩ := open_sig (hval 2 _ v2 rfl rfl) h2
 clear hA0 hval0
 simp only [List.append_nil, List.nil_append] at hW'
 have hlt : ∀ x ∈ p1, x.block < W.heap.size := fun x hx => hW'.lt x hx
 refine (signLooks_law (laid9 hL) k1 w1 a0 a2 c2 b0 b2 e2).mono fun e W' ⟨he, hg⟩ => ?_
 subst he
 exact ⟨_, rfl, post_below (pa := p1) (pv := []) hW' (fun _ _ _ => trodAll_cons_mk (shut_bool Tryd.underlying4 _) trodAll_mk0) (fun sp hsp => (by have hh := (trodAll_cons_mk (s0 _ _ _ _ _) (trodAll_cons_mk (kept_arg laidOut (by kernel_rfl) (of_decide_eq_true (by kernel_rfl)) h1 hg (fun x hx => hlt x (by simp [hx])) (fun x hx => hsp x (by simp [hx]))) (trodAll_cons_mk (s2 _ _ _ _ _) trodAll_mk0))); simp only [List.append_nil] at hh; exact hh)) (fun _ _ => rfl) (by simp)
  hg (ok_one (by kernel_rfl) rfl (okWide_bool_mk Tryd.underlying4 _))⟩

theorem signLooks_over : Rows.SignLooksSaid :=
 OpenClaim.holds_of_wide 4 Tryd.f4 rfl rfl rfl rfl rfl rfl rfl ⟨rfl, rfl, rfl, rfl, rfl⟩ rfl rfl rfl rfl rfl (by kernel_rfl) Tryd.func4 (by kernel_rfl)
  (of_decide_eq_true (by kernel_rfl)) (by unfold Func.isWrapper; first | (rw [if_pos (by decide +kernel)]; kernel_rfl) | (rw [if_neg (by decide +kernel)]; exact ⟨rfl, rfl⟩))
  (fun os started H enc _ => signLooks_lifted os started H enc)

/-- THE STATEMENT. -/
theorem signLooks_holds : Rows.SignLooksCardSaid :=
 Claim7.holds_tied_plain_at .later [] [.data, .data, .data, .data, .data, .data, .data] true (true, "8945106303d7676a0a05d7d9f66dd55c44629bbb45e42e457c2af300e3c66b61") false
  signLooks_over (fun _ h => by cases h) (by kernel_rfl) (fun _ h => by cases h) signLooks_row_tie rfl ⟨rfl, rfl⟩ (by kernel_rfl) rfl
  (fun f fn hf hfn => by
   obtain rfl : f = 4 := Option.some.inj ((show Tryd.prog.funcNamed "tryst/trystlaw09.SignLooks" = some 4 by kernel_rfl).symm.trans hf) |>.symm
   obtain rfl : fn = Tryd.f4 := (Option.some.inj (Tryd.func4.symm.trans hfn)).symm
   exact ⟨by kernel_rfl, fun j t ht => by
    rw [Tryd.params4] at ht
    have hm : t ∈ [22, 23, 25] := by simpa using Array.mem_of_getElem? ht
    have hall : ([22, 23, 25].all fun u => !Tryd.prog.wantsStandIn u) = true := by kernel_rfl
    exact (show Tryd.prog.wantsStandIn t = false by simpa using List.all_eq_true.1 hall t hm)⟩)
  (by kernel_rfl)
#print axioms signLooks_holds
end Go.Proofs.YtheidgcgdkmmiaaDoor
