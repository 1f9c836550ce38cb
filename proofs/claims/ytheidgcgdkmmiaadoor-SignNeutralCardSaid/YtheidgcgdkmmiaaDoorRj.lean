/-
  SIGNATURES: what SignNeutral's rows answer. Own work.
-/
import Derived.Test.YtheidgcgdkmmiaaDoorRi
namespace Go.Proofs.YtheidgcgdkmmiaaDoor
open Go.Sh
open Go.ChangeShapes Go.WideShapes Go.ChangeAt Go.RowKit
set_option maxRecDepth 100000
theorem sumX_ok {g : Sg} {e : Ex} {n : Nat} {zz : Nat → Nat} {z : Wd} {b t j : Nat} (ht : t = 14 ∨ t = 16) (hz : e.zx t = z) (hj : j + 1 < 125) (h0 : (sgX g e).getD j 0 = dLo z (64 + n)) (h1 : (sgX g e).getD (j + 1) 0 = dHi z (64 + n)) (hn : n < 1000000000) : (sumX b t j).Ok (nuX9 g e n zz) Tryd.prog gl9 := by
  have e1 : sgN n t = 64 + n := by unfold sgN; rw [if_neg (by omega), if_neg (by omega)]
  have e2 : sgZ g e zz t = z := by unfold sgZ; rw [if_neg (by omega), if_neg (by omega), if_neg (by omega), hz]
  have ht0 : 0 < t := by omega
  have hA : nuX9 g e n zz (pinA (tg t)) = ((64 + n : Nat) : Int) := by rw [← e1]; exact nu9_A ht0
  have hL : nuX9 g e n zz (pinL (tg t)) = ((64 + n : Nat) : Int) := by rw [← e1]; exact nu9_L ht0
  refine rowSum_ok (n := 64 + n) (z := z) (isText_win (t := t) (own := true) List.mem_cons_self ht0 (tg_Ke (by omega)) rfl hA (by rw [hL]; omega) fun j hj => ?_) (by omega) fun i hi => nu9_dg (L := sgX g e) hj h0 h1 hi
  rw [← e2]
  exact nu9_B ht0 (by omega)
theorem sumE_ok {g : Sg} {e : Ex} {zz : Nat → Nat} {z : Wd} {b j : Nat} {f : Nat → AI} (hf : ∀ i, i < 64 → (f i).val (nuX9 g e 0 zz) = z i) (hj : j + 1 < 125) (h0 : (sgX g e).getD j 0 = dLo z 64) (h1 : (sgX g e).getD (j + 1) 0 = dHi z 64) : (sumE b j f).Ok (nuX9 g e 0 zz) Tryd.prog gl9 := by
  refine rowSum_ok (n := 64) (z := z) (isText_row (off := 0) (n := 64) List.mem_cons_self (by decide) (by decide) (by decide) fun i hi => ?_) (by decide) fun i hi => nu9_dg (L := sgX g e) hj h0 h1 hi
  rw [Nat.zero_add]
  exact hf i hi
def zU (r : Nat) (zz : Nat → Nat) : Wd := fun j => if j < 32 then (((byL r).getD j 0 : Nat) : Int) else if j < 64 then (((byL 1).getD (j - 32) 0 : Nat) : Int) else (zz (j - 64) : Int)
structure Un where
  x : Nat
  s : Nat
  r : Nat
  m : Nat
  q : Nat
  a1 : Nat
  a2 : Nat
  k1 : Nat
  b1 : Nat
  b2 : Nat
  k2 : Nat
structure Un.Ok (u : Un) (n : Nat) (zz : Nat → Nat) : Prop where
  hx : u.x < B4
  hs : (u.x * 1 + 0) % ordL = u.s
  hr : enc (smul u.s pB0) = u.r
  hm : (u.s * 1 + 1) % ordL = u.m
  hq : enc (smul u.m pB0) = u.q
  ha1 : u.a1 = dLo (zU u.r zz) (64 + n)
  ha2 : u.a2 = dHi (zU u.r zz) (64 + n)
  hk1 : wS (dgt (zU u.r zz) (64 + n)) 64 % ordL = u.k1
  hb1 : u.b1 = dLo (zU u.q zz) (64 + n)
  hb2 : u.b2 = dHi (zU u.q zz) (64 + n)
  hk2 : wS (dgt (zU u.q zz) (64 + n)) 64 % ordL = u.k2
theorem un_is (x n : Nat) (hx : x < B4) (zz : Nat → Nat) : ∃ u : Un, u.x = x ∧ u.Ok n zz := by
  obtain ⟨s, hs⟩ : ∃ s, (x * 1 + 0) % ordL = s := ⟨_, rfl⟩
  obtain ⟨r, hr⟩ : ∃ r, enc (smul s pB0) = r := ⟨_, rfl⟩
  obtain ⟨m, hm⟩ : ∃ s', (s * 1 + 1) % ordL = s' := ⟨_, rfl⟩
  obtain ⟨q, hq⟩ : ∃ r, enc (smul m pB0) = r := ⟨_, rfl⟩
  obtain ⟨a1, ha1⟩ : ∃ d, d = dLo (zU r zz) (64 + n) := ⟨_, rfl⟩
  obtain ⟨a2, ha2⟩ : ∃ d, d = dHi (zU r zz) (64 + n) := ⟨_, rfl⟩
  obtain ⟨k1, hk1⟩ : ∃ r', wS (dgt (zU r zz) (64 + n)) 64 % ordL = r' := ⟨_, rfl⟩
  obtain ⟨b1, hb1⟩ : ∃ d, d = dLo (zU q zz) (64 + n) := ⟨_, rfl⟩
  obtain ⟨b2, hb2⟩ : ∃ d, d = dHi (zU q zz) (64 + n) := ⟨_, rfl⟩
  obtain ⟨k2, hk2⟩ : ∃ r', wS (dgt (zU q zz) (64 + n)) 64 % ordL = r' := ⟨_, rfl⟩
  exact ⟨⟨x, s, r, m, q, a1, a2, k1, b1, b2, k2⟩, rfl, hx, hs, hr, hm, hq, ha1, ha2, hk1, hb1, hb2, hk2⟩
def Un.e (u : Un) (zz : Nat → Nat) : Ex := ⟨[u.x, u.s, u.r, u.m, u.q, u.a1, u.a2, u.k1, u.b1, u.b2, u.k2], [u.k1, u.k2], fun t => if t = 14 then zU u.r zz else zU u.q zz⟩
theorem enc_zero : enc .zero = 1 := by decide +kernel
theorem pB0_nz : pB0 ≠ .zero := fun h => pB0_y (by
  rw [h]
  show (1 : F) * 1 = 1
  decide +kernel)
section
variable {u : Un} {n : Nat} {zz : Nat → Nat}
theorem Un.Ok.sL (U : u.Ok n zz) : u.s < ordL := by rw [← U.hs]; exact Nat.mod_lt _ (by decide)
theorem Un.Ok.mL (U : u.Ok n zz) : u.m < ordL := by rw [← U.hm]; exact Nat.mod_lt _ (by decide)
theorem Un.Ok.k1B (U : u.Ok n zz) : u.k1 < B4 := by rw [← U.hk1]; exact modB _
theorem Un.Ok.k2B (U : u.Ok n zz) : u.k2 < B4 := by rw [← U.hk2]; exact modB _
theorem Un.Ok.ne (U : u.Ok n zz) : u.q ≠ u.r := by
  rw [← U.hq, ← U.hr, ← U.hm, smul_red, Nat.mul_one, smul_succ]
  intro h
  have h := enc_inj h
  generalize smul u.s pB0 = P at h
  have h2 : P.neg.add (P.add pB0) = P.neg.add P := congrArg (fun x => P.neg.add x) h
  rw [← add_assoc', add_comm' P.neg P, add_neg', zero_add'] at h2
  exact pB0_nz h2
theorem unT_ok : ∀ r ∈ unnT, r.Ok (nuX9 gW (u.e zz) n zz) Tryd.prog := by
  intro r hr
  simp only [unnT, List.mem_cons, List.not_mem_nil, or_false] at hr
  rcases hr with rfl | rfl
  · exact rowLayS (x := u.k1) (nu9_w 2 (by decide)) (nu9_bc 20 (by decide))
  · exact rowLayS (x := u.k2) (nu9_w 3 (by decide)) (nu9_bc 23 (by decide))
theorem unG_ok (U : u.Ok n zz) : ∀ r ∈ unnG, r.OkG (nuX9 gW (u.e zz) n zz) Tryd.prog gl9 := by
  intro r hr
  have k0 : conc2 (nuX9 gW (u.e zz) n zz) (kB 0) = some (byt 0) := kB_val _ 0
  have k1 : conc2 (nuX9 gW (u.e zz) n zz) (kB 1) = some (byt 1) := kB_val _ 1
  have z1 : ∀ k, enc (smul k .zero) = 1 := fun k => by rw [smul_zero']; exact enc_zero
  simp only [unnG, List.mem_cons, List.not_mem_nil, or_false] at hr
  rcases hr with rfl | rfl | rfl | rfl | rfl | rfl | rfl | rfl | rfl | rfl | rfl | rfl | rfl
  · exact OkG_up upO9 (rowMu U.hx (by decide) (by decide) U.hs (nu9_b 13 (by decide)) k1 k0 (nu9_bc 14 (by decide)))
  · exact OkG_up upB9 (rowBase (n := u.s) (ordB U.sL) U.hr (nu9_b 14 (by decide)) (nu9_bc 15 (by decide)))
  · exact OkG_up upO9 (rowMu (ordB U.sL) (by decide) (by decide) U.hm (nu9_b 14 (by decide)) k1 k1 (nu9_bc 16 (by decide)))
  · exact OkG_up upB9 (rowBase (n := u.m) (ordB U.mL) U.hq (nu9_b 16 (by decide)) (nu9_bc 17 (by decide)))
  · exact OkG_up upO9 (rowBelow true (ordB U.sL) (decide_eq_true U.sL) (nu9_b 14 (by decide)))
  · exact OkG_up upO9 (rowBelow true (ordB U.mL) (decide_eq_true U.mL) (nu9_b 16 (by decide)))
  · exact OkG_up upO9 (rowRed (T := wS (dgt (zU u.r zz) (64 + n)) 64) (wS_B8 (dgt_lt _ _)) U.hk1 (wag (j := 18) (by decide) U.ha1 U.ha2) (nu9_wc 2 (by decide)))
  · exact OkG_up upO9 (rowRed (T := wS (dgt (zU u.q zz) (64 + n)) 64) (wS_B8 (dgt_lt _ _)) U.hk2 (wag (j := 21) (by decide) U.hb1 U.hb2) (nu9_wc 3 (by decide)))
  · exact OkG_up upC9 (rowTimesPt (P := .zero) U.k1B enc_zero (z1 _) (nu9_b 20 (by decide)) k1 k1)
  · exact OkG_up upC9 (rowTimesPt (P := .zero) U.k2B enc_zero (z1 _) (nu9_b 23 (by decide)) k1 k1)
  · exact OkG_up upC9 (rowAddPt (Q := .zero) U.hr enc_zero (by rw [add_zero']; exact U.hr) (nu9_b 15 (by decide)) k1 (nu9_b 15 (by decide)))
  · exact OkG_up upC9 (rowAddPt (Q := .zero) U.hq enc_zero (by rw [add_zero']; exact U.hq) (nu9_b 17 (by decide)) k1 (nu9_b 17 (by decide)))
  · exact rowWk9_ok
theorem unM_ok (U : u.Ok n zz) (hn : n < 1000000000) : ∀ r ∈ unnM, r.Ok (nuX9 gW (u.e zz) n zz) Tryd.prog gl9 := by
  intro r hr
  simp only [unnM, List.mem_cons, List.not_mem_nil, or_false] at hr
  rcases hr with rfl | rfl | rfl
  · exact sumX_ok (z := zU u.r zz) (.inl rfl) rfl (by decide) U.ha1 U.ha2 hn
  · exact sumX_ok (z := zU u.r zz) (.inl rfl) rfl (by decide) U.ha1 U.ha2 hn
  · exact sumX_ok (z := zU u.q zz) (.inr rfl) rfl (by decide) U.hb1 U.hb2 hn
theorem unA_val {j x : Nat} (hj : j < 125) (hx : (sgX gW (u.e zz)).getD j 0 = x) {i : Nat} (hi : i < 64) : (unnA j i).val (nuX9 gW (u.e zz) n zz) = zU x zz i := by
  unfold unnA zU
  by_cases c : i < 32
  · rw [if_pos (by simpa using c), if_pos c, ← hx]
    exact nu9_at hj c
  · rw [if_neg (by simpa using c), if_neg c, if_pos hi]
    rfl
theorem unN_ok (U : u.Ok 0 zz) : ∀ r ∈ unnN, r.Ok (nuX9 gW (u.e zz) 0 zz) Tryd.prog gl9 := by
  intro r hr
  simp only [unnN, List.mem_cons, List.not_mem_nil, or_false] at hr
  rcases hr with rfl | rfl | rfl
  · exact sumE_ok (z := zU u.r zz) (fun _ => unA_val (by decide) rfl) (by decide) U.ha1 U.ha2
  · exact sumE_ok (z := zU u.r zz) (fun _ => unA_val (by decide) rfl) (by decide) U.ha1 U.ha2
  · exact sumE_ok (z := zU u.q zz) (fun _ => unA_val (by decide) rfl) (by decide) U.hb1 U.hb2
theorem sL_of9 {ν : Nat → Int} {j x : Nat} (h : ∀ i, i < 32 → ν (32 * j + i) = (((byL x).getD i 0 : Nat) : Int)) : (sL (32 * j)).map (AI.val ν) = (byL x).map fun n => ((n : Nat) : Int) := by
  apply List.ext_getElem?
  intro i
  by_cases hi : i < 32
  · have h := h i hi
    simp only [sL, List.map_map, List.getElem?_map, List.getElem?_range hi, Option.map_some, Function.comp]
    show some (ν (32 * j + i)) = _
    have hl : i < (byL x).length := by rw [byL_len]; exact hi
    rw [h]
    generalize byL x = L at *
    rw [List.getElem?_eq_getElem hl, List.getD_eq_getElem?_getD, List.getElem?_eq_getElem hl]
    rfl
  · rw [List.getElem?_eq_none (by simp [sL]; omega), List.getElem?_eq_none (by simp [byL_len]; omega)]
theorem un_ne (U : u.Ok n zz) : compare (neB (sL 544) (sL 480)).1 ((neB (sL 544) (sL 480)).2.1.val (nuX9 gW (u.e zz) n zz)) ((neB (sL 544) (sL 480)).2.2.1.val (nuX9 gW (u.e zz) n zz)) = (neB (sL 544) (sL 480)).2.2.2 := by
  refine neB_holds (x := u.q) (y := u.r) ?_ ?_ (sL_of9 (j := 17) fun i hi => nu9_at (j := 17) (by decide) hi) (sL_of9 (j := 15) fun i hi => nu9_at (j := 15) (by decide) hi) U.ne
  · rw [← U.hq]; exact enc_lt _
  · rw [← U.hr]; exact enc_lt _
theorem unF_hold (U : u.Ok n zz) (h0 : 0 < n) (hn : n ≤ 500) : unnF.Hold (nuX9 gW (u.e zz) n zz) := by
  refine ⟨fun p hp => (by cases hp), fun p hp => ?_, fun p hp => ?_⟩
  · simp only [unnF, List.mem_cons, List.not_mem_nil, or_false] at hp
    rcases hp with rfl | rfl | rfl | rfl | rfl | rfl | rfl | rfl | rfl
    · exact un_ne U
    · exact mxF_ok (.inl rfl) hn
    · exact mxF_ok (.inl rfl) (by omega)
    · exact gtF_ok (.inl rfl) h0
    · exact ltF_ok (by decide) (by omega)
    · exact ltF_ok (by decide) (by omega)
    · exact ltF_ok (by decide) (by omega)
    · exact eqF_ok (by decide)
    · exact eqF_ok (by decide)
  · have cells : ∀ {j x : Nat}, j < 125 → (sgX gW (u.e zz)).getD j 0 = x → ∀ (i : Nat) (y : AI), (unnC j)[i]? = some y → zU x zz i = y.val (nuX9 gW (u.e zz) n zz) := fun {j x} hj hx i y hy => by
      have hi : i < 64 := by
        have := (List.getElem?_eq_some_iff.1 hy).1
        simpa [unnC] using this
      simp only [unnC, List.getElem?_map, List.getElem?_range hi, Option.map_some, Option.some.injEq] at hy
      rw [← hy]
      exact (unA_val hj hx hi).symm
    have tail : ∀ (x j : Nat), zU x zz (64 + j) = (zz j : Int) := fun x j => by
      unfold zU
      rw [if_neg (by omega), if_neg (by omega), Nat.add_sub_cancel_left]
    simp only [unnF, List.mem_cons, List.not_mem_nil, or_false] at hp
    rcases hp with rfl | rfl
    · exact cat64 (z := zU u.r zz) (by decide) (cells (by decide) rfl) (tail _) (.inl rfl) (by decide) rfl (by omega)
    · exact cat64 (z := zU u.q zz) (by decide) (cells (by decide) rfl) (tail _) (.inl rfl) (by decide) rfl (by omega)
theorem unE_hold (U : u.Ok n zz) : unnE.Hold (nuX9 gW (u.e zz) n zz) := by
  refine ⟨fun p hp => (by cases hp), fun p hp => ?_, fun p hp => by cases hp⟩
  simp only [unnE, List.mem_cons, List.not_mem_nil, or_false] at hp
  subst hp
  exact un_ne U
end
end Go.Proofs.YtheidgcgdkmmiaaDoor
