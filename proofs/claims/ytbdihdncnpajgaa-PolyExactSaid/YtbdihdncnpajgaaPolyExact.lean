/-
  PolyExact: for all its arguments the law returns true. Conditions: none.
-/
import Derived.Test.YtbdihdncnpajgaaPoo
namespace Go.Proofs.Ytbdihdncnpajgaa
open Go.Sh
open Go.ChangeShapes Go.WideShapes Go.ChangeAt Go.RowKit
set_option maxRecDepth 100000

def exB (b : Nat) : Nat × ABlk := (b, ⟨rowC .u8 (nmA 100) 16, e16, true⟩)
def exS (b : Nat) : AV := .sl b 0 (nA 16) (.ex 16)
def exP (x y : AV) (need : Gl) : List RowM := [rowTag 8 (nmA 0) x need (nmA 100), rowTag 9 (nmA 0) y need (nmA 100)]
def exM : List RowM := [rowTw (tg 4) (ps 64 2) [pn 64 2], rowTag 8 (nmA 0) (ps 66 4) [pn 66 4] (nmA 100), rowTag 9 (nmA 0) (ps 64 2) [pn 64 2] (nmA 100), rowEq (exS 67) (exS 68) [exB 67, exB 68], rowEq (ps 66 4) (ps 64 2) [pn 66 4, pn 64 2]]
def exM0 (y : AV) : List RowM := [rowTag 8 (nmA 0) .nsl [] (nmA 100), rowTag 9 (nmA 0) y [] (nmA 100), rowEq (exS 65) (exS 66) [exB 65, exB 66]]
def fEx (b : Bool) : Facts := ⟨[], [(.gtr, .s (pinL (tg 2)), nA 1000, b)], []⟩
theorem ex_go : saysB (fEx false) tree [rowWk] [] [] exM [pn 64 2] 65 60 4 3 [kyS, ps 64 2] (.b true) = true := by kernel_rfl
theorem ex_over : saysB ⟨[], [(.gtr, .s 301, nA 1000, true)], []⟩ tree [] [] [] [] (Hd.gl0 64 .c) 65 60 4 3 [kyS, Hd.av0 64 301 .c] (.b true) = true := by kernel_rfl
theorem ex_nsl0 : saysB noFacts tree [rowWk] [] [] (exM0 .nsl) [] 64 60 4 3 [kyS, .nsl] (.b true) = true := by kernel_rfl
theorem ex_sle0 : saysB noFacts tree [rowWk] [] [] (exM0 (.sle false)) [] 64 60 4 3 [kyS, .sle false] (.b true) = true := by kernel_rfl
def loE (k : Nat → Nat) (n : Nat) (zz : Nat → Nat) : Nat → Int := fun x => if x < 32 then (k x : Int) else if x < 100 then 0 else if x < 116 then (tagN k n zz (x - 100) : Int) else (n : Int)
section
variable {k zz : Nat → Nat} {n : Nat}
theorem nuE_K {j : Nat} (h : j < 32) : nuW (loE k n zz) n zz j = (k j : Int) := (nuR_lo (by omega)).trans (if_pos h)
theorem nuE_t {j : Nat} (h : j < 16) : nuW (loE k n zz) n zz (100 + j) = (tagN k n zz j : Int) := by
  refine (nuR_lo (by omega)).trans ?_
  unfold loE
  rw [if_neg (by omega), if_neg (by omega), if_pos (by omega), Nat.add_sub_cancel_left]
theorem nuE_n : nuW (loE k n zz) n zz 301 = (n : Int) := (nuR_lo (by decide)).trans rfl
theorem exM_ok (hk : ∀ j, j < 32 → k j < 256) (hz : ∀ j, zz j < 256) (h0 : 0 < n) (hn : n < 1000000000) : ∀ r ∈ exM, r.Ok (nuW (loE k n zz) n zz) Try.prog [] := by
  have pt : ∀ (b t : Nat) (need : Gl), pn b t ∈ need → 0 < t → t < 1000 → t % 2 = 0 → IsText (nuW (loE k n zz) n zz) need (ps b t) n (fun j => (zz j : Int)) := fun b t need hm h1 h2 h3 =>
    isText_pin hm (tgT h1 h2) (tg_Ke h3) h0 (nuW_L h1) fun j hj => nuW_B h1 (by omega)
  have bt : ∀ (b : Nat) (need : Gl), exB b ∈ need → IsText (nuW (loE k n zz) n zz) need (exS b) 16 (fun j => (tagN k n zz j : Int)) := fun b need hm =>
    isText_row (off := 0) (n := 16) hm (by decide) (by decide) (by decide) fun j hj => by rw [Nat.zero_add, nm_val, nuE_t hj]
  have tr : ∀ (f b t : Nat), TagC f → 0 < t → t < 1000 → t % 2 = 0 → (rowTag f (nmA 0) (ps b t) [pn b t] (nmA 100)).Ok (nuW (loE k n zz) n zz) Try.prog [] := fun f b t hf h1 h2 h3 =>
    rowTag_ok (k := k) (zz := zz) hf (fun j hj => ⟨by rw [nm_val, Nat.zero_add, nuE_K hj], hk j hj⟩) (fun j hj => ⟨rfl, hz j⟩) (pt b t _ List.mem_cons_self h1 h2 h3) (by omega) fun j hj => by rw [nm_val, nuE_t hj]
  intro r hr
  simp only [exM, List.mem_cons, List.not_mem_nil, or_false] at hr
  rcases hr with rfl | rfl | rfl | rfl | rfl
  · exact rowTw_T (pt 64 2 _ List.mem_cons_self (by decide) (by decide) (by decide)) h0 (by omega) (tgT (by decide) (by decide)) (tg_Ke (by decide)) (nuW_L (by decide)) fun j hj => nuW_B (by decide) (by omega)
  · exact tr _ 66 4 tagC (by decide) (by decide) (by decide)
  · exact tr _ 64 2 ptagC (by decide) (by decide) (by decide)
  · exact rowEq_T (bt 67 _ (by simp)) (bt 68 _ (by simp)) (by decide) (by decide)
  · exact rowEq_T (pt 66 4 _ (by simp) (by decide) (by decide) (by decide)) (pt 64 2 _ (by simp) (by decide) (by decide) (by decide)) h0 (by omega)
theorem exM0_ok (hk : ∀ j, j < 32 → k j < 256) {y : AV} (hy : IsText (nuW (loE k 0 zz) 0 zz) [] y 0 (fun j => (zz j : Int))) : ∀ r ∈ exM0 y, r.Ok (nuW (loE k 0 zz) 0 zz) Try.prog [] := by
  have bt : ∀ (b : Nat) (need : Gl), exB b ∈ need → IsText (nuW (loE k 0 zz) 0 zz) need (exS b) 16 (fun j => (tagN k 0 zz j : Int)) := fun b need hm =>
    isText_row (off := 0) (n := 16) hm (by decide) (by decide) (by decide) fun j hj => by rw [Nat.zero_add, nm_val, nuE_t hj]
  have tr : ∀ (f : Nat) (x : AV), TagC f → IsText (nuW (loE k 0 zz) 0 zz) [] x 0 (fun j => (zz j : Int)) → (rowTag f (nmA 0) x [] (nmA 100)).Ok (nuW (loE k 0 zz) 0 zz) Try.prog [] := fun f x hf hx =>
    rowTag_ok (k := k) (zz := zz) hf (fun j hj => ⟨by rw [nm_val, Nat.zero_add, nuE_K hj], hk j hj⟩) (fun j hj => absurd hj (Nat.not_lt_zero _)) hx (by decide) fun j hj => by rw [nm_val, nuE_t hj]
  intro r hr
  simp only [exM0, List.mem_cons, List.not_mem_nil, or_false] at hr
  rcases hr with rfl | rfl | rfl
  · exact tr _ _ tagC isText_nsl
  · exact tr _ _ ptagC hy
  · exact rowEq_T (bt 65 _ (by simp)) (bt 66 _ (by simp)) (by decide) (by decide)
end
theorem polyExact_law {W : World} {v : Value} {zs : List Int} (hv : ReadsAs W .u8 v zs) (hw : ∀ z ∈ zs, (Lit.int .u8 z).wf = true) (zk : List Int) (lk : zk.length = 32) (hzk : ∀ z ∈ zk, (Lit.int .u8 z).wf = true) :
    Calls Try.prog 3 #[.agg (zk.map (Value.int .u8)).toArray, v] W fun e W' => e = .returned (.bool true) ∧ Below W.heap.size W W' := by
  obtain ⟨s, n, pl, hc, _⟩ := came_of hv hw
  obtain ⟨zz, hz8, hzz⟩ := nat_bytes hw
  obtain ⟨k, hk8, hkk⟩ := nat_bytes hzk
  rw [aggI_of lk, show (fun j => zk.getD j 0) = fun j => (k j : Int) from funext hkk]
  rw [show (fun i => zs.getD i 0) = fun j => (zz j : Int) from funext hzz] at hc
  have hky : ∀ ρ, VR (nuW (loE k n zz) n zz) ρ kyS (aggI .u8 32 fun j => (k j : Int)) := fun ρ => (conc2_vr (keyS_val fun j hj => nuE_K hj)).1
  have args : ∀ {ρ : Emb} {x : AV}, VR (nuW (loE k n zz) n zz) ρ x v → LR (nuW (loE k n zz) n zz) ρ [kyS, x] #[aggI .u8 32 fun j => (k j : Int), v] := fun hx => lr_of (vs := [_, _]) ⟨hky _, hx, trivial⟩
  have hT : ∀ r ∈ [rowWk], r.Ok (nuW (loE k n zz) n zz) Try.prog := fun r hr => by
    simp only [List.mem_cons, List.not_mem_nil, or_false] at hr
    subst hr
    exact rowWk_ok
  by_cases hm : 1000 < n
  · cases s
    · have : n = 0 := hc.2.1
      omega
    · have : n = 0 := hc.2.1
      omega
    · obtain ⟨va, nd⟩ := hc.here0 (ν := nuW (loE k n zz) n zz) (gp := at1' 64 pl) (blk := 64) (k := 301) (by decide) (if_pos rfl) nuE_n
      refine yes_ofN (law_rowT (by decide) ⟨fun p hp => (by cases hp), fun p hp => ?_, fun p hp => by cases hp⟩ (fun r hr => by cases hr) (fun r hr => by cases hr) ex_over (gl0_need (by decide)) (by kernel_rfl)) (fun p hp => by cases hp) nd (args va)
      simp only [List.mem_cons, List.not_mem_nil, or_false] at hp
      subst hp
      show decide (nuW (loE k n zz) n zz 301 > ((1000 : Nat) : Int)) = true
      rw [nuE_n]
      exact decide_eq_true (by omega)
  · cases s
    · have h0 : n = 0 := hc.2.1
      subst h0
      exact yes_ofN (ρ := embF fun _ => none) (law_rowT (by decide) (none_f _) hT (exM0_ok (fun j _ => hk8 j) isText_nsl) ex_nsl0 (fun p hp => by cases hp) (by kernel_rfl)) (fun p hp => by cases hp) (fun p hp => by cases hp) (args (by rw [hc.1]; exact .nsl))
    · have h0 : n = 0 := hc.2.1
      subst h0
      obtain ⟨a, cp, rfl⟩ := hc.1
      exact yes_ofN (ρ := embF fun _ => none) (law_rowT (by decide) (none_f _) hT (exM0_ok (fun j _ => hk8 j) isText_sle) ex_sle0 (fun p hp => by cases hp) (by kernel_rfl)) (fun p hp => by cases hp) (fun p hp => by cases hp) (args (.sle _ _ _ (fun h => by cases h)))
    · have h0 := hc.fits
      obtain ⟨va, nd⟩ := hc.here (ν := nuW (loE k n zz) n zz) (gp := at1' 64 pl) (blk := 64) (T := tg 2) (by decide) (if_pos rfl) (tgT (by decide) (by decide)) (tg_Ke (by decide)) (nuW_L (by decide)) (fun j hj => nuW_B (by decide) (by omega))
      refine yes_ofN (law_rowT (by decide) ⟨fun p hp => (by cases hp), fun p hp => ?_, fun p hp => by cases hp⟩ hT (exM_ok (fun j _ => hk8 j) hz8 h0 (by omega)) ex_go pn_need (by kernel_rfl)) (fun p hp => by cases hp) (fun p hp => ?_) (args va)
      · simp only [fEx, List.mem_cons, List.not_mem_nil, or_false] at hp
        subst hp
        show decide (nuW (loE k n zz) n zz (pinL (tg 2)) > ((1000 : Nat) : Int)) = false
        rw [nuW_L (by decide)]
        exact decide_eq_false (by omega)
      · simp only [List.mem_cons, List.not_mem_nil, or_false] at hp
        subst hp
        obtain ⟨_, _, pl', q3, q4⟩ := nd _ List.mem_cons_self
        exact ⟨pl', (embF_other (by decide)).trans q3, q4⟩

theorem polyExact_lifted (os : Os) (started : os.Started) (H : Type) (enc : TypeId × Value → H) :
    ReturnsInHanded {} Try.checked os 3 .any (Rows.polyExactSpec.pre6 enc Try.prog Try.f3 Rows.polyExactRow.domain false) (Rows.polyExactSpec.post enc Try.prog Try.f3 false true false false) := by
  refine returnsInHanded_of_change (C := Try.checked) own started (by kernel_rfl) Try.func3
    (ChangeSpec.witness6 (enc := enc) (C := Try.checked) false ⟨#[], #[(.agg (List.replicate 32 (.int .u8 0)).toArray), .slice none 0 0], []⟩ 8 (by kernel_rfl) (by kernel_rfl) (by kernel_rfl) (by kernel_rfl)) ?_
  intro W base args ds gs before hval0 hW hcnd _
  have hval : ∀ (j : Nat) t v, Try.f3.params[j]? = some t → args[j]? = some v → Value.okWide Try.prog W .any base t v := hval0
  have hW' := hW
  obtain ⟨p, q, hA0, hV, rfl, hfz, hnd⟩ := hW
  have hA : DataW.TrodAll enc Try.prog W 0 (fun _ => true) true Try.f3.params.toList args.toList ds p := hA0
  rw [Try.params3] at hA hval
  obtain ⟨v0, vs0, d0, ds0, p0, q0, hargs, rfl, rfl, h0, r0⟩ := trodAll_cons hA
  obtain ⟨v1, vs1, d1, ds1, p1, q1, rfl, rfl, rfl, h1, r1⟩ := trodAll_cons r0
  obtain ⟨rfl, rfl, rfl⟩ := trodAll_nil r1
  obtain rfl : args = #[v0, v1] := by cases args; simp_all
  obtain ⟨rfl, rfl⟩ := trodVars_none hV
  obtain ⟨z0, l0, rfl, b0, rfl, s0⟩ := open_array Try.underlying22 Try.underlying5 cells1 (by kernel_rfl) (hval 0 _ v0 rfl rfl) h0
  obtain ⟨z1, k1, w1, _⟩ := reads_open Try.underlying23 Try.underlying5 cells1 (hval 1 _ v1 rfl rfl) h1
  clear hA0 hval0
  simp only [List.append_nil] at hW'
  have hlt : ∀ x ∈ p1, x.block < W.heap.size := fun x hx => hW'.lt x hx
  refine (polyExact_law k1 w1 z0 l0 b0).mono fun e W' ⟨he, hg⟩ => ?_
  subst he
  exact ⟨_, rfl, post_below (pa := p1) (pv := []) hW' (fun _ _ _ => trodAll_cons_mk (shut_bool Try.underlying4 _) trodAll_mk0) (fun sp hsp => (by have hh := (trodAll_cons_mk (s0 _ _ _ _ _) (trodAll_cons_mk (kept_arg laidOut (by kernel_rfl) (of_decide_eq_true (by kernel_rfl)) h1 hg (fun x hx => hlt x (by simp [hx])) (fun x hx => hsp x (by simp [hx]))) trodAll_mk0)); simp only [List.append_nil] at hh; exact hh)) (fun _ _ => rfl) (by simp)
    hg (ok_one (by kernel_rfl) rfl (okWide_bool_mk Try.underlying4 _))⟩

/-- THE STATEMENT. -/
theorem polyExact_holds : Rows.PolyExactSaid :=
  OpenClaim.holds_of_wide 3 Try.f3 rfl rfl rfl rfl rfl rfl rfl ⟨rfl, rfl, rfl, rfl, rfl⟩ rfl rfl rfl rfl rfl (by kernel_rfl) Try.func3 (by kernel_rfl)
    (of_decide_eq_true (by kernel_rfl)) (by unfold Func.isWrapper; first | (rw [if_pos (by decide +kernel)]; kernel_rfl) | (rw [if_neg (by decide +kernel)]; exact ⟨rfl, rfl⟩))
    (fun os started H enc _ => polyExact_lifted os started H enc)
#print axioms polyExact_holds
end Go.Proofs.Ytbdihdncnpajgaa
