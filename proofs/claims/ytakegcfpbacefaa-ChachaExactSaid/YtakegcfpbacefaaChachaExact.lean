/-
  ChachaExact: for all its arguments the law returns true. Conditions: none.
-/
import Derived.Test.YtakegcfpbacefaaQj
namespace Go.Proofs.Ytakegcfpbacefaa
open Go.Sh
open Go.ChangeShapes Go.WideShapes Go.ChangeAt Go.RowKit
set_option maxRecDepth 100000

def exB (b : Nat) : Nat × ABlk := (b, ⟨rowC .u8 (nmA 100) 64, e64, true⟩)
def exS (b : Nat) : AV := .sl b 0 (nA 64) (.ex 64)
def exT : List Row := [⟨6, [kyS, ctS, noS], .ag (rowC .u8 (nmA 100) 64)⟩, ⟨7, [kyS, ctS, noS], .ag (rowC .u8 (nmA 100) 64)⟩, rowWk]
def exM : List RowM := [rowTw (tg 4) (ps 64 2) [pn 64 2], rowEq (exS 67) (exS 68) [exB 67, exB 68], rowEq (exS 66) (exS 67) [exB 66, exB 67], rowXor 10 (nmA 0) (nmA 32) (.s 44) (ps 69 4) [pn 69 4] (tg 6), rowXor 11 (nmA 0) (nmA 32) (.s 44) (ps 64 2) [pn 64 2] (tg 8),
  rowEq (ps 70 6) (ps 71 8) [pn 70 6, pn 71 8], rowEq (ps 69 4) (ps 64 2) [pn 69 4, pn 64 2]]
def exA (x : AV) : List AV := [kyS, ctS, noS, x]
def fEx (b : Bool) : Facts := ⟨[], [(.gtr, .s (pinL (tg 2)), nA 2000, b)], []⟩
theorem ex_go : saysB (fEx false) tree exT [] [] exM [pn 64 2] 65 60 4 3 (exA (ps 64 2)) (.b true) = true := by kernel_rfl
theorem ex_over : saysB ⟨[], [(.gtr, .s 301, nA 2000, true)], []⟩ tree [] [] [] [] (Hd.gl0 64 .c) 65 60 4 3 (exA (Hd.av0 64 301 .c)) (.b true) = true := by kernel_rfl
def loL (K : Wd) (c : Int) (Nn : Wd) (n : Nat) : Nat → Int := fun k => if k < 32 then K k else if k < 44 then Nn (k - 32) else if k = 44 then c else if k < 100 then 0 else if k < 164 then blkI K c Nn (k - 100) else (n : Int)
def nuL3 (K : Wd) (c : Int) (Nn : Wd) (n : Nat) (z : Wd) : Nat → Int := nuR (loL K c Nn n) (fun _ => n) (fun _ => n) (fun t => if t < 6 then z else xorW K c Nn z)
section
variable {K Nn z : Wd} {c : Int} {n : Nat}
theorem nuL3_K {j : Nat} (h : j < 32) : nuL3 K c Nn n z j = K j := (nuR_lo (by omega)).trans (if_pos h)
theorem nuL3_N {j : Nat} (h : j < 12) : nuL3 K c Nn n z (32 + j) = Nn j := by
  refine (nuR_lo (by omega)).trans ?_
  unfold loL
  rw [if_neg (by omega), if_pos (by omega), Nat.add_sub_cancel_left]
theorem nuL3_c : nuL3 K c Nn n z 44 = c := (nuR_lo (by decide)).trans rfl
theorem nuL3_b {j : Nat} (h : j < 64) : nuL3 K c Nn n z (100 + j) = blkI K c Nn j := by
  refine (nuR_lo (by omega)).trans ?_
  unfold loL
  rw [if_neg (by omega), if_neg (by omega), if_neg (by omega), if_neg (by omega), if_pos (by omega), Nat.add_sub_cancel_left]
theorem nuL3_n : nuL3 K c Nn n z 301 = n := (nuR_lo (by decide)).trans rfl
theorem nuL3_L {t : Nat} (ht : 0 < t) : nuL3 K c Nn n z (pinL (tg t)) = (n : Int) := nuR_L ht
theorem nuL3_B {t j : Nat} (ht : 0 < t) (hj : j < 1099511627774) : nuL3 K c Nn n z (pinB (tg t) j) = (if t < 6 then z else xorW K c Nn z) j := nuR_B ht hj
theorem exT_ok : ∀ r ∈ exT, r.Ok (nuL3 K c Nn n z) Try.prog := by
  have hb : ∀ j, j < 64 → (nmA 100 j).val (nuL3 K c Nn n z) = blkI (fun j => (nmA 0 j).val (nuL3 K c Nn n z)) ((AI.s 44).val (nuL3 K c Nn n z)) (fun j => (nmA 32 j).val (nuL3 K c Nn n z)) j := fun j hj => by
    rw [nm_val, nuL3_b hj]
    show _ = blkI _ (nuL3 K c Nn n z 44) _ j
    rw [nuL3_c]
    exact blkI_congr (fun j hj => by rw [nm_val, Nat.zero_add, nuL3_K hj]) (fun j hj => by rw [nm_val, nuL3_N hj]) hj
  intro r hr
  simp only [exT, List.mem_cons, List.not_mem_nil, or_false] at hr
  rcases hr with rfl | rfl | rfl
  · exact rowBlk Block_ok hb
  · exact rowBlk PBlock_ok hb
  · exact rowWk_ok
theorem xorW_congr {K K' Nn Nn' : Wd} {c c' : Int} {z z' : Wd} (hK : ∀ j, j < 32 → K j = K' j) (hc : c = c') (hN : ∀ j, j < 12 → Nn j = Nn' j) {j : Nat} (hz : z j = z' j) : xorW K c Nn z j = xorW K' c' Nn' z' j := by
  subst hc
  unfold xorW
  rw [hz, blkI_congr hK hN (Nat.mod_lt _ (by decide))]
theorem exM_ok (h0 : 0 < n) (hn : n < 1000000000) : ∀ r ∈ exM, r.Ok (nuL3 K c Nn n z) Try.prog [] := by
  have pt : ∀ (b t : Nat) (need : Gl), pn b t ∈ need → 0 < t → t < 1000 → t % 2 = 0 → IsText (nuL3 K c Nn n z) need (ps b t) n (if t < 6 then z else xorW K c Nn z) := fun b t need hm h1 h2 h3 =>
    isText_pin hm (tgT h1 h2) (tg_Ke h3) h0 (nuL3_L h1) fun j hj => nuL3_B h1 (by omega)
  have bt : ∀ (b : Nat) (need : Gl), exB b ∈ need → IsText (nuL3 K c Nn n z) need (exS b) 64 (blkI K c Nn) := fun b need hm =>
    isText_row (off := 0) (n := 64) hm (by decide) (by decide) (by decide) fun j hj => by rw [Nat.zero_add, nm_val, nuL3_b hj]
  have xr : ∀ (f b t T : Nat), XorC f → t < 6 → 6 ≤ T → 0 < t → T < 1000 → t % 2 = 0 → T % 2 = 0 → (rowXor f (nmA 0) (nmA 32) (.s 44) (ps b t) [pn b t] (tg T)).Ok (nuL3 K c Nn n z) Try.prog [] := fun f b t T hf h1 h2 h3 h4 h5 h6 => by
    refine rowXor_ok hf (pt b t _ List.mem_cons_self h3 (by omega) h5) h0 (by omega) (tgT (by omega) h4) (tg_Ke h6) (nuL3_L (by omega)) fun j hj => ?_
    rw [nuL3_B (by omega) (by omega), if_neg (by omega), if_pos h1]
    exact xorW_congr (fun j hj => by rw [nm_val, Nat.zero_add, nuL3_K hj]) nuL3_c.symm (fun j hj => by rw [nm_val, nuL3_N hj]) rfl
  intro r hr
  simp only [exM, List.mem_cons, List.not_mem_nil, or_false] at hr
  rcases hr with rfl | rfl | rfl | rfl | rfl | rfl | rfl
  · exact rowTw_T (pt 64 2 _ List.mem_cons_self (by decide) (by decide) (by decide)) h0 (by omega) (tgT (by decide) (by decide)) (tg_Ke (by decide)) (nuL3_L (by decide)) fun j hj => nuL3_B (by decide) (by omega)
  · exact rowEq_T (bt 67 _ (by simp)) (bt 68 _ (by simp)) (by decide) (by decide)
  · exact rowEq_T (bt 66 _ (by simp)) (bt 67 _ (by simp)) (by decide) (by decide)
  · exact xr _ 69 4 6 xorC (by decide) (by decide) (by decide) (by decide) (by decide) (by decide)
  · exact xr _ 64 2 8 pxorC (by decide) (by decide) (by decide) (by decide) (by decide) (by decide)
  · exact rowEq_T (pt 70 6 _ (by simp) (by decide) (by decide) (by decide)) (pt 71 8 _ (by simp) (by decide) (by decide) (by decide)) h0 (by omega)
  · exact rowEq_T (pt 69 4 _ (by simp) (by decide) (by decide) (by decide)) (pt 64 2 _ (by simp) (by decide) (by decide) (by decide)) h0 (by omega)
/-- Without a text the rows over texts are not met: all but those of blocks. -/
def exM0 : List RowM := [rowEq (exS 66) (exS 67) [exB 66, exB 67]]
end
theorem ex_nsl0 : saysB noFacts tree exT [] [] exM0 [] 64 60 4 3 (exA .nsl) (.b true) = true := by kernel_rfl
theorem ex_sle0 : saysB noFacts tree exT [] [] exM0 [] 64 60 4 3 (exA (.sle false)) (.b true) = true := by kernel_rfl
theorem exM0_ok {K Nn z : Wd} {c : Int} {n : Nat} : ∀ r ∈ exM0, r.Ok (nuL3 K c Nn n z) Try.prog [] := fun r hr => by
  simp only [exM0, List.mem_cons, List.not_mem_nil, or_false] at hr
  subst hr
  have bt : ∀ (b : Nat) (need : Gl), exB b ∈ need → IsText (nuL3 K c Nn n z) need (exS b) 64 (blkI K c Nn) := fun b need hm =>
    isText_row (off := 0) (n := 64) hm (by decide) (by decide) (by decide) fun j hj => by rw [Nat.zero_add, nm_val, nuL3_b hj]
  exact rowEq_T (bt 66 _ (by simp)) (bt 67 _ (by simp)) (by decide) (by decide)
theorem chachaExact_law {W : World} {v : Value} {zs : List Int} (hv : ReadsAs W .u8 v zs) (hw : ∀ z ∈ zs, (Lit.int .u8 z).wf = true) (zk : List Int) (lk : zk.length = 32) (c : Int) (zn : List Int) (ln : zn.length = 12) (_ : ∀ z ∈ zk, (Lit.int .u8 z).wf = true) (_ : (Lit.int .u32 c).wf = true) (_ : ∀ z ∈ zn, (Lit.int .u8 z).wf = true) :
    Calls Try.prog 3 #[.agg (zk.map (Value.int .u8)).toArray, .int .u32 c, .agg (zn.map (Value.int .u8)).toArray, v] W fun e W' => e = .returned (.bool true) ∧ Below W.heap.size W W' := by
  obtain ⟨s, n, pl, hc, _⟩ := came_of hv hw
  rw [aggI_of lk, aggI_of ln]
  generalize (fun i => zs.getD i 0) = z at hc
  generalize (fun j => zk.getD j 0) = K
  generalize (fun j => zn.getD j 0) = Nn
  have hk : ∀ ρ, VR (nuL3 K c Nn n z) ρ kyS (aggI .u8 32 K) := fun ρ => (conc2_vr (keyS_val fun j hj => nuL3_K hj)).1
  have hno : ∀ ρ, VR (nuL3 K c Nn n z) ρ noS (aggI .u8 12 Nn) := fun ρ => (conc2_vr (nonS_val fun j hj => nuL3_N hj)).1
  have hct : ∀ ρ, VR (nuL3 K c Nn n z) ρ ctS (.int .u32 c) := fun ρ => by
    have e : (AI.s 44).val (nuL3 K c Nn n z) = c := nuL3_c
    have h : VR (nuL3 K c Nn n z) ρ ctS (.int .u32 ((AI.s 44).val (nuL3 K c Nn n z))) := .i _ _
    rw [e] at h
    exact h
  have args : ∀ {ρ : Emb} {x : AV}, VR (nuL3 K c Nn n z) ρ x v → LR (nuL3 K c Nn n z) ρ (exA x) #[aggI .u8 32 K, .int .u32 c, aggI .u8 12 Nn, v] := fun hx => lr_of (vs := [_, _, _, _]) ⟨hk _, hct _, hno _, hx, trivial⟩
  by_cases hm : 2000 < n
  · cases s
    · have : n = 0 := hc.2.1
      omega
    · have : n = 0 := hc.2.1
      omega
    · obtain ⟨va, nd⟩ := hc.here0 (ν := nuL3 K c Nn n z) (gp := at1' 64 pl) (blk := 64) (k := 301) (by decide) (if_pos rfl) nuL3_n
      refine yes_ofN (law_rowT (by decide) ⟨fun p hp => (by cases hp), fun p hp => ?_, fun p hp => by cases hp⟩ (fun r hr => by cases hr) (fun r hr => by cases hr) ex_over (gl0_need (by decide)) (by kernel_rfl)) (fun p hp => by cases hp) nd (args va)
      simp only [List.mem_cons, List.not_mem_nil, or_false] at hp
      subst hp
      show decide (nuL3 K c Nn n z 301 > ((2000 : Nat) : Int)) = true
      rw [nuL3_n]
      exact decide_eq_true (by omega)
  · cases s
    · exact yes_ofN (ρ := embF fun _ => none) (law_rowT (by decide) (none_f _) exT_ok exM0_ok ex_nsl0 (fun p hp => by cases hp) (by kernel_rfl)) (fun p hp => by cases hp) (fun p hp => by cases hp) (args (by rw [hc.1]; exact .nsl))
    · obtain ⟨a, cp, rfl⟩ := hc.1
      exact yes_ofN (ρ := embF fun _ => none) (law_rowT (by decide) (none_f _) exT_ok exM0_ok ex_sle0 (fun p hp => by cases hp) (by kernel_rfl)) (fun p hp => by cases hp) (fun p hp => by cases hp) (args (.sle _ _ _ (fun h => by cases h)))
    · have h0 := hc.fits
      obtain ⟨va, nd⟩ := hc.here (ν := nuL3 K c Nn n z) (gp := at1' 64 pl) (blk := 64) (T := tg 2) (by decide) (if_pos rfl) (tgT (by decide) (by decide)) (tg_Ke (by decide)) (nuL3_L (by decide)) (fun j hj => nuL3_B (by decide) (by omega))
      refine yes_ofN (law_rowT (by decide) ⟨fun p hp => (by cases hp), fun p hp => ?_, fun p hp => by cases hp⟩ exT_ok (exM_ok h0 (by omega)) ex_go (fun p hp => ?_) (by kernel_rfl)) (fun p hp => by cases hp) (fun p hp => ?_) (args va)
      · simp only [fEx, List.mem_cons, List.not_mem_nil, or_false] at hp
        subst hp
        show decide (nuL3 K c Nn n z (pinL (tg 2)) > ((2000 : Nat) : Int)) = false
        rw [nuL3_L (by decide)]
        exact decide_eq_false (by omega)
      · simp only [List.mem_cons, List.not_mem_nil, or_false] at hp
        subst hp
        exact ⟨by decide, Nat.ne_of_gt (tgT (by decide) (by decide)).1, [], fun _ => rfl⟩
      · simp only [List.mem_cons, List.not_mem_nil, or_false] at hp
        subst hp
        obtain ⟨_, _, pl', q3, q4⟩ := nd _ List.mem_cons_self
        exact ⟨pl', (embF_other (by decide)).trans q3, q4⟩

theorem chachaExact_lifted (os : Os) (started : os.Started) (H : Type) (enc : TypeId × Value → H) :
    ReturnsInHanded {} Try.checked os 3 .any (Rows.chachaExactSpec.pre6 enc Try.prog Try.f3 Rows.chachaExactRow.domain false) (Rows.chachaExactSpec.post enc Try.prog Try.f3 false true false false) := by
  refine returnsInHanded_of_change (C := Try.checked) own started (by kernel_rfl) Try.func3
    (ChangeSpec.witness6 (enc := enc) (C := Try.checked) false ⟨#[], #[(.agg (List.replicate 32 (.int .u8 0)).toArray), .int .u32 0, (.agg (List.replicate 12 (.int .u8 0)).toArray), .slice none 0 0], []⟩ 8 (by kernel_rfl) (by kernel_rfl) (by kernel_rfl) (by kernel_rfl)) ?_
  intro W base args ds gs before hval0 hW hcnd _
  have hval : ∀ (j : Nat) t v, Try.f3.params[j]? = some t → args[j]? = some v → Value.okWide Try.prog W .any base t v := hval0
  have hW' := hW
  obtain ⟨p, q, hA0, hV, rfl, hfz, hnd⟩ := hW
  have hA : DataW.TrodAll enc Try.prog W 0 (fun _ => true) true Try.f3.params.toList args.toList ds p := hA0
  rw [Try.params3] at hA hval
  obtain ⟨v0, vs0, d0, ds0, p0, q0, hargs, rfl, rfl, h0, r0⟩ := trodAll_cons hA
  obtain ⟨v1, vs1, d1, ds1, p1, q1, rfl, rfl, rfl, h1, r1⟩ := trodAll_cons r0
  obtain ⟨v2, vs2, d2, ds2, p2, q2, rfl, rfl, rfl, h2, r2⟩ := trodAll_cons r1
  obtain ⟨v3, vs3, d3, ds3, p3, q3, rfl, rfl, rfl, h3, r3⟩ := trodAll_cons r2
  obtain ⟨rfl, rfl, rfl⟩ := trodAll_nil r3
  obtain rfl : args = #[v0, v1, v2, v3] := by cases args; simp_all
  obtain ⟨rfl, rfl⟩ := trodVars_none hV
  obtain ⟨z0, l0, rfl, b0, rfl, s0⟩ := open_array Try.underlying22 Try.underlying5 cells1 (by kernel_rfl) (hval 0 _ v0 rfl rfl) h0
  obtain ⟨a1, rfl, rfl, rfl, b1⟩ := open_int Try.underlying23 (hval 1 _ v1 rfl rfl) h1
  have s1 := plain_int (H := H) Try.underlying23 b1
  obtain ⟨z2, l2, rfl, b2, rfl, s2⟩ := open_array Try.underlying24 Try.underlying5 cells1 (by kernel_rfl) (hval 2 _ v2 rfl rfl) h2
  obtain ⟨z3, k3, w3, _⟩ := reads_open Try.underlying25 Try.underlying5 cells1 (hval 3 _ v3 rfl rfl) h3
  clear hA0 hval0
  simp only [List.append_nil] at hW'
  have hlt : ∀ x ∈ p3, x.block < W.heap.size := fun x hx => hW'.lt x hx
  refine (chachaExact_law k3 w3 z0 l0 a1 z2 l2 b0 b1 b2).mono fun e W' ⟨he, hg⟩ => ?_
  subst he
  exact ⟨_, rfl, post_below (pa := p3) (pv := []) hW' (fun _ _ _ => trodAll_cons_mk (shut_bool Try.underlying4 _) trodAll_mk0) (fun sp hsp => (by have hh := (trodAll_cons_mk (s0 _ _ _ _ _) (trodAll_cons_mk (s1 _ _ _ _ _) (trodAll_cons_mk (s2 _ _ _ _ _) (trodAll_cons_mk (kept_arg laidOut (by kernel_rfl) (of_decide_eq_true (by kernel_rfl)) h3 hg (fun x hx => hlt x (by simp [hx])) (fun x hx => hsp x (by simp [hx]))) trodAll_mk0)))); simp only [List.append_nil] at hh; exact hh)) (fun _ _ => rfl) (by simp)
    hg (ok_one (by kernel_rfl) rfl (okWide_bool_mk Try.underlying4 _))⟩

/-- THE STATEMENT. -/
theorem chachaExact_holds : Rows.ChachaExactSaid :=
  OpenClaim.holds_of_wide 3 Try.f3 rfl rfl rfl rfl rfl rfl rfl ⟨rfl, rfl, rfl, rfl, rfl⟩ rfl rfl rfl rfl rfl (by kernel_rfl) Try.func3 (by kernel_rfl)
    (of_decide_eq_true (by kernel_rfl)) (by unfold Func.isWrapper; first | (rw [if_pos (by decide +kernel)]; kernel_rfl) | (rw [if_neg (by decide +kernel)]; exact ⟨rfl, rfl⟩))
    (fun os started H enc _ => chachaExact_lifted os started H enc)
#print axioms chachaExact_holds
end Go.Proofs.Ytakegcfpbacefaa
