/-
  PolyOnes: for all its arguments the law returns true. Conditions: none.
-/
import Derived.Test.YtbdihdncnpajgaaPor
namespace Go.Proofs.Ytbdihdncnpajgaa
open Go.Sh
open Go.ChangeShapes Go.WideShapes Go.ChangeAt Go.RowKit
set_option maxRecDepth 100000

theorem rowOe_ok {s zz : Nat → Nat} {n R : Nat} (hs : ∀ j, s j < 256) (hz : ∀ j, zz j < 256) (hn : n < 1000000000) (hR : aq n R = n) : rowOe.Ok (nuO s n zz R) Try.prog [] := by
  refine rowTag_ok (k := koN s) (zz := zz) (n := n) (z := fun j => (zz j : Int)) tagC (fun j hj => ⟨koA_val hj, koN_lt hs j⟩) (fun j _ => ⟨rfl, hz j⟩) (isText_win (t := 2) (own := false) List.mem_cons_self (by decide) (tg_Ke (by decide)) ?_ nuO_n (by rw [nuO_L]; omega) fun j hj => nuO_B (by omega)) (by omega) fun j hj => by rw [nm_val, nuO_t hj]
  rw [nuO_A]
  exact nuO_p
def oeF0 : Facts := ⟨[], (List.range 16).map (fun i => (.neq, .s (140 + i), cA .u8 (eA .rem .i64 (ckA zeroA i) (nA 256)), false)), []⟩
theorem on_E1 : saysB oeF0 tree [rowWk] [] [] [rowTag 8 koA .nsl [] (nmA 140)] [] 64 300 4 5 [s16, .nsl] (.b true) = true := by kernel_rfl
theorem on_E2 : saysB oeF0 tree [rowWk] [] [] [rowTag 8 koA (.sle false) [] (nmA 140)] [] 64 300 4 5 [s16, .sle false] (.b true) = true := by kernel_rfl
theorem on_over : saysB ⟨[], [(.gtr, .s 301, nA 1000, true)], []⟩ tree [] [] [] [] (Hd.gl0 64 .c) 65 300 4 5 [s16, Hd.av0 64 301 .c] (.b true) = true := by kernel_rfl
theorem law_rowD {ν : Nat → Int} {F : Facts} {T : List Row} {TM : List RowM} {need : Gl} {f n d : Nat} {args : List AV} (hn : gmax ≤ n) (hF : F.Hold ν) (hT : ∀ r ∈ T, r.Ok ν Try.prog) (hTM : ∀ r ∈ TM, r.Ok ν Try.prog []) (h : saysB F tree T [] [] TM need n d 4 f args (.b true) = true) (hneed : ∀ p ∈ need, p.1 < n ∧ p.2.elem ≠ mapTag ∧ ∃ us, ∀ ν, concL ν p.2.cells = some us) (hin : args.all (inB need) = true) : RowM.Ok ν Try.prog [] ⟨f, args, need, [.v (.b true)]⟩ :=
  rowM_of (res := [.b true]) (us := [.bool true]) hF mixed tab_ok gl0_ok hT (fun r hr => by cases hr) hTM h hn (fun p hp => ⟨(hneed p hp).1, (hneed p hp).2.1, let ⟨us, hu⟩ := (hneed p hp).2.2; ⟨us, hu ν⟩⟩) hin rfl rfl
theorem oeF0_hold {s zz : Nat → Nat} (hs : ∀ j, s j < 256) : oeF0.Hold (nuO s 0 zz 0) := by
  refine ⟨fun p hp => (by cases hp), fun p hp => ?_, fun p hp => by cases hp⟩
  obtain ⟨i, hi, rfl⟩ := List.mem_map.1 hp
  have hi := List.mem_range.1 hi
  show (nuO s 0 zz 0 (140 + i) != (cA .u8 (eA .rem .i64 (ckA zeroA i) (nA 256))).val (nuO s 0 zz 0)) = false
  obtain ⟨h1, h2⟩ := ck_num (f := zeroA) (e := fun _ => 0) (s := s) (ν := nuO s 0 zz 0) (fun j _ => ⟨rfl, by decide⟩) (fun j hj => ⟨nuO_s hj, hs j⟩) i hi
  rw [cA_val, eA_val, h1, nA_val, remL, w_u8, Nat.mod_mod, nuO_t hi, tag_dg hi]
  have e : dgN 0 (fun j => accN (rN (koN s)) 0 zz ((0 + 15) / 16) / 256 ^ j % 256 + koN s (16 + j)) i = chN 0 (fun j => 0 + s j) i % 256 := by
    rw [show chN 0 (fun j => 0 + s j) i % 256 = dgN 0 (fun j => 0 + s j) i from rfl, dg_at 0 _ hi, dg_at 0 (fun j => 0 + s j) hi]
    rw [show dv (fun j => accN (rN (koN s)) 0 zz ((0 + 15) / 16) / 256 ^ j % 256 + koN s (16 + j)) 16 = dv (fun j => 0 + s j) 16 from dv_congr fun j hj => by
      show 0 / 256 ^ j % 256 + koN s (16 + j) = 0 + s j
      rw [Nat.zero_div, koN_hi]]
  rw [e]
  exact bne_self_eq_false _
theorem s16_val {s zz : Nat → Nat} {n q : Nat} : conc2 (nuO s n zz q) s16 = some (aggI .u8 16 fun j => (s j : Int)) := by
  show conc2 _ (.ag (rowC .u8 (nmA 0) (15 + 1))) = _
  rw [conc2_row]
  exact congrArg some (aggI_congr fun j hj => by rw [nm_val, Nat.zero_add]; exact nuO_s hj)
/-- Of a text of some. -/
theorem ones_some {w : World} {cb o cp n : Nat} {s zz : Nat → Nat} (hs : ∀ j, s j < 256) (hz : ∀ j, zz j < 256) (h0 : 0 < n) (h1000 : n ≤ 1000) (hle : n ≤ cp) (hc : CellsAt w .u8 cb o n fun j => (zz j : Int)) :
    Calls Try.prog 5 #[aggI .u8 16 fun j => (s j : Int), .slice (some ⟨cb, o, none⟩) n cp] w fun e w' => e = .returned (.bool true) ∧ Below w.heap.size w w' := by
  have hn : n < 1000000000000 := by omega
  have below : ∀ {w' : World}, BelowL [] w w' → Below w.heap.size w w' := fun hB => ⟨hB.os, hB.tape, hB.output, hB.size, fun k hk => hB.block k hk fun p hp => by cases hp⟩
  have start := holdsX_start (N := 168) (ν := nuO s n zz 0) (L := []) (fx := []) (kp := []) (vs := #[aggI .u8 16 fun j => (s j : Int), .slice (some ⟨cb, o, none⟩) n cp]) (e0 := oo0.e) (H0 := oo0.H) (n0 := 65) gl0_ok (w := w) (fun p hp => by cases hp) (at1 64 ⟨cb, o, 0⟩) (by show 2 ≤ 168; decide) (by decide) (fun b hb => at1_none (by omega)) (fun p hp => by cases hp)
    (fun p hp => by
      simp only [oo0, List.mem_cons, List.not_mem_nil, or_false] at hp
      rcases hp with rfl | rfl
      · exact ⟨_, rfl, (conc2_vr s16_val).1⟩
      · exact ⟨_, rfl, .sl 64 0 _ .any ⟨cb, o, 0⟩ n cp (at1_at (by decide)) nuO_L trivial hle⟩)
    (fun p hp => by
      simp only [oo0, List.mem_cons, List.not_mem_nil, or_false] at hp
      subst hp
      exact ⟨show gmax ≤ 64 by decide, _, if_pos rfl, pin_br (tgT (by decide) (by decide)) (tg_Ke (by decide)) nuO_L (fun j hj => nuO_B (by omega)) hc, fun h => by cases h⟩)
    (fun p hp => by cases hp)
  refine (callsX (L := []) (gl := []) (Q := fun u w' => u = .bool true ∧ Below w.heap.size w w') tab_ok (by kernel_rfl) on_shape start ?_).2.mono fun e w' ⟨v, he, hv, hB⟩ => ⟨by rw [he, hv], hB⟩
  have run : ∀ {d : Nat} {ic : IC} {i o : Now} {ex : Ex} {ν : Nat → Int} {F : Facts}, F.Hold ν → goesX F tree [] [] [] [] [] d 4 ic i ex o = true → Tri Try.prog 168 ic (HoldsX 168 w ν [] [] [] [] i) fun ex' a w' => ex' = ex ∧ HoldsX 168 w ν [] [] [] [] o a w' := fun hF h =>
    Tri.runX hF mixed tab_ok gl0_ok (fun r hr => by cases hr) (fun r hr => by cases hr) (fun r hr => by cases hr) (fun r hr => by cases hr) h
  have hfo : fOn.Hold (nuO s n zz 0) := ⟨fun p hp => (by cases hp), fun p hp => by
    simp only [fOn, List.mem_cons, List.not_mem_nil, or_false] at hp
    subst hp
    show decide (nuO s n zz 0 (pinL (tg 2)) > ((1000 : Nat) : Int)) = false
    rw [nuO_L]
    exact decide_eq_false (by omega), fun p hp => by cases hp⟩
  obtain ⟨R, h1, h2⟩ : ∃ R, n ≤ 16 * R ∧ 16 * R < n + 16 := ⟨(n + 15) / 16, by omega, by omega⟩
  have hR : (n + 15) / 16 = R := by omega
  have hq : aq n R = n := by unfold aq; omega
  refine seqN (run (none_f _) on_go1) (seqN (run hfo on_go2) (seqN (run (none_f _) on_go3) (seqN (run (none_f _) on_go4) (seqN (run (none_f _) on_go5) (seqN (Mid := HoldsX 168 w (nuO s n zz R) [] [] [] [] (onI 0 (.s 305))) ?_ ?_)))))
  · refine seqN (Mid := HoldsX 168 w (nuO s n zz 0) [] [] [] [] (onI (wq n 0) (.s 302))) ((run (none_f _) on_goD).weak (fun _ _ h => h) fun ex a w' h => ⟨h.1, on_open hn h.2⟩) ?_
    refine Tri.block (on_loop hz hn (by omega) h1 h2) (fun a w h => by cases h.1) (fun a w h => ⟨rfl, h.2⟩) (fun j a w hj h => ?_) (fun a w h => by cases h.1)
    have := h.1
    simp only [Ex.exit.injEq] at this
    exact (hj this).elim
  · obtain ⟨x1, x2⟩ := oV_dv (n := n) hz R
    have hoe := oe_hold (ν := nuO s n zz R) (g := nmA 1000) (m := 19) (n := n) (v := oV n zz R) (s := s) (k := koN s) (zz := zz) (by decide) (by decide) (fun j hj => ⟨by rw [nm_val, nuO_a hj], by have := oV_lt (n := n) hz R j hj; omega⟩) x1 (fun j hj => ⟨nuO_s hj, hs j⟩) (fun j _ => koN_hi) (by rw [rN_ko, hR, x2]) (fun j hj => nuO_t hj)
    refine (Tri.runX (L := []) (fx := []) (kp := []) (w0 := w) (F := ⟨[], fOe 19 (nmA 1000) (decide (4 ≤ (5 + dv (oV n zz R) 20) / 256 ^ 16 % 256)), []⟩) ⟨fun p hp => (by cases hp), hoe, fun p hp => by cases hp⟩ mixed tab_ok gl0_ok (fun r hr => ?_) (fun r hr => by cases hr) (fun r hr => ?_) (fun r hr => by cases hr) (on_goEnd _)).weak (fun _ _ h => h) fun ex a w' h => ⟨.inr h.1, _, onZ, .b true, [], [], h.2, on_res, fun ρ v _ hh ho hB hv => ⟨?_, below hB⟩⟩
    · simp only [List.mem_cons, List.not_mem_nil, or_false] at hr
      subst hr
      exact rowWk_ok
    · simp only [List.mem_cons, List.not_mem_nil, or_false] at hr
      subst hr
      exact rowOe_ok hs hz (by omega) hq
    · cases hv
      rfl
theorem polyOnes_law {W : World} {v : Value} {zs : List Int} (hv : ReadsAs W .u8 v zs) (hw : ∀ z ∈ zs, (Lit.int .u8 z).wf = true) (zk : List Int) (lk : zk.length = 16) (hzk : ∀ z ∈ zk, (Lit.int .u8 z).wf = true) :
    Calls Try.prog 5 #[.agg (zk.map (Value.int .u8)).toArray, v] W fun e W' => e = .returned (.bool true) ∧ Below W.heap.size W W' := by
  obtain ⟨u, n, pl, hc, _⟩ := came_of hv hw
  obtain ⟨zz, hz8, hzz⟩ := nat_bytes hw
  obtain ⟨s, hs8, hss⟩ := nat_bytes hzk
  rw [aggI_of lk, show (fun j => zk.getD j 0) = fun j => (s j : Int) from funext hss]
  rw [show (fun i => zs.getD i 0) = fun j => (zz j : Int) from funext hzz] at hc
  have args : ∀ {ρ : Emb} {x : AV}, VR (nuO s n zz 0) ρ x v → LR (nuO s n zz 0) ρ [s16, x] #[aggI .u8 16 fun j => (s j : Int), v] := fun hx => lr_of (vs := [_, _]) ⟨(conc2_vr s16_val).1, hx, trivial⟩
  have hT : ∀ {ν : Nat → Int}, ∀ r ∈ [rowWk], r.Ok ν Try.prog := fun r hr => by
    simp only [List.mem_cons, List.not_mem_nil, or_false] at hr
    subst hr
    exact rowWk_ok
  have hM : ∀ (x : AV), IsText (nuO s 0 zz 0) [] x 0 (fun j => (zz j : Int)) → ∀ r ∈ [rowTag 8 koA x [] (nmA 140)], r.Ok (nuO s 0 zz 0) Try.prog [] := fun x hx r hr => by
    simp only [List.mem_cons, List.not_mem_nil, or_false] at hr
    subst hr
    exact rowTag_ok (k := koN s) (zz := zz) tagC (fun j hj => ⟨koA_val hj, koN_lt hs8 j⟩) (fun j hj => absurd hj (Nat.not_lt_zero _)) hx (by decide) fun j hj => by rw [nm_val, nuO_t hj]
  by_cases hm : 1000 < n
  · cases u
    · have : n = 0 := hc.2.1
      omega
    · have : n = 0 := hc.2.1
      omega
    · obtain ⟨va, nd⟩ := hc.here0 (ν := nuO s n zz 0) (gp := at1' 64 pl) (blk := 64) (k := 301) (by decide) (if_pos rfl) nuO_n
      refine yes_ofN (law_rowD (by decide) ⟨fun p hp => (by cases hp), fun p hp => ?_, fun p hp => by cases hp⟩ (fun r hr => by cases hr) (fun r hr => by cases hr) on_over (gl0_need (by decide)) (by kernel_rfl)) (fun p hp => by cases hp) nd (args va)
      simp only [List.mem_cons, List.not_mem_nil, or_false] at hp
      subst hp
      show decide (nuO s n zz 0 301 > ((1000 : Nat) : Int)) = true
      rw [nuO_n]
      exact decide_eq_true (by omega)
  · cases u
    · have h0 : n = 0 := hc.2.1
      subst h0
      exact yes_ofN (ρ := embF fun _ => none) (law_rowD (by decide) (oeF0_hold hs8) hT (hM _ isText_nsl) on_E1 (fun p hp => by cases hp) (by kernel_rfl)) (fun p hp => by cases hp) (fun p hp => by cases hp) (args (by rw [hc.1]; exact .nsl))
    · have h0 : n = 0 := hc.2.1
      subst h0
      obtain ⟨a, cp, rfl⟩ := hc.1
      exact yes_ofN (ρ := embF fun _ => none) (law_rowD (by decide) (oeF0_hold hs8) hT (hM _ isText_sle) on_E2 (fun p hp => by cases hp) (by kernel_rfl)) (fun p hp => by cases hp) (fun p hp => by cases hp) (args (.sle _ _ _ (fun h => by cases h)))
    · have h0 := hc.fits
      obtain ⟨cb, o, cp, rfl, hle, _, hcc, _⟩ := hc
      exact ones_some hs8 hz8 h0 (by omega) hle hcc

theorem polyOnes_lifted (os : Os) (started : os.Started) (H : Type) (enc : TypeId × Value → H) :
    ReturnsInHanded {} Try.checked os 5 .any (Rows.polyOnesSpec.pre6 enc Try.prog Try.f5 Rows.polyOnesRow.domain false) (Rows.polyOnesSpec.post enc Try.prog Try.f5 false true false false) := by
  refine returnsInHanded_of_change (C := Try.checked) own started (by kernel_rfl) Try.func5
    (ChangeSpec.witness6 (enc := enc) (C := Try.checked) false ⟨#[], #[(.agg (List.replicate 16 (.int .u8 0)).toArray), .slice none 0 0], []⟩ 8 (by kernel_rfl) (by kernel_rfl) (by kernel_rfl) (by kernel_rfl)) ?_
  intro W base args ds gs before hval0 hW hcnd _
  have hval : ∀ (j : Nat) t v, Try.f5.params[j]? = some t → args[j]? = some v → Value.okWide Try.prog W .any base t v := hval0
  have hW' := hW
  obtain ⟨p, q, hA0, hV, rfl, hfz, hnd⟩ := hW
  have hA : DataW.TrodAll enc Try.prog W 0 (fun _ => true) true Try.f5.params.toList args.toList ds p := hA0
  rw [Try.params5] at hA hval
  obtain ⟨v0, vs0, d0, ds0, p0, q0, hargs, rfl, rfl, h0, r0⟩ := trodAll_cons hA
  obtain ⟨v1, vs1, d1, ds1, p1, q1, rfl, rfl, rfl, h1, r1⟩ := trodAll_cons r0
  obtain ⟨rfl, rfl, rfl⟩ := trodAll_nil r1
  obtain rfl : args = #[v0, v1] := by cases args; simp_all
  obtain ⟨rfl, rfl⟩ := trodVars_none hV
  obtain ⟨z0, l0, rfl, b0, rfl, s0⟩ := open_array Try.underlying25 Try.underlying5 cells1 (by kernel_rfl) (hval 0 _ v0 rfl rfl) h0
  obtain ⟨z1, k1, w1, _⟩ := reads_open Try.underlying23 Try.underlying5 cells1 (hval 1 _ v1 rfl rfl) h1
  clear hA0 hval0
  simp only [List.append_nil] at hW'
  have hlt : ∀ x ∈ p1, x.block < W.heap.size := fun x hx => hW'.lt x hx
  refine (polyOnes_law k1 w1 z0 l0 b0).mono fun e W' ⟨he, hg⟩ => ?_
  subst he
  exact ⟨_, rfl, post_below (pa := p1) (pv := []) hW' (fun _ _ _ => trodAll_cons_mk (shut_bool Try.underlying4 _) trodAll_mk0) (fun sp hsp => (by have hh := (trodAll_cons_mk (s0 _ _ _ _ _) (trodAll_cons_mk (kept_arg laidOut (by kernel_rfl) (of_decide_eq_true (by kernel_rfl)) h1 hg (fun x hx => hlt x (by simp [hx])) (fun x hx => hsp x (by simp [hx]))) trodAll_mk0)); simp only [List.append_nil] at hh; exact hh)) (fun _ _ => rfl) (by simp)
    hg (ok_one (by kernel_rfl) rfl (okWide_bool_mk Try.underlying4 _))⟩

/-- THE STATEMENT. -/
theorem polyOnes_holds : Rows.PolyOnesSaid :=
  OpenClaim.holds_of_wide 5 Try.f5 rfl rfl rfl rfl rfl rfl rfl ⟨rfl, rfl, rfl, rfl, rfl⟩ rfl rfl rfl rfl rfl (by kernel_rfl) Try.func5 (by kernel_rfl)
    (of_decide_eq_true (by kernel_rfl)) (by unfold Func.isWrapper; first | (rw [if_pos (by decide +kernel)]; kernel_rfl) | (rw [if_neg (by decide +kernel)]; exact ⟨rfl, rfl⟩))
    (fun os started H enc _ => polyOnes_lifted os started H enc)
#print axioms polyOnes_holds
end Go.Proofs.Ytbdihdncnpajgaa
