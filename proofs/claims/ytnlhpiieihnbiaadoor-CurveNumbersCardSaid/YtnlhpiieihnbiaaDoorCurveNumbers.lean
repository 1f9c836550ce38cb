/-
  CurveNumbers: for all its arguments the law returns true, where the program's variables are laid as the program's text lays them. Conditions: none beside that one (the card ties it to the text).
-/
import Derived.Test.YtnlhpiieihnbiaaDoorNv
namespace Go.Proofs.YtnlhpiieihnbiaaDoor
open Go.Sh
open Go.ChangeShapes Go.WideShapes Go.ChangeAt Go.RowKit
set_option maxRecDepth 100000

theorem cnP_ok {x y z p m r len : Nat} {f : Nat → Nat} {t : Bool} (hx : x < B4) (hy : y < B4) (hz : z < B4) (hp : (x * y + z) % ordL = p) (ht : decide (x < ordL) = t) : ∀ q ∈ cnP t, q.Ok (nuN [x, y, z, m, p] r f len) Tryd.prog := by
  intro q hq
  simp only [cnP, List.mem_cons, List.not_mem_nil, or_false] at hq
  rcases hq with rfl | rfl
  · exact rowPMu hx hy hz hp (nuN_b _ r f len 0 (by decide)) (nuN_b _ r f len 1 (by decide)) (nuN_b _ r f len 2 (by decide)) (nuN_bc _ r f len 4 (by decide))
  · exact rowPBelow t hx ht (nuN_b _ r f len 0 (by decide))
theorem cnQ_ok {x y z p m r len : Nat} {f : Nat → Nat} {t : Bool} (hx : x < B4) (hy : y < B4) (hz : z < B4) (hp : (x * y + z) % ordL = p) (ht : decide (x < ordL) = t) : ∀ q ∈ cnQ t, q.OkG (nuN [x, y, z, m, p] r f len) Tryd.prog glN := by
  have lp : p < ordL := hp ▸ Nat.mod_lt _ (by decide)
  intro q hq
  simp only [cnQ, List.mem_cons, List.not_mem_nil, or_false] at hq
  rcases hq with rfl | rfl | rfl | rfl
  · exact OkG_up upON (rowMu hx hy hz hp (nuN_b _ r f len 0 (by decide)) (nuN_b _ r f len 1 (by decide)) (nuN_b _ r f len 2 (by decide)) (nuN_bc _ r f len 4 (by decide)))
  · exact OkG_up upON (rowBelow true (ordB lp) (decide_eq_true lp) (nuN_b _ r f len 4 (by decide)))
  · exact OkG_up upON (rowBelow t hx ht (nuN_b _ r f len 0 (by decide)))
  · exact OkG_up upBN rowWakesG
theorem cnT_ok {x y z p r len n : Nat} {f : Nat → Nat} {t : Bool} (hx : x < B4) (hy : y < B4) (hz : z < B4) (hp : (x * y + z) % ordL = p) (ht : decide (x < ordL) = t) (hf : ∀ i, f i < 256) (hn : n ≤ 64) (hr : wS f n % ordL = r) : ∀ q ∈ cnT n t, q.Ok (nuN [x, y, z, r, p] r f len) Tryd.prog := by
  intro q hq
  simp only [cnT, List.mem_cons] at hq
  rcases hq with rfl | rfl | rfl | hq
  · exact rowLayS (nuN_w _ r f len) (nuN_bc _ r f len 3 (by decide))
  · exact rowModL (T := wS f n) (Nat.lt_of_lt_of_le (wS_lt hf n) (Nat.le_trans (Nat.pow_le_pow_right (by decide) (show 8 * n ≤ 512 by omega)) (by decide +kernel))) hr (wAG_val hf fun i hi => nuN_s _ r f len i (by omega)) (nuN_w _ r f len)
  · exact rowBytesP (nuN_w _ r f len) (nuN_bc _ r f len 3 (by decide))
  · exact cnP_ok hx hy hz hp ht q hq
theorem cnG_ok {x y z p r len n : Nat} {f : Nat → Nat} {t : Bool} (hx : x < B4) (hy : y < B4) (hz : z < B4) (hp : (x * y + z) % ordL = p) (ht : decide (x < ordL) = t) (hf : ∀ i, f i < 256) (hn : n ≤ 64) (hr : wS f n % ordL = r) : ∀ q ∈ cnG n t, q.OkG (nuN [x, y, z, r, p] r f len) Tryd.prog glN := by
  have lr : r < ordL := hr ▸ Nat.mod_lt _ (by decide)
  intro q hq
  simp only [cnG, List.mem_cons] at hq
  rcases hq with rfl | rfl | hq
  · exact OkG_up upON (rowRed (T := wS f n) (Nat.lt_of_lt_of_le (wS_lt hf n) (Nat.le_trans (Nat.pow_le_pow_right (by decide) (show 8 * n ≤ 512 by omega)) (by decide +kernel))) hr (wAG_val hf fun i hi => nuN_s _ r f len i (by omega)) (nuN_w _ r f len))
  · exact OkG_up upON (rowBelow true (ordB lr) (decide_eq_true lr) (nuN_b _ r f len 3 (by decide)))
  · exact cnQ_ok hx hy hz hp ht q hq
theorem cn_lr {ν : Nat → Int} {ρ : Emb} {a : AV} {v : Value} {x y z : Nat} (h : VR ν ρ a v) (h0 : conc2 ν (rw8 0) = some (byt x)) (h1 : conc2 ν (rw8 1) = some (byt y)) (h2 : conc2 ν (rw8 2) = some (byt z)) : LR ν ρ [a, rw8 0, rw8 1, rw8 2] #[v, byt x, byt y, byt z] :=
  lr_of (vs := [v, byt x, byt y, byt z]) ⟨h, (conc2_vr h0).1, (conc2_vr h1).1, (conc2_vr h2).1, trivial⟩
theorem lenF_at {L : List Nat} {r len : Nat} {f : Nat → Nat} (n : Nat) (b : Bool) (h : decide (n < len) = b) : ∀ p ∈ lenF n b, compare p.1 (p.2.1.val (nuN L r f len)) (p.2.2.1.val (nuN L r f len)) = p.2.2.2 := by
  intro p hp
  simp only [lenF, List.mem_cons, List.not_mem_nil, or_false] at hp
  subst hp
  show decide (((len : Nat) : Int) > ((n : Nat) : Int)) = b
  rw [← h]
  by_cases hh : n < len
  · rw [decide_eq_true hh, decide_eq_true (show ((len : Nat) : Int) > ((n : Nat) : Int) by omega)]
  · rw [decide_eq_false hh, decide_eq_false (show ¬ ((len : Nat) : Int) > ((n : Nat) : Int) by omega)]
theorem curveNumbers_law {W : World} (hL : Laid glN W) {v : Value} {zs : List Int} (hv : ReadsAs W .u8 v zs) (hw : ∀ z ∈ zs, (Lit.int .u8 z).wf = true) (x y z : Nat) (hx : x < B4) (hy : y < B4) (hz : z < B4) :
    Calls Tryd.prog 3 #[v, byt x, byt y, byt z] W fun e W' => e = .returned (.bool true) ∧ Below W.heap.size W W' := by
  obtain ⟨f, hf, hzf⟩ := nat_bytes hw
  obtain ⟨t, ht⟩ : ∃ t, decide (x < ordL) = t := ⟨_, rfl⟩
  obtain ⟨p, hp⟩ : ∃ p, (x * y + z) % ordL = p := ⟨_, rfl⟩
  rcases hv with ⟨rfl, _⟩ | ⟨a, c, rfl, _⟩ | ⟨b, o, n, c, rfl, hc, hn, h0, hcell⟩
  · obtain ⟨r, hr⟩ : ∃ r, wS f 0 % ordL = r := ⟨_, rfl⟩
    exact memG_of (ν := nuN [x, y, z, r, p] r f 0) (g := fun _ => none) (u := .bool true) (noFacts_hold _) mixed tab_ok glN_ok (cnT_ok hx hy hz hp ht hf (by decide) hr) (cnG_ok hx hy hz hp ht hf (by decide) hr) (cn_nil t) (by decide) (fun _ _ => rfl) hL (fun q hq => by cases hq)
      (cn_lr .nsl (nuN_b _ r f 0 0 (by decide)) (nuN_b _ r f 0 1 (by decide)) (nuN_b _ r f 0 2 (by decide))) rfl
  · obtain ⟨r, hr⟩ : ∃ r, wS f 0 % ordL = r := ⟨_, rfl⟩
    exact memG_of (ν := nuN [x, y, z, r, p] r f 0) (g := fun _ => none) (u := .bool true) (noFacts_hold _) mixed tab_ok glN_ok (cnT_ok hx hy hz hp ht hf (by decide) hr) (cnG_ok hx hy hz hp ht hf (by decide) hr) (cn_sle t) (by decide) (fun _ _ => rfl) hL (fun q hq => by cases hq)
      (cn_lr (.sle false a c (fun h => by cases h)) (nuN_b _ r f 0 0 (by decide)) (nuN_b _ r f 0 1 (by decide)) (nuN_b _ r f 0 2 (by decide))) rfl
  · have hE : embF (at1 64 ⟨b, o, 0⟩) 64 = some ⟨b, o, 0⟩ := at1_at (by decide)
    have hN : ∀ k, 65 ≤ k → at1 64 ⟨b, o, 0⟩ k = none := fun k hk => at1_none (by omega)
    have hcell' : ∀ i, i < n → W.cell? ⟨b, o + i, none⟩ = some (.int .u8 (zs.getD i 0)) := hcell
    by_cases h64 : n ≤ 64
    · obtain ⟨r, hr⟩ : ∃ r, wS f n % ordL = r := ⟨_, rfl⟩
      have hgo : cnGo n (slA 64 (celB n)) t = true := by
        have := cn_all n h0 h64
        simp only [cnTry, Bool.and_eq_true] at this
        cases t
        · exact this.2
        · exact this.1
      have hlen : (celB n).length = n := by simp [celB]
      have hne : (celB n).isEmpty = false := by
        cases hh : celB n with
        | nil => rw [hh] at hlen; simp at hlen; omega
        | cons _ _ => rfl
      have hsl : slA 64 (celB n) = .sl 64 0 (.c (.ofNat n)) .any := by unfold slA; rw [hne, hlen]; rfl
      rw [hsl] at hgo
      refine memG_of (ν := nuN [x, y, z, r, p] r f 0) (g := at1 64 ⟨b, o, 0⟩) (u := .bool true) (noFacts_hold _) mixed tab_ok glN_ok (cnT_ok hx hy hz hp ht hf h64 hr) (cnG_ok hx hy hz hp ht hf h64 hr) hgo (by decide) hN hL (fun q hq => ?_)
        (cn_lr (.sl 64 0 _ .any ⟨b, o, 0⟩ n c hE rfl trivial hc) (nuN_b _ r f 0 0 (by decide)) (nuN_b _ r f 0 1 (by decide)) (nuN_b _ r f 0 2 (by decide))) rfl
      simp only [List.mem_cons, List.not_mem_nil, or_false] at hq
      subst hq
      refine ⟨⟨b, o, 0⟩, hE, reads_br hcell' (fun j cc hj => ?_) (fun hh => by rw [hh] at hne; cases hne) (by decide) 0⟩
      simp only [celB, List.getElem?_map, Option.map_eq_some_iff] at hj
      obtain ⟨k, hk, rfl⟩ := hj
      obtain ⟨hj1, hj2⟩ := List.getElem?_eq_some_iff.1 hk
      have hjn : j < n := by simpa using hj1
      have hkj : j = k := by simpa using hj2
      subst hkj
      refine ⟨hjn, ?_⟩
      show some (Value.int .u8 (nuN [x, y, z, r, p] r f 0 (1000 + j))) = _
      rw [nuN_s _ r f 0 j (by omega), hzf j]
    · have hq0 : ∀ (ν : Nat → Int), ν 1000 = ((f 0 : Nat) : Int) → ∀ q ∈ ([(64, ⟨[bt 1000], 5, true⟩)] : Gl), ∃ pl, embF (at1 64 ⟨b, o, 0⟩) q.1 = some pl ∧ BR ν (embF (at1 64 ⟨b, o, 0⟩)) W q.2.shut pl := by
        intro ν h1 q hq
        simp only [List.mem_cons, List.not_mem_nil, or_false] at hq
        subst hq
        refine ⟨⟨b, o, 0⟩, hE, reads_br hcell' (fun j cc hj => ?_) (fun hh => by cases hh) (by decide) 0⟩
        cases j with
        | zero =>
          simp only [List.getElem?_cons_zero, Option.some.injEq] at hj
          subst hj
          refine ⟨h0, ?_⟩
          show some (Value.int .u8 (ν 1000)) = _
          rw [h1, hzf 0]
        | succ j => simp at hj
      have v1000 : ∀ L r, nuN L r f n 1000 = ((f 0 : Nat) : Int) := fun L r => nuN_s L r f n 0 (by decide)
      have v2000 : ∀ L r, (AI.s 2000).val (nuN L r f n) = ((n : Nat) : Int) := fun L r => rfl
      by_cases h200 : 200 < n
      · exact memG_of (ν := nuN [x, y, z, 0, p] 0 f n) (g := at1 64 ⟨b, o, 0⟩) (u := .bool true) ⟨fun q hq => (by cases hq), lenF_at 200 true (decide_eq_true h200)⟩ mixed tab_ok glN_ok (fun q hq => by cases hq) (fun q hq => by cases hq) cn_over (by decide) hN hL (hq0 _ (v1000 _ _))
          (cn_lr (.sl 64 0 _ .any ⟨b, o, 0⟩ n c hE (v2000 _ _) trivial hc) (nuN_b _ 0 f n 0 (by decide)) (nuN_b _ 0 f n 1 (by decide)) (nuN_b _ 0 f n 2 (by decide))) rfl
      · exact memG_of (ν := nuN [x, y, z, 0, p] 0 f n) (g := at1 64 ⟨b, o, 0⟩) (u := .bool true) ⟨fun q hq => (by cases hq), fun q hq => (List.mem_append.1 hq).elim (lenF_at 200 false (decide_eq_false h200) q) (lenF_at 64 true (decide_eq_true (by omega)) q)⟩ mixed tab_ok glN_ok (cnP_ok hx hy hz hp ht) (cnQ_ok hx hy hz hp ht) (cn_long t) (by decide) hN hL (hq0 _ (v1000 _ _))
          (cn_lr (.sl 64 0 _ .any ⟨b, o, 0⟩ n c hE (v2000 _ _) trivial hc) (nuN_b _ 0 f n 0 (by decide)) (nuN_b _ 0 f n 1 (by decide)) (nuN_b _ 0 f n 2 (by decide))) rfl

theorem laidOut : laidOutB Tryd.prog = true := by kernel_rfl

abbrev curveNumbersLaid : List (String × DataW Unit) := Rows.curveNumbersRow.laid
theorem curveNumbers_met (os : Os) (args : Array Value) : laidMetH Tryd.prog curveNumbersLaid ((World.doorLaid Tryd.prog 400 os).forCall (fun _ _ => 0) ⟨#[], args, []⟩).memory :=
  laidMetH_of_parts3 (fuel := 8) (laidMet_of_run' 8 (by kernel_rfl) (by kernel_rfl)) (by kernel_rfl) (by kernel_rfl)

theorem curveNumbers_lifted (os : Os) (started : os.Started) (H : Type) (enc : TypeId × Value → H) :
    ReturnsInHanded {} Tryd.checked os 3 .any (fun w args => (Rows.curveNumbersSpec.pre enc Tryd.prog Tryd.f3 [] false w args ∧ laidMetH Tryd.prog curveNumbersLaid w) ∧ sizedMet enc Tryd.prog Tryd.f3 (OpenSpec.ofChange Rows.curveNumbersSpec) false w args)
      (Rows.curveNumbersSpec.post enc Tryd.prog Tryd.f3 false true false false) := by
  refine returnsInHanded_of_change_and (C := Tryd.checked) (X := fun w _ => laidMetH Tryd.prog curveNumbersLaid w) (fun _ _ _ hh h => h.of_heap hh) own started (by kernel_rfl) Tryd.func3
    (ChangeSpec.witness_shaped (enc := enc) (C := Tryd.checked) (os := os) (X := fun w _ => laidMetH Tryd.prog curveNumbersLaid w) false (World.doorLaid Tryd.prog 400 os) #[.slice none 0 0, byt 0, byt 0, byt 0] 8 rfl (World.shaped_of_RefB (by kernel_rfl) (by kernel_rfl)) (by kernel_rfl) (by kernel_rfl) (by kernel_rfl) (curveNumbers_met os _)) ?_
  intro W base args ds gs before hval0 hW _ _ hL _
  have hval : ∀ (j : Nat) t v, Tryd.f3.params[j]? = some t → args[j]? = some v → Value.okWide Tryd.prog W .any base t v := hval0
  have hW' := hW
  obtain ⟨p, q, hA0, hV, rfl, hfz, hnd⟩ := hW
  have hA : DataW.TrodAll enc Tryd.prog W 0 (fun _ => true) true Tryd.f3.params.toList args.toList ds p := hA0
  rw [Tryd.params3] at hA hval
  obtain ⟨v0, vs0, d0, ds0, p0, q0, hargs, rfl, rfl, h0, r0⟩ := trodAll_cons hA
  obtain ⟨v1, vs1, d1, ds1, p1, q1, rfl, rfl, rfl, h1, r1⟩ := trodAll_cons r0
  obtain ⟨v2, vs2, d2, ds2, p2, q2, rfl, rfl, rfl, h2, r2⟩ := trodAll_cons r1
  obtain ⟨v3, vs3, d3, ds3, p3, q3, rfl, rfl, rfl, h3, r3⟩ := trodAll_cons r2
  obtain ⟨rfl, rfl, rfl⟩ := trodAll_nil r3
  obtain rfl : args = #[v0, v1, v2, v3] := by cases args; simp_all
  obtain ⟨rfl, rfl⟩ := trodVars_none hV
  obtain ⟨z0, k0, w0, _⟩ := reads_open Tryd.underlying22 Tryd.underlying5 cells1 (hval 0 _ v0 rfl rfl) h0
  obtain ⟨a1, b1, rfl, rfl, s1⟩ := open_num (hval 1 _ v1 rfl rfl) h1
  obtain ⟨a2, b2, rfl, rfl, s2⟩ := open_num (hval 2 _ v2 rfl rfl) h2
  obtain ⟨a3, b3, rfl, rfl, s3⟩ := open_num (hval 3 _ v3 rfl rfl) h3
  clear hA0 hval0
  simp only [List.append_nil, List.nil_append] at hW'
  have hlt : ∀ x ∈ p0, x.block < W.heap.size := fun x hx => hW'.lt x hx
  refine (curveNumbers_law (laidN hL) k0 w0 a1 a2 a3 b1 b2 b3).mono fun e W' ⟨he, hg⟩ => ?_
  subst he
  exact ⟨_, rfl, post_below (pa := p0) (pv := []) hW' (fun _ _ _ => trodAll_cons_mk (shut_bool Tryd.underlying4 _) trodAll_mk0) (fun sp hsp => (by have hh := (trodAll_cons_mk (kept_arg laidOut (by kernel_rfl) (of_decide_eq_true (by kernel_rfl)) h0 hg (fun x hx => hlt x (by simp [hx])) (fun x hx => hsp x (by simp [hx]))) (trodAll_cons_mk (s1 _ _ _ _ _) (trodAll_cons_mk (s2 _ _ _ _ _) (trodAll_cons_mk (s3 _ _ _ _ _) trodAll_mk0)))); simp only [List.append_nil] at hh; exact hh)) (fun _ _ => rfl) (by simp)
    hg (ok_one (by kernel_rfl) rfl (okWide_bool_mk Tryd.underlying4 _))⟩

theorem curveNumbers_over : Rows.CurveNumbersSaid :=
  OpenClaim.holds_of_wide 3 Tryd.f3 rfl rfl rfl rfl rfl rfl rfl ⟨rfl, rfl, rfl, rfl, rfl⟩ rfl rfl rfl rfl rfl (by kernel_rfl) Tryd.func3 (by kernel_rfl)
    (of_decide_eq_true (by kernel_rfl)) (by unfold Func.isWrapper; first | (rw [if_pos (by decide +kernel)]; kernel_rfl) | (rw [if_neg (by decide +kernel)]; exact ⟨rfl, rfl⟩))
    (fun os started H enc _ => curveNumbers_lifted os started H enc)

/-- THE STATEMENT. -/
theorem curveNumbers_holds : Rows.CurveNumbersCardSaid :=
  Claim7.holds_tied_plain_at .later [] [.data, .data, .data, .data] true (true, "4fd09045e6821276d435d2d4998247e0789e5cdd2116a89db7f4265888bac662") false
    curveNumbers_over (fun _ h => by cases h) (by kernel_rfl) (fun _ h => by cases h) curveNumbers_row_tie rfl ⟨rfl, rfl⟩ (by kernel_rfl) rfl
    (fun f fn hf hfn => by
      obtain rfl : f = 3 := Option.some.inj ((show Tryd.prog.funcNamed "tryst/trystlaw08.CurveNumbers" = some 3 by kernel_rfl).symm.trans hf) |>.symm
      obtain rfl : fn = Tryd.f3 := (Option.some.inj (Tryd.func3.symm.trans hfn)).symm
      exact ⟨by kernel_rfl, fun j t ht => by
        rw [Tryd.params3] at ht
        have hm : t ∈ [22, 23, 23, 23] := by simpa using Array.mem_of_getElem? ht
        have hall : ([22, 23, 23, 23].all fun u => !Tryd.prog.wantsStandIn u) = true := by kernel_rfl
        exact (show Tryd.prog.wantsStandIn t = false by simpa using List.all_eq_true.1 hall t hm)⟩)
    (by kernel_rfl)
#print axioms curveNumbers_holds
end Go.Proofs.YtnlhpiieihnbiaaDoor
