/-
  MacRows: for all its arguments the law returns true, where the program's variables are laid as the program's text lays them. Conditions: none beside that one (the card ties it to the text).
-/
import Derived.Test.YtjdcaipgfolgoaaDoorXo
import Derived.Test.YtjdcaipgfolgoaaDoorYo
import Derived.Test.YtjdcaipgfolgoaaDoorYp
import Derived.Test.YtjdcaipgfolgoaaDoorYq
import Derived.Test.YtjdcaipgfolgoaaDoorYr
import Derived.Test.YtjdcaipgfolgoaaDoorYs
import Derived.Test.YtjdcaipgfolgoaaDoorYt
namespace Go.Proofs.YtjdcaipgfolgoaaDoor
open Go.Sh
open Go.ChangeShapes Go.WideShapes Go.ChangeAt Go.RowKit
set_option maxRecDepth 100000

theorem rw_all : ∀ (q : Bool) (s u : Hd) (i : Nat), i < 8 → rwP q s u i = true
  | false, .a, .a => rw_faa
  | false, .a, .b => rw_fab
  | false, .a, .c => rw_fac
  | false, .b, .a => rw_fba
  | false, .b, .b => rw_fbb
  | false, .b, .c => rw_fbc
  | false, .c, .a => rw_fca
  | false, .c, .b => rw_fcb
  | false, .c, .c => rw_fcc
  | true, .a, .a => rw_taa
  | true, .a, .b => rw_tab
  | true, .a, .c => rw_tac
  | true, .b, .a => rw_tba
  | true, .b, .b => rw_tbb
  | true, .b, .c => rw_tbc
  | true, .c, .a => rw_tca
  | true, .c, .b => rw_tcb
  | true, .c, .c => rw_tcc
theorem rw_round (q : Bool) (s u : Hd) {w : Nat} (h0 : 0 < w) (hw : w ≤ 32) : rwRound q s u w = true := rwP_all (rw_all q s u) h0 hw
section
variable {w0 : World} {nk ni n : Nat} {zk zi : Wd} {s u : Hd}
theorem rw_loop (hs : s.Fits nk) (hu : u.Fits ni) (hnk : nk ≤ 1000) (hni : ni ≤ 1000) (hn : n ≤ 1000) {R : Nat} (h1 : n ≤ 32 * R) (h2 : 32 * R < n + 32) : Tri Tryd.prog 87 (.loop rwR) (fun a w => HoldsX 87 w0 (nuMr nk zk ni zi n 0) gl256 [] [] [] (if R = 0 then rwX else rwN false s u (wR n 0)) a w)
    fun exx a w => exx = .exit 0 ∧ HoldsX 87 w0 (nuMr nk zk ni zi n R) gl256 [] [] [] rwX a w := by
  have key := Tri.loop (P := Tryd.prog) (N := 87) (x := rwR) (J := fun r a w => r ≤ R ∧ HoldsX 87 w0 (nuMr nk zk ni zi n (R - r)) gl256 [] [] [] (if r = 0 then rwX else rwN (decide (R - r ≠ 0)) s u (wR n (R - r))) a w) (Post := fun exx a w => exx = .exit 0 ∧ HoldsX 87 w0 (nuMr nk zk ni zi n R) gl256 [] [] [] rwX a w) R ?_ ?_
  · exact key.weak (fun a w h => ⟨Nat.le_refl _, by rw [Nat.sub_self]; exact h⟩) (fun _ _ _ h => h)
  · intro r cc hc a w ⟨hr, hp⟩
    have e2 : R - r = R - (r + 1) + 1 := by omega
    have hlt : 32 * (R - (r + 1)) < n := by omega
    have hk : R - (r + 1) < 1000 := by omega
    have hnext : r ≠ 0 → 32 * (R - (r + 1) + 1) < n := fun h => by omega
    rw [if_neg (Nat.succ_ne_zero r)] at hp
    rw [e2]
    generalize R - (r + 1) = k at *
    have hw := wR_le n k
    have hw0 : 0 < wR n k := by unfold wR; split <;> omega
    refine ((runN (fRw_hold rfl hu hni (by omega) hlt) (rwMr_ok rfl hs hu hnk hni) (rw_round (decide (k ≠ 0)) s u hw0 hw)).weak (fun _ _ h => h) (fun exx a w h => .inl ⟨h.1, by omega, ?_⟩)) cc hc a w hp
    by_cases hr0 : r = 0
    · rw [if_pos hr0]
      exact rw_last hk h.2
    · rw [if_neg hr0, show decide (k + 1 ≠ 0) = true from decide_eq_true (by omega)]
      exact rw_next hnk hni hn (hnext hr0) h.2
  · intro cc hc a w ⟨_, hp⟩
    rw [Nat.sub_zero, if_pos rfl] at hp
    have hF : Facts.Hold ⟨[], [(.lss, pAe 16, .s 301, false)], []⟩ (nuMr nk zk ni zi n R) := by
      refine ⟨fun p hp => (by cases hp), fun p hp => ?_, fun p hp => by cases hp⟩
      simp only [List.mem_cons, List.not_mem_nil, or_false] at hp
      subst hp
      show decide (nuMr nk zk ni zi n R (pinA (tg 16)) < nuMr nk zk ni zi n R 301) = false
      rw [nuMr_A16, nuMr_n]
      exact decide_eq_false (by omega)
    exact ((runN hF (noE _) rw_out).weak (fun _ _ h => h) (fun exx a w h => ⟨by rw [h.1]; simp, h.1, h.2⟩)) cc hc a w hp
theorem rwK_val (hs : s.Fits nk) : (s.len (tg 2)).val (nuMr nk zk ni zi n 0) = (nk : Int) := by
  cases s
  · have h : nk = 0 := hs
    subst h; rfl
  · have h : nk = 0 := hs
    subst h; rfl
  · exact nuMr_L2
theorem rwI_val (hu : u.Fits ni) : (u.len (tg 4)).val (nuMr nk zk ni zi n 0) = (ni : Int) := by
  cases u
  · have h : ni = 0 := hu
    subst h; rfl
  · have h : ni = 0 := hu
    subst h; rfl
  · exact nuMr_L4
end
theorem rw_call {w : World} {vk vi : Value} {nk ni n : Nat} {zk zi : Wd} {s u : Hd} {pk pi : Option Pl} (hw : Laid gl256 w) (hck : Came w vk s nk zk pk) (hci : Came w vi u ni zi pi) (hnk : nk ≤ 1000) (hni : ni ≤ 1000) (hn : n ≤ 1000) :
    Calls Tryd.prog 11 #[vk, vi, .int .i64 (n : Int)] w fun e w' => e = .returned (.bool true) ∧ Below w.heap.size w w' := by
  have hs := hck.fits
  have hu := hci.fits
  let gp : Nat → Option Pl := fun b => if b = 64 then pk else if b = 65 then pi else none
  obtain ⟨va1, ga1⟩ := hck.here (ν := nuMr nk zk ni zi n 0) (gp := gp) (blk := 64) (T := tg 2) (by decide) rfl (tgT (by decide) (by decide)) (tg_Ke (by decide)) nuMr_L2 fun j hj => nuMr_B2 (by omega)
  obtain ⟨vb1, gb1⟩ := hci.here (ν := nuMr nk zk ni zi n 0) (gp := gp) (blk := 65) (T := tg 4) (by decide) rfl (tgT (by decide) (by decide)) (tg_Ke (by decide)) nuMr_L4 fun j hj => nuMr_B4 (by omega)
  have start := holdsX_start (N := 87) (ν := nuMr nk zk ni zi n 0) (L := []) (fx := []) (kp := []) (vs := #[vk, vi, .int .i64 (n : Int)]) (e0 := (rw0 s u).e) (H0 := hpR s u) (n0 := 66) gl256_ok (w := w) hw gp (by show 3 ≤ 87; decide) (by decide) (fun b hb => by show (if b = 64 then pk else if b = 65 then pi else none) = none; rw [if_neg (by omega), if_neg (by omega)]) (fun p hp => by cases hp)
    (fun p hp => by
      simp only [rw0, argR, List.mem_cons, List.not_mem_nil, or_false] at hp
      rcases hp with rfl | rfl | rfl
      · exact ⟨_, rfl, va1⟩
      · exact ⟨_, rfl, vb1⟩
      · exact ⟨_, rfl, vr_i nuMr_n⟩)
    (fun p hp => by
      rcases List.mem_append.1 hp with hp | hp
      · obtain ⟨q1, q2, pl, q3, q4⟩ := ga1 p hp
        exact ⟨by rw [q1]; decide, pl, by rw [q1]; exact q3, q4, fun h => by rw [q2] at h; cases h⟩
      · obtain ⟨q1, q2, pl, q3, q4⟩ := gb1 p hp
        exact ⟨by rw [q1]; decide, pl, by rw [q1]; exact q3, q4, fun h => by rw [q2] at h; cases h⟩)
    (fun p hp => by cases hp)
  refine ((callsX (L := []) (gl := gl256) (Q := fun v w' => v = .bool true ∧ Below w.heap.size w w') tab_ok (by kernel_rfl) rw_shape start ?_ : (∃ fn, Tryd.prog.funcs[11]? = some fn ∧ fn.body.isSome = true ∧ (fn.name == "runtime.NumGoroutine") = false) ∧ Calls Tryd.prog 11 #[vk, vi, .int .i64 (n : Int)] w fun e w' => ∃ v, e = .returned v ∧ v = .bool true ∧ Below w.heap.size w w')).2.mono fun e w' ⟨v, he, hv, hB⟩ => ⟨by rw [he, hv], hB⟩
  have hd := rw_head s u
  simp only [rwHead, Bool.and_eq_true] at hd
  obtain ⟨d1, d2, d3, d4, d5, d6⟩ := hd
  have hF2 : (fRwB s u).Hold (nuMr nk zk ni zi n 0) := by
    refine ⟨fun p hp => (by cases hp), fun p hp => ?_, fun p hp => by cases hp⟩
    simp only [fRwB, List.mem_cons, List.not_mem_nil, or_false] at hp
    rcases hp with rfl | rfl | rfl | rfl
    · show decide ((s.len (tg 2)).val (nuMr nk zk ni zi n 0) > ((1000 : Nat) : Int)) = false
      rw [rwK_val hs]
      exact decide_eq_false (by omega)
    · show decide ((u.len (tg 4)).val (nuMr nk zk ni zi n 0) > ((1000 : Nat) : Int)) = false
      rw [rwI_val hu]
      exact decide_eq_false (by omega)
    · show decide (nuMr nk zk ni zi n 0 301 < 0) = false
      rw [nuMr_n]
      exact decide_eq_false (by omega)
    · show decide (nuMr nk zk ni zi n 0 301 > ((1000 : Nat) : Int)) = false
      rw [nuMr_n]
      exact decide_eq_false (by omega)
  have hF4 : fRwD.Hold (nuMr nk zk ni zi n 0) := by
    refine ⟨fun p hp => (by cases hp), fun p hp => ?_, fun p hp => by cases hp⟩
    simp only [fRwD, List.mem_cons, List.not_mem_nil, or_false] at hp
    subst hp
    show (nuMr nk zk ni zi n 0 (pinL (tg 12)) != nuMr nk zk ni zi n 0 301) = false
    rw [nuMr_L12, nuMr_n]
    simp
  have hE : ∀ r ∈ rwEx s u, r.Ok (nuMr nk zk ni zi n 0) Tryd.prog gl256 := fun r hr => by
    simp only [rwEx, List.mem_cons, List.not_mem_nil, or_false] at hr
    subst hr
    exact rowEx_T (nk := nk) (zk := zk) (ni := ni) (zi := zi) (n := n) ((hd_text (t := 2) hs (tgT (by decide) (by decide)) (tg_Ke (by decide)) nuMr_L2 fun j hj => nuMr_B2 (by omega)).mono fun p hp => List.mem_append_left _ hp) ((hd_text (t := 4) hu (tgT (by decide) (by decide)) (tg_Ke (by decide)) nuMr_L4 fun j hj => nuMr_B4 (by omega)).mono fun p hp => List.mem_append_right _ hp) nuMr_n (by omega) (by omega) (by omega) (tgT (by decide) (by decide)) (tg_Ke (by decide)) nuMr_L12 fun j hj => nuMr_B12 (by omega)
  have hZ : ∀ r ∈ [rowWm], r.Ok (nuMr nk zk ni zi n ((n + 31) / 32)) Tryd.prog gl256 := fun r hr => by
    simp only [List.mem_cons, List.not_mem_nil, or_false] at hr
    subst hr
    exact rowWm_ok
  refine seqN (runN (none_f _) (noE _) d1) (seqN (runN hF2 (noE _) d2) (seqN (runN (none_f _) hE d3) (seqN (runN hF4 (noE _) d4) (seqN (runN (none_f _) (noE _) d5) (seqN (Mid := HoldsX 87 w (nuMr nk zk ni zi n ((n + 31) / 32)) gl256 [] [] [] rwX) ?_ ?_)))))
  · refine seqN (Mid := HoldsX 87 w (nuMr nk zk ni zi n 0) gl256 [] [] [] (if (n + 31) / 32 = 0 then rwX else rwN false s u (wR n 0))) ((runN (none_f _) (noE _) d6).weak (fun _ _ h => h) fun exx a w' h => ⟨h.1, ?_⟩) ?_
    · by_cases c : (n + 31) / 32 = 0
      · rw [if_pos c]
        exact rw_none h.2
      · rw [if_neg c]
        exact rw_open hn (by omega) h.2
    · refine Tri.block (rw_loop hs hu hnk hni hn (by omega) (by omega)) (fun a w h => by cases h.1) (fun a w h => ⟨rfl, h.2⟩) (fun j a w hj h => ?_) (fun a w h => by cases h.1)
      have := h.1
      simp only [Ex.exit.injEq] at this
      exact (hj this).elim
  · refine (runN (none_f _) hZ rw_z).weak (fun _ _ h => h) fun exx a w' h => ⟨.inr h.1, _, (⟨[(6, .b true)], [], 67⟩ : Now), _, [], [], h.2, rw_res, fun ρ v _ hh ho hB hv => ?_⟩
    cases hv
    exact ⟨rfl, ⟨hB.os, hB.tape, hB.output, hB.size, fun k hk => hB.block k hk fun p hp => by cases hp⟩⟩
/-! what is not played -/
noncomputable def rwNo (s u : Hd) (l : List Cm) : Bool := saysB ⟨[], l, []⟩ tree [] gl256 [] [] (s.gl0 64 ++ u.gl0 65) 66 60 4 11 [s.av0 64 300, u.av0 65 301, sI 302] (.b true)
theorem rw_no1 : ∀ u, rwNo .c u [(.gtr, .s 300, nA 1000, true)] = true := by intro u; cases u <;> kernel_rfl
theorem rw_no2 : ∀ s, rwNo s .c [(.gtr, .s 300, nA 1000, false), (.gtr, .s 301, nA 1000, true)] = true := by intro s; cases s <;> kernel_rfl
theorem rw_no3 : ∀ s u, rwNo s u [(.gtr, .s 300, nA 1000, false), (.gtr, .s 301, nA 1000, false), (.lss, .s 302, .c 0, true)] = true := by intro s u; cases s <;> cases u <;> kernel_rfl
theorem rw_no4 : ∀ s u, rwNo s u [(.gtr, .s 300, nA 1000, false), (.gtr, .s 301, nA 1000, false), (.lss, .s 302, .c 0, false), (.gtr, .s 302, nA 1000, true)] = true := by intro s u; cases s <;> cases u <;> kernel_rfl
def nu3r (n b m : Int) : Nat → Int := fun k => if k = 300 then n else if k = 301 then b else m
theorem big_c {s : Hd} {n : Nat} (h : s.Fits n) (h0 : 0 < n) : s = .c := by
  cases s
  · have h9 : n = 0 := h
    omega
  · have h9 : n = 0 := h
    omega
  · rfl
theorem macRows_law {W : World} (hL : Laid gl256 W) {vk : Value} {zs : List Int} (hvk : ReadsAs W .u8 vk zs) (hwk : ∀ z ∈ zs, (Lit.int .u8 z).wf = true) {vb : Value} {ys : List Int} (hvb : ReadsAs W .u8 vb ys) (hwb : ∀ z ∈ ys, (Lit.int .u8 z).wf = true) (m : Int) (_ : (Lit.int .i64 m).wf = true) :
    Calls Tryd.prog 11 #[vk, vb, .int .i64 m] W fun e W' => e = .returned (.bool true) ∧ Below W.heap.size W W' := by
  obtain ⟨s, nk, pk, ha, _⟩ := came_of hvk hwk
  obtain ⟨u, nb, pb, hb, _⟩ := came_of hvb hwb
  let gp : Nat → Option Pl := fun b => if b = 64 then pk else if b = 65 then pb else none
  have bad : ∀ l : List Cm, rwNo s u l = true → (∀ p ∈ l, compare p.1 (p.2.1.val (nu3r nk nb m)) (p.2.2.1.val (nu3r nk nb m)) = p.2.2.2) → Calls Tryd.prog 11 #[vk, vb, .int .i64 m] W fun e W' => e = .returned (.bool true) ∧ Below W.heap.size W W' := fun l hgo hl => by
    obtain ⟨va1, ga1⟩ := ha.here0 (ν := nu3r nk nb m) (gp := gp) (blk := 64) (k := 300) (by decide) rfl rfl
    obtain ⟨vb1, gb1⟩ := hb.here0 (ν := nu3r nk nb m) (gp := gp) (blk := 65) (k := 301) (by decide) rfl rfl
    refine yes_ofN (ν := nu3r nk nb m) (ρ := embF gp) (law_rowN gl256_ok (by decide) ⟨fun p hp => (by cases hp), hl, fun p hp => by cases hp⟩ (fun q hq => by cases hq) hgo (fun p hp => (List.mem_append.1 hp).elim (gl0_need (by decide) p) (gl0_need (by decide) p)) ?_) hL (fun p hp => (List.mem_append.1 hp).elim (ga1 p) (gb1 p)) (lr_of (vs := [vk, vb, .int .i64 m]) ⟨va1, vb1, .i .i64 (.s 302), trivial⟩)
    cases s <;> cases u <;> rfl
  by_cases c1 : 1000 < nk
  · have := big_c ha.fits (by omega)
    subst this
    refine bad _ (rw_no1 u) fun p hp => ?_
    simp only [List.mem_cons, List.not_mem_nil, or_false] at hp
    subst hp
    exact decide_eq_true (show (nk : Int) > ((1000 : Nat) : Int) by omega)
  have f1 : decide ((nk : Int) > ((1000 : Nat) : Int)) = false := decide_eq_false (by omega)
  by_cases c2 : 1000 < nb
  · have := big_c hb.fits (by omega)
    subst this
    refine bad _ (rw_no2 s) fun p hp => ?_
    simp only [List.mem_cons, List.not_mem_nil, or_false] at hp
    rcases hp with rfl | rfl
    · exact f1
    · exact decide_eq_true (show (nb : Int) > ((1000 : Nat) : Int) by omega)
  have f2 : decide ((nb : Int) > ((1000 : Nat) : Int)) = false := decide_eq_false (by omega)
  by_cases c3 : m < 0
  · refine bad _ (rw_no3 s u) fun p hp => ?_
    simp only [List.mem_cons, List.not_mem_nil, or_false] at hp
    rcases hp with rfl | rfl | rfl
    · exact f1
    · exact f2
    · exact decide_eq_true c3
  by_cases c4 : 1000 < m
  · refine bad _ (rw_no4 s u) fun p hp => ?_
    simp only [List.mem_cons, List.not_mem_nil, or_false] at hp
    rcases hp with rfl | rfl | rfl | rfl
    · exact f1
    · exact f2
    · exact decide_eq_false c3
    · exact decide_eq_true (show m > ((1000 : Nat) : Int) by omega)
  obtain ⟨k, rfl⟩ : ∃ k : Nat, m = (k : Int) := ⟨m.toNat, by omega⟩
  exact rw_call hL ha hb (by omega) (by omega) (by omega)

abbrev macRowsLaid : List (String × DataW Unit) := Rows.macRowsRow.laid
theorem macRows_met (os : Os) (args : Array Value) : laidMetH Tryd.prog macRowsLaid ((World.doorLaid Tryd.prog 400 os).forCall (fun _ _ => 0) ⟨#[], args, []⟩).memory :=
  laidMetH_of_parts3 (fuel := 8) (laidMet_of_run' 8 (by kernel_rfl) (by kernel_rfl)) (by kernel_rfl) (by kernel_rfl)

theorem macRows_lifted (os : Os) (started : os.Started) (H : Type) (enc : TypeId × Value → H) :
    ReturnsInHanded {} Tryd.checked os 11 .any (fun w args => (Rows.macRowsSpec.pre enc Tryd.prog Tryd.f11 [] false w args ∧ laidMetH Tryd.prog macRowsLaid w) ∧ sizedMet enc Tryd.prog Tryd.f11 (OpenSpec.ofChange Rows.macRowsSpec) false w args)
      (Rows.macRowsSpec.post enc Tryd.prog Tryd.f11 false true false false) := by
  refine returnsInHanded_of_change_and (C := Tryd.checked) (X := fun w _ => laidMetH Tryd.prog macRowsLaid w) (fun _ _ _ hh h => h.of_heap hh) own started (by kernel_rfl) Tryd.func11
    (ChangeSpec.witness_shaped (enc := enc) (C := Tryd.checked) (os := os) (X := fun w _ => laidMetH Tryd.prog macRowsLaid w) false (World.doorLaid Tryd.prog 400 os) #[.slice none 0 0, .slice none 0 0, .int .i64 0] 8 rfl (World.shaped_of_RefB (by kernel_rfl) (by kernel_rfl)) (by kernel_rfl) (by kernel_rfl) (by kernel_rfl) (macRows_met os _)) ?_
  intro W base args ds gs before hval0 hW _ _ hL _
  have hval : ∀ (j : Nat) t v, Tryd.f11.params[j]? = some t → args[j]? = some v → Value.okWide Tryd.prog W .any base t v := hval0
  have hW' := hW
  obtain ⟨p, q, hA0, hV, rfl, hfz, hnd⟩ := hW
  have hA : DataW.TrodAll enc Tryd.prog W 0 (fun _ => true) true Tryd.f11.params.toList args.toList ds p := hA0
  rw [Tryd.params11] at hA hval
  obtain ⟨v0, vs0, d0, ds0, p0, q0, hargs, rfl, rfl, h0, r0⟩ := trodAll_cons hA
  obtain ⟨v1, vs1, d1, ds1, p1, q1, rfl, rfl, rfl, h1, r1⟩ := trodAll_cons r0
  obtain ⟨v2, vs2, d2, ds2, p2, q2, rfl, rfl, rfl, h2, r2⟩ := trodAll_cons r1
  obtain ⟨rfl, rfl, rfl⟩ := trodAll_nil r2
  obtain rfl : args = #[v0, v1, v2] := by cases args; simp_all
  obtain ⟨rfl, rfl⟩ := trodVars_none hV
  obtain ⟨z0, k0, w0, _⟩ := reads_open Tryd.underlying22 Tryd.underlying5 cells1 (hval 0 _ v0 rfl rfl) h0
  obtain ⟨z1, k1, w1, _⟩ := reads_open Tryd.underlying22 Tryd.underlying5 cells1 (hval 1 _ v1 rfl rfl) h1
  obtain ⟨a2, rfl, rfl, rfl, b2⟩ := open_int Tryd.underlying3 (hval 2 _ v2 rfl rfl) h2
  have s2 := plain_int (H := H) Tryd.underlying3 b2
  clear hA0 hval0
  simp only [List.append_nil, List.nil_append] at hW'
  have hlt : ∀ x ∈ p0 ++ p1, x.block < W.heap.size := fun x hx => hW'.lt x hx
  refine (macRows_law (laidT hL) k0 w0 k1 w1 a2 b2).mono fun e W' ⟨he, hg⟩ => ?_
  subst he
  exact ⟨_, rfl, post_below (pa := p0 ++ p1) (pv := []) hW' (fun _ _ _ => trodAll_cons_mk (shut_bool Tryd.underlying4 _) trodAll_mk0) (fun sp hsp => (by have hh := (trodAll_cons_mk (kept_arg laidOut (by kernel_rfl) (of_decide_eq_true (by kernel_rfl)) h0 hg (fun x hx => hlt x (by simp [hx])) (fun x hx => hsp x (by simp [hx]))) (trodAll_cons_mk (kept_arg laidOut (by kernel_rfl) (of_decide_eq_true (by kernel_rfl)) h1 hg (fun x hx => hlt x (by simp [hx])) (fun x hx => hsp x (by simp [hx]))) (trodAll_cons_mk (s2 _ _ _ _ _) trodAll_mk0))); simp only [List.append_nil] at hh; exact hh)) (fun _ _ => rfl) (by simp)
    hg (ok_one (by kernel_rfl) rfl (okWide_bool_mk Tryd.underlying4 _))⟩

theorem macRows_over : Rows.MacRowsSaid :=
  OpenClaim.holds_of_wide 11 Tryd.f11 rfl rfl rfl rfl rfl rfl rfl ⟨rfl, rfl, rfl, rfl, rfl⟩ rfl rfl rfl rfl rfl (by kernel_rfl) Tryd.func11 (by kernel_rfl)
    (of_decide_eq_true (by kernel_rfl)) (by unfold Func.isWrapper; first | (rw [if_pos (by decide +kernel)]; kernel_rfl) | (rw [if_neg (by decide +kernel)]; exact ⟨rfl, rfl⟩))
    (fun os started H enc _ => macRows_lifted os started H enc)

/-- THE STATEMENT. -/
theorem macRows_holds : Rows.MacRowsCardSaid :=
  Claim7.holds_tied_plain_at .later [] [.data, .data] true (true, "eacd4a9b634becba1168d16158cd96469b7c30e91a6ec0f5f91653d0d1963b9e") false
    macRows_over (fun _ h => by cases h) (by kernel_rfl) (fun _ h => by cases h) macRows_row_tie rfl ⟨rfl, rfl⟩ (by kernel_rfl) rfl
    (fun f fn hf hfn => by
      obtain rfl : f = 11 := Option.some.inj ((show Tryd.prog.funcNamed "tryst/trystlaw02.MacRows" = some 11 by kernel_rfl).symm.trans hf) |>.symm
      obtain rfl : fn = Tryd.f11 := (Option.some.inj (Tryd.func11.symm.trans hfn)).symm
      exact ⟨by kernel_rfl, fun j t ht => by
        rw [Tryd.params11] at ht
        have hm : t ∈ [22, 22, 3] := by simpa using Array.mem_of_getElem? ht
        have hall : ([22, 22, 3].all fun u => !Tryd.prog.wantsStandIn u) = true := by kernel_rfl
        exact (show Tryd.prog.wantsStandIn t = false by simpa using List.all_eq_true.1 hall t hm)⟩)
    (by kernel_rfl)
#print axioms macRows_holds
end Go.Proofs.YtjdcaipgfolgoaaDoor
