/-
  MacNone: for all its arguments the law returns true, where the program's variables are laid as the program's text lays them. Conditions: none beside that one (the card ties it to the text).
-/
import Derived.Test.YtjdcaipgfolgoaaDoorXl
namespace Go.Proofs.YtjdcaipgfolgoaaDoor
open Go.Sh
open Go.ChangeShapes Go.WideShapes Go.ChangeAt Go.RowKit
set_option maxRecDepth 100000

def kz : Wd := fun _ => 0
theorem keyW_none {n : Nat} (h : n ≤ 64) : keyW n kz = kz := by
  funext j
  rw [keyW_short h]
  by_cases c : j < n
  · rw [if_pos c]
  · rw [if_neg c]; rfl
theorem keyW_nil {z : Wd} : keyW 0 z = kz := by
  funext j
  rw [keyW_short (by decide), if_neg (Nat.not_lt_zero j)]
  rfl
/-! three lengths: none, up to a block, more -/
def outN : AV := .ag (rowC .u8 (nmA 0) 32)
def zb64 (b : Nat) : Nat × ABlk := (b, ⟨rowC .u8 zeroA 64, eU, true⟩)
def madeA (v : Nat) : AV := if Nat.beq v 2 then .sl 66 0 (nA 64) (.ex 64) else slE 66 (tg 6) 0
def madeB (v : Nat) : Nat × ABlk := if Nat.beq v 2 then zb64 66 else (66, ⟨[], wg 6, true⟩)
def sumRow (x y : AV) (need : Gl) : RowM := ⟨20, [x, y], need, [.v outN]⟩
def nnM (s : Hd) (v : Nat) : List RowM := [sumRow .nsl (s.av 64 (tg 2)) (s.gl 64 (tg 2)), sumRow (madeA v) (s.av 64 (tg 2)) (madeB v :: s.gl 64 (tg 2)), rowEx .nsl .nsl (.s 301) [] (tg 8), rowEx (.sl 72 0 (nA 64) (.ex 64)) .nsl (.s 301) [zb64 72] (tg 8), rowEq (slO 68) (slO 69) [outB 68, outB 69], rowEq (slO 68) (slO 70) [outB 68, outB 70], rowWm] ++ (if Nat.beq v 0 then [] else [rowEq (sl8 71 8) (sl8 73 8) [pin8 71 8, pin8 73 8]])
def lnN (s : Hd) : AI := s.len (tg 2)
def fNn (s : Hd) (v : Nat) : Facts := ⟨[], [(.gtr, lnN s, nA 1000, false), (.lss, .s 301, .c 0, false), (.gtr, .s 301, nA 200, false), (.lss, nA 64, .s 301, Nat.beq v 2), (.eql, .s (pinL (tg 8)), .s 301, true), (.geq, .s 301, .c 0, true), (.eql, .s (pinA (tg 6)), .s (pinL (tg 6)), true), (.lss, .s (pinL (tg 6)), .c 1099511627776, true)] ++ (if Nat.beq v 0 then [(.neq, .s (pinL (tg 8)), .s (pinL (tg 8)), false), (.lss, .c 0, .s (pinL (tg 8)), false)] else []), [(301, [], 0, tg 6)]⟩
noncomputable def nnGo (s : Hd) (v : Nat) : Bool := saysB (fNn s v) tree [] gl256 [] (nnM s v) (s.gl 64 (tg 2)) 65 60 4 12 [s.av 64 (tg 2), sI 301] (.b true)
theorem nn_go0 : ∀ s, nnGo s 0 = true := by intro s; cases s <;> kernel_rfl
theorem nn_go1 : ∀ s, nnGo s 1 = true := by intro s; cases s <;> kernel_rfl
theorem nn_go2 : ∀ s, nnGo s 2 = true := by intro s; cases s <;> kernel_rfl
def nuNn (nb : Nat) (zb : Wd) (n : Nat) : Nat → Int := nuR (fun j => if j < 32 then hmac kz nb zb j else (n : Int)) (fun t => if t = 2 then nb else n) (fun _ => n) (fun t => if t = 2 then zb else if t = 6 then kz else exW kz 0 kz)
section
variable {nb n : Nat} {zb : Wd}
theorem nuNn_S {j : Nat} (h : j < 32) : nuNn nb zb n j = hmac kz nb zb j := (nuR_lo (by omega)).trans (if_pos h)
theorem nuNn_n : nuNn nb zb n 301 = n := (nuR_lo (by decide)).trans (if_neg (by decide))
theorem nuNn_b : nuNn nb zb n (pinL (tg 2)) = (nb : Int) := nuR_L (by decide)
theorem nuNn_L {t : Nat} (ht : 2 < t) : nuNn nb zb n (pinL (tg t)) = (n : Int) := by
  unfold nuNn
  rw [nuR_L (by omega), if_neg (by omega)]
theorem nuNn_A {t : Nat} (ht : 0 < t) : nuNn nb zb n (pinA (tg t)) = (n : Int) := nuR_A ht
theorem nuNn_B {t j : Nat} (ht : 0 < t) (hj : j < 1099511627774) : nuNn nb zb n (pinB (tg t) j) = (if t = 2 then zb else if t = 6 then kz else exW kz 0 kz) j := nuR_B ht hj
theorem lnN_val {s : Hd} (hs : s.Fits nb) : (lnN s).val (nuNn nb zb n) = (nb : Int) := by
  cases s
  · have h : nb = 0 := hs
    subst h; rfl
  · have h : nb = 0 := hs
    subst h; rfl
  · exact nuNn_b
theorem fNn_hold {s : Hd} {v : Nat} (hs : s.Fits nb) (h1 : nb ≤ 1000) (h2 : n ≤ 200) (hv : v = if n = 0 then 0 else if n ≤ 64 then 1 else 2) : (fNn s v).Hold (nuNn nb zb n) := by
  have base : ∀ p ∈ ([(.gtr, lnN s, nA 1000, false), (.lss, .s 301, .c 0, false), (.gtr, .s 301, nA 200, false), (.lss, nA 64, .s 301, Nat.beq v 2), (.eql, .s (pinL (tg 8)), .s 301, true), (.geq, .s 301, .c 0, true), (.eql, .s (pinA (tg 6)), .s (pinL (tg 6)), true), (.lss, .s (pinL (tg 6)), .c 1099511627776, true)] : List Cm), compare p.1 (p.2.1.val (nuNn nb zb n)) (p.2.2.1.val (nuNn nb zb n)) = p.2.2.2 := fun p hp => by
    simp only [List.mem_cons, List.not_mem_nil, or_false] at hp
    rcases hp with rfl | rfl | rfl | rfl | rfl | rfl | rfl | rfl
    · show decide ((lnN s).val (nuNn nb zb n) > ((1000 : Nat) : Int)) = false
      rw [lnN_val hs]
      exact decide_eq_false (by omega)
    · show decide (nuNn nb zb n 301 < 0) = false
      rw [nuNn_n]
      exact decide_eq_false (by omega)
    · show decide (nuNn nb zb n 301 > ((200 : Nat) : Int)) = false
      rw [nuNn_n]
      exact decide_eq_false (by omega)
    · show decide (((64 : Nat) : Int) < nuNn nb zb n 301) = Nat.beq v 2
      rw [nuNn_n, hv]
      by_cases c0 : n = 0
      · rw [if_pos c0]
        exact decide_eq_false (by omega)
      · rw [if_neg c0]
        by_cases c1 : n ≤ 64
        · rw [if_pos c1]
          exact decide_eq_false (by omega)
        · rw [if_neg c1]
          exact decide_eq_true (by omega)
    · show (nuNn nb zb n (pinL (tg 8)) == nuNn nb zb n 301) = true
      rw [nuNn_L (by decide), nuNn_n]
      exact beq_self_eq_true _
    · show decide (nuNn nb zb n 301 ≥ 0) = true
      rw [nuNn_n]
      exact decide_eq_true (by omega)
    · show (nuNn nb zb n (pinA (tg 6)) == nuNn nb zb n (pinL (tg 6))) = true
      rw [nuNn_A (by decide), nuNn_L (by decide)]
      exact beq_self_eq_true _
    · show decide (nuNn nb zb n (pinL (tg 6)) < 1099511627776) = true
      rw [nuNn_L (by decide)]
      exact decide_eq_true (by omega)
  refine ⟨fun p hp => (by cases hp), fun p hp => ?_, fun p hp => ?_⟩
  · rcases List.mem_append.1 hp with hp | hp
    · exact base p hp
    · by_cases c0 : n = 0
      · rw [hv, if_pos c0] at hp
        have hp : p ∈ ([(.neq, .s (pinL (tg 8)), .s (pinL (tg 8)), false), (.lss, .c 0, .s (pinL (tg 8)), false)] : List Cm) := hp
        simp only [List.mem_cons, List.not_mem_nil, or_false] at hp
        rcases hp with rfl | rfl
        · show (nuNn nb zb n (pinL (tg 8)) != nuNn nb zb n (pinL (tg 8))) = false
          simp
        · show decide (0 < nuNn nb zb n (pinL (tg 8))) = false
          rw [nuNn_L (by decide)]
          exact decide_eq_false (by omega)
      · rw [hv, if_neg c0] at hp
        by_cases c1 : n ≤ 64
        · rw [if_pos c1] at hp
          exact nomatch (show p ∈ ([] : List Cm) from hp)
        · rw [if_neg c1] at hp
          exact nomatch (show p ∈ ([] : List Cm) from hp)
  · have hp : p ∈ [(301, [], 0, tg 6)] := hp
    simp only [List.mem_cons, List.not_mem_nil, or_false] at hp
    subst hp
    refine ⟨by show 0 ≤ nuNn nb zb n (pinL (tg 6)); rw [nuNn_L (by decide)]; omega, ?_⟩
    have e9 : lst (nuNn nb zb n) (tg 6) = List.replicate n 0 := lst_all (nuNn_L (t := 6) (by decide)) fun j hj => (nuNn_B (t := 6) (by decide) (by omega)).trans rfl
    show lst _ (tg 6) = lst0 _ 301 ++ [].map _ ++ lst0 _ 0
    rw [lst0_zero, lst0_nought _ (by decide) (by decide), nuNn_n, e9, Int.toNat_natCast, List.map_nil, List.append_nil, List.append_nil]
theorem nnM_ok {s : Hd} {v : Nat} (hs : s.Fits nb) (h1 : nb ≤ 1000) (h2 : n ≤ 200) (hv : v = if n = 0 then 0 else if n ≤ 64 then 1 else 2) : ∀ r ∈ nnM s v, r.Ok (nuNn nb zb n) Tryd.prog gl256 := by
  have tb : IsText (nuNn nb zb n) (s.gl 64 (tg 2)) (s.av 64 (tg 2)) nb zb := hd_text (t := 2) hs (tgT (by decide) (by decide)) (tg_Ke (by decide)) nuNn_b fun j hj => nuNn_B (by decide) (by omega)
  have te : ∀ b, 0 < n → IsText (nuNn nb zb n) [pin8 71 8, pin8 73 8] (sl8 b 8) n (exW kz 0 kz) → True := fun _ _ _ => trivial
  have outT : ∀ {b : Nat} {need : Gl}, outB b ∈ need → IsText (nuNn nb zb n) need (slO b) 32 (hmac kz nb zb) := fun hm => outB_textG (fun j hj => nuNn_S hj) hm
  have res : ∀ j, j < 32 → (nmA 0 j).val (nuNn nb zb n) = hmac kz nb zb j := fun j hj => by rw [nm_val, Nat.zero_add]; exact nuNn_S hj
  have z64 : ∀ (b : Nat) (need : Gl), zb64 b ∈ need → IsText (nuNn nb zb n) need (.sl b 0 (nA 64) (.ex 64)) 64 kz := fun b need hm => isText_row (off := 0) (n := 64) (f := zeroA) hm (by decide) (by decide) (by decide) fun j _ => rfl
  intro r hr
  rcases List.mem_append.1 hr with hr | hr
  · simp only [List.mem_cons, List.not_mem_nil, or_false] at hr
    rcases hr with rfl | rfl | rfl | rfl | rfl | rfl | rfl
    · refine rowMac_T (nk := 0) (zk := kz) isText_nsl tb (by decide) (by omega) fun j hj => ?_
      rw [keyW_nil]
      exact res j hj
    · have made : ∃ m, m ≤ 64 ∧ IsText (nuNn nb zb n) (madeB v :: s.gl 64 (tg 2)) (madeA v) m kz := by
        by_cases c : n ≤ 64
        · have hv2 : Nat.beq v 2 = false := by
            rw [hv]
            by_cases c0 : n = 0
            · rw [if_pos c0]; rfl
            · rw [if_neg c0, if_pos c]; rfl
          refine ⟨n, c, ?_⟩
          unfold madeA madeB
          rw [hv2]
          exact isText_win (t := 6) (own := true) (k := .s (pinA (tg 6))) (l := .s (pinA (tg 6))) List.mem_cons_self (by decide) (tg_Ke (by decide)) rfl (nuNn_A (by decide)) (by rw [nuNn_L (by decide)]; exact Int.le_refl _) fun j hj => (nuNn_B (t := 6) (by decide) (by omega)).trans rfl
        · have hv2 : Nat.beq v 2 = true := by
            rw [hv, if_neg (by omega), if_neg c]; rfl
          refine ⟨64, Nat.le_refl _, ?_⟩
          unfold madeA madeB
          rw [hv2]
          exact z64 66 _ List.mem_cons_self
      obtain ⟨m, hm, ht⟩ := made
      refine rowMac_T (nk := m) (zk := kz) ht (tb.mono fun p hp => List.mem_cons_of_mem _ hp) (by omega) (by omega) fun j hj => ?_
      rw [keyW_none hm]
      exact res j hj
    · refine rowEx_T (nk := 0) (zk := kz) (ni := 0) (zi := kz) (n := n) isText_nsl isText_nsl nuNn_n (by decide) (by decide) (by omega) (tgT (by decide) (by decide)) (tg_Ke (by decide)) (nuNn_L (by decide)) fun j hj => ?_
      rw [keyW_nil, nuNn_B (by decide) (by omega)]
      rfl
    · refine rowEx_T (nk := 64) (zk := kz) (ni := 0) (zi := kz) (n := n) (z64 72 _ List.mem_cons_self) isText_nsl nuNn_n (by decide) (by decide) (by omega) (tgT (by decide) (by decide)) (tg_Ke (by decide)) (nuNn_L (by decide)) fun j hj => ?_
      rw [keyW_none (Nat.le_refl _), nuNn_B (by decide) (by omega)]
      rfl
    · exact rowEq_T (outT (by simp)) (outT (by simp)) (by decide) (by decide)
    · exact rowEq_T (outT (by simp)) (outT (by simp)) (by decide) (by decide)
    · exact rowWm_ok
  · by_cases c0 : n = 0
    · rw [hv, if_pos c0] at hr
      exact absurd hr (by simp)
    · have hv0 : Nat.beq v 0 = false := by
        rw [hv, if_neg c0]
        by_cases c1 : n ≤ 64
        · rw [if_pos c1]; rfl
        · rw [if_neg c1]; rfl
      rw [hv0] at hr
      simp only [Bool.false_eq_true, if_false, List.mem_cons, List.not_mem_nil, or_false] at hr
      subst hr
      have te : ∀ b, pin8 b 8 ∈ [pin8 71 8, pin8 73 8] → IsText (nuNn nb zb n) [pin8 71 8, pin8 73 8] (sl8 b 8) n (exW kz 0 kz) := fun b hm => isText_pin hm (tgT (by decide) (by decide)) (tg_Ke (by decide)) (by omega) (nuNn_L (by decide)) fun j hj => (nuNn_B (t := 8) (by decide) (by omega)).trans rfl
      exact rowEq_T (te 71 (by simp)) (te 73 (by simp)) (by omega) (by omega)
end
/-! what is not played -/
noncomputable def nnNo (s : Hd) (l : List Cm) : Bool := saysB ⟨[], l, []⟩ tree [] gl256 [] [] (s.gl0 64) 65 60 4 12 [s.av0 64 300, sI 301] (.b true)
theorem nn_no1 : nnNo .c [(.gtr, .s 300, nA 1000, true)] = true := by kernel_rfl
theorem nn_no2 : ∀ s, nnNo s [(.gtr, .s 300, nA 1000, false), (.lss, .s 301, .c 0, true)] = true := by intro s; cases s <;> kernel_rfl
theorem nn_no3 : ∀ s, nnNo s [(.gtr, .s 300, nA 1000, false), (.lss, .s 301, .c 0, false), (.gtr, .s 301, nA 200, true)] = true := by intro s; cases s <;> kernel_rfl
def nu2n (b n : Int) : Nat → Int := fun k => if k = 300 then b else n
theorem macNone_law {W : World} (hL : Laid gl256 W) {vb : Value} {zs : List Int} (hv : ReadsAs W .u8 vb zs) (hw : ∀ z ∈ zs, (Lit.int .u8 z).wf = true) (n : Int) (_ : (Lit.int .i64 n).wf = true) :
    Calls Tryd.prog 12 #[vb, .int .i64 n] W fun e W' => e = .returned (.bool true) ∧ Below W.heap.size W W' := by
  obtain ⟨s, nb, pb, hb, _⟩ := came_of hv hw
  let gp : Nat → Option Pl := fun b => if b = 64 then pb else none
  have bad : ∀ l : List Cm, nnNo s l = true → (∀ p ∈ l, compare p.1 (p.2.1.val (nu2n nb n)) (p.2.2.1.val (nu2n nb n)) = p.2.2.2) → Calls Tryd.prog 12 #[vb, .int .i64 n] W fun e W' => e = .returned (.bool true) ∧ Below W.heap.size W W' := fun l hgo hl => by
    obtain ⟨vb1, gb1⟩ := hb.here0 (ν := nu2n nb n) (gp := gp) (blk := 64) (k := 300) (by decide) rfl rfl
    refine yes_ofN (ν := nu2n nb n) (ρ := embF gp) (law_rowN gl256_ok (by decide) ⟨fun p hp => (by cases hp), hl, fun p hp => by cases hp⟩ (fun q hq => by cases hq) hgo (gl0_need (by decide)) ?_) hL gb1 (lr_of (vs := [vb, .int .i64 n]) ⟨vb1, .i .i64 (.s 301), trivial⟩)
    cases s <;> rfl
  by_cases c1 : 1000 < nb
  · have hsc : s = .c := by
      have := hb.fits
      cases s
      · have h9 : nb = 0 := this
        omega
      · have h9 : nb = 0 := this
        omega
      · rfl
    subst hsc
    refine bad _ nn_no1 fun p hp => ?_
    simp only [List.mem_cons, List.not_mem_nil, or_false] at hp
    subst hp
    exact decide_eq_true (show (nb : Int) > ((1000 : Nat) : Int) by omega)
  have f1 : decide ((nb : Int) > ((1000 : Nat) : Int)) = false := decide_eq_false (by omega)
  by_cases c2 : n < 0
  · refine bad _ (nn_no2 s) fun p hp => ?_
    simp only [List.mem_cons, List.not_mem_nil, or_false] at hp
    rcases hp with rfl | rfl
    · exact f1
    · exact decide_eq_true c2
  by_cases c3 : 200 < n
  · refine bad _ (nn_no3 s) fun p hp => ?_
    simp only [List.mem_cons, List.not_mem_nil, or_false] at hp
    rcases hp with rfl | rfl | rfl
    · exact f1
    · exact decide_eq_false c2
    · exact decide_eq_true (show n > ((200 : Nat) : Int) by omega)
  obtain ⟨k, rfl⟩ : ∃ k : Nat, n = (k : Int) := ⟨n.toNat, by omega⟩
  have hs := hb.fits
  obtain ⟨v, hv⟩ : ∃ v, v = if k = 0 then 0 else if k ≤ 64 then 1 else 2 := ⟨_, rfl⟩
  have hgo : nnGo s v = true := by
    rw [hv]
    by_cases d0 : k = 0
    · rw [if_pos d0]; exact nn_go0 s
    · rw [if_neg d0]
      by_cases d1 : k ≤ 64
      · rw [if_pos d1]; exact nn_go1 s
      · rw [if_neg d1]; exact nn_go2 s
  obtain ⟨vb1, gb1⟩ := hb.here (ν := nuNn nb (fun i => zs.getD i 0) k) (gp := gp) (blk := 64) (T := tg 2) (by decide) rfl (tgT (by decide) (by decide)) (tg_Ke (by decide)) nuNn_b fun j hj => nuNn_B (by decide) (by omega)
  refine yes_ofN (ν := nuNn nb (fun i => zs.getD i 0) k) (ρ := embF gp) (law_rowN gl256_ok (by decide) (fNn_hold hs (by omega) (by omega) hv) (nnM_ok hs (by omega) (by omega) hv) hgo (fun p hp => ?_) ?_) hL (fun p hp => ?_) (lr_of (vs := [vb, .int .i64 (k : Int)]) ⟨vb1, vr_i nuNn_n, trivial⟩)
  · obtain ⟨q1, _⟩ := gb1 p hp
    cases s
    · cases hp
    · cases hp
    · simp only [Hd.gl, List.mem_cons, List.not_mem_nil, or_false] at hp
      subst hp
      exact ⟨by decide, by decide, [], fun _ => rfl⟩
  · cases s <;> rfl
  · obtain ⟨q1, _, pl', q3, q4⟩ := gb1 p hp
    exact ⟨pl', by rw [q1]; exact (embF_other (by decide)).trans q3, q4.shut⟩

abbrev macNoneLaid : List (String × DataW Unit) := Rows.macNoneRow.laid
theorem macNone_met (os : Os) (args : Array Value) : laidMetH Tryd.prog macNoneLaid ((World.doorLaid Tryd.prog 400 os).forCall (fun _ _ => 0) ⟨#[], args, []⟩).memory :=
  laidMetH_of_parts3 (fuel := 8) (laidMet_of_run' 8 (by kernel_rfl) (by kernel_rfl)) (by kernel_rfl) (by kernel_rfl)

theorem macNone_lifted (os : Os) (started : os.Started) (H : Type) (enc : TypeId × Value → H) :
    ReturnsInHanded {} Tryd.checked os 12 .any (fun w args => (Rows.macNoneSpec.pre enc Tryd.prog Tryd.f12 [] false w args ∧ laidMetH Tryd.prog macNoneLaid w) ∧ sizedMet enc Tryd.prog Tryd.f12 (OpenSpec.ofChange Rows.macNoneSpec) false w args)
      (Rows.macNoneSpec.post enc Tryd.prog Tryd.f12 false true false false) := by
  refine returnsInHanded_of_change_and (C := Tryd.checked) (X := fun w _ => laidMetH Tryd.prog macNoneLaid w) (fun _ _ _ hh h => h.of_heap hh) own started (by kernel_rfl) Tryd.func12
    (ChangeSpec.witness_shaped (enc := enc) (C := Tryd.checked) (os := os) (X := fun w _ => laidMetH Tryd.prog macNoneLaid w) false (World.doorLaid Tryd.prog 400 os) #[.slice none 0 0, .int .i64 0] 8 rfl (World.shaped_of_RefB (by kernel_rfl) (by kernel_rfl)) (by kernel_rfl) (by kernel_rfl) (by kernel_rfl) (macNone_met os _)) ?_
  intro W base args ds gs before hval0 hW _ _ hL _
  have hval : ∀ (j : Nat) t v, Tryd.f12.params[j]? = some t → args[j]? = some v → Value.okWide Tryd.prog W .any base t v := hval0
  have hW' := hW
  obtain ⟨p, q, hA0, hV, rfl, hfz, hnd⟩ := hW
  have hA : DataW.TrodAll enc Tryd.prog W 0 (fun _ => true) true Tryd.f12.params.toList args.toList ds p := hA0
  rw [Tryd.params12] at hA hval
  obtain ⟨v0, vs0, d0, ds0, p0, q0, hargs, rfl, rfl, h0, r0⟩ := trodAll_cons hA
  obtain ⟨v1, vs1, d1, ds1, p1, q1, rfl, rfl, rfl, h1, r1⟩ := trodAll_cons r0
  obtain ⟨rfl, rfl, rfl⟩ := trodAll_nil r1
  obtain rfl : args = #[v0, v1] := by cases args; simp_all
  obtain ⟨rfl, rfl⟩ := trodVars_none hV
  obtain ⟨z0, k0, w0, _⟩ := reads_open Tryd.underlying22 Tryd.underlying5 cells1 (hval 0 _ v0 rfl rfl) h0
  obtain ⟨a1, rfl, rfl, rfl, b1⟩ := open_int Tryd.underlying3 (hval 1 _ v1 rfl rfl) h1
  have s1 := plain_int (H := H) Tryd.underlying3 b1
  clear hA0 hval0
  simp only [List.append_nil, List.nil_append] at hW'
  have hlt : ∀ x ∈ p0, x.block < W.heap.size := fun x hx => hW'.lt x hx
  refine (macNone_law (laidT hL) k0 w0 a1 b1).mono fun e W' ⟨he, hg⟩ => ?_
  subst he
  exact ⟨_, rfl, post_below (pa := p0) (pv := []) hW' (fun _ _ _ => trodAll_cons_mk (shut_bool Tryd.underlying4 _) trodAll_mk0) (fun sp hsp => (by have hh := (trodAll_cons_mk (kept_arg laidOut (by kernel_rfl) (of_decide_eq_true (by kernel_rfl)) h0 hg (fun x hx => hlt x (by simp [hx])) (fun x hx => hsp x (by simp [hx]))) (trodAll_cons_mk (s1 _ _ _ _ _) trodAll_mk0)); simp only [List.append_nil] at hh; exact hh)) (fun _ _ => rfl) (by simp)
    hg (ok_one (by kernel_rfl) rfl (okWide_bool_mk Tryd.underlying4 _))⟩

theorem macNone_over : Rows.MacNoneSaid :=
  OpenClaim.holds_of_wide 12 Tryd.f12 rfl rfl rfl rfl rfl rfl rfl ⟨rfl, rfl, rfl, rfl, rfl⟩ rfl rfl rfl rfl rfl (by kernel_rfl) Tryd.func12 (by kernel_rfl)
    (of_decide_eq_true (by kernel_rfl)) (by unfold Func.isWrapper; first | (rw [if_pos (by decide +kernel)]; kernel_rfl) | (rw [if_neg (by decide +kernel)]; exact ⟨rfl, rfl⟩))
    (fun os started H enc _ => macNone_lifted os started H enc)

/-- THE STATEMENT. -/
theorem macNone_holds : Rows.MacNoneCardSaid :=
  Claim7.holds_tied_plain_at .later [] [.data, .data] true (true, "eacd4a9b634becba1168d16158cd96469b7c30e91a6ec0f5f91653d0d1963b9e") false
    macNone_over (fun _ h => by cases h) (by kernel_rfl) (fun _ h => by cases h) macNone_row_tie rfl ⟨rfl, rfl⟩ (by kernel_rfl) rfl
    (fun f fn hf hfn => by
      obtain rfl : f = 12 := Option.some.inj ((show Tryd.prog.funcNamed "tryst/trystlaw02.MacNone" = some 12 by kernel_rfl).symm.trans hf) |>.symm
      obtain rfl : fn = Tryd.f12 := (Option.some.inj (Tryd.func12.symm.trans hfn)).symm
      exact ⟨by kernel_rfl, fun j t ht => by
        rw [Tryd.params12] at ht
        have hm : t ∈ [22, 3] := by simpa using Array.mem_of_getElem? ht
        have hall : ([22, 3].all fun u => !Tryd.prog.wantsStandIn u) = true := by kernel_rfl
        exact (show Tryd.prog.wantsStandIn t = false by simpa using List.all_eq_true.1 hall t hm)⟩)
    (by kernel_rfl)
#print axioms macNone_holds
end Go.Proofs.YtjdcaipgfolgoaaDoor
