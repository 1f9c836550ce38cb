/-
  MacKeys: for all its arguments the law returns true, where the program's variables are laid as the program's text lays them. Conditions: none beside that one (the card ties it to the text).
-/
import Derived.Test.YtjdcaipgfolgoaaDoorYb
import Derived.Test.YtjdcaipgfolgoaaDoorYc
import Derived.Test.YtjdcaipgfolgoaaDoorYd
import Derived.Test.YtjdcaipgfolgoaaDoorYe
import Derived.Test.YtjdcaipgfolgoaaDoorYf
namespace Go.Proofs.YtjdcaipgfolgoaaDoor
open Go.Sh
open Go.ChangeShapes Go.WideShapes Go.ChangeAt Go.RowKit
set_option maxRecDepth 100000

theorem ky_all : ∀ (s u : Hd) (i : Nat), i < 17 → kyF s u i = true
  | .c, .a => ky_ca
  | .c, .b => ky_cb
  | .c, .c => ky_cc
  | .a, .a => ky_aa
  | .a, .b => ky_ab
  | .a, .c => ky_ac
  | .b, .a => ky_ba
  | .b, .b => ky_bb
  | .b, .c => ky_bc
theorem ks_go {s u : Hd} {nk r : Nat} {e : Bool} (hs : s.Fits nk) (hr : r ≤ 64) (he : e = false → nk + r = 64) : ksGo s u r e = true := by
  have h := kyF_all (ky_all s u) hr
  have h0 : Nat.blt 64 r = false := by
    cases h9 : Nat.blt 64 r
    · rfl
    · have : 65 ≤ r := Nat.le_of_ble_eq_true h9
      omega
  unfold kyG at h
  rw [h0, Bool.false_or, Bool.and_eq_true] at h
  obtain ⟨q1, q2⟩ := h
  cases e
  · have h9 := he rfl
    have known : nk = 0 → (Nat.blt r 64 || ksGo s u r false) = true → ksGo s u r false = true := fun h0 h => by
      have : r = 64 := by omega
      subst this
      exact h
    cases s
    · exact known hs q2
    · exact known hs q2
    · exact q2
  · exact q1
def nuK (nk nb : Nat) (zk zb : Wd) (m : Int) : Nat → Int := nuR (fun j => if j < 32 then hmac (keyW nk zk) nb zb j else if j < 132 then sum256 zk nk (j - 100) else m) (fun t => if t = 4 then nb else nk) (fun _ => nk) (fun t => if t = 4 then zb else zk)
section
variable {nk nb : Nat} {zk zb : Wd} {m : Int}
theorem nuK_S {j : Nat} (h : j < 32) : nuK nk nb zk zb m j = hmac (keyW nk zk) nb zb j := (nuR_lo (by omega)).trans (if_pos h)
theorem nuK_H {j : Nat} (h : j < 32) : nuK nk nb zk zb m (100 + j) = sum256 zk nk j := by
  unfold nuK
  rw [nuR_lo (by omega), if_neg (by omega), if_pos (by omega), Nat.add_sub_cancel_left]
theorem nuK_m : nuK nk nb zk zb m 302 = m := (nuR_lo (by decide)).trans ((if_neg (by decide)).trans (if_neg (by decide)))
theorem nuK_L2 : nuK nk nb zk zb m (pinL (tg 2)) = (nk : Int) := nuR_L (by decide)
theorem nuK_L4 : nuK nk nb zk zb m (pinL (tg 4)) = (nb : Int) := nuR_L (by decide)
theorem nuK_L6 : nuK nk nb zk zb m (pinL (tg 6)) = (nk : Int) := nuR_L (by decide)
theorem nuK_A6 : nuK nk nb zk zb m (pinA (tg 6)) = (nk : Int) := nuR_A (by decide)
theorem nuK_B2 {j : Nat} (hj : j < 1099511627774) : nuK nk nb zk zb m (pinB (tg 2) j) = zk j := nuR_B (by decide) hj
theorem nuK_B4 {j : Nat} (hj : j < 1099511627774) : nuK nk nb zk zb m (pinB (tg 4) j) = zb j := nuR_B (by decide) hj
theorem nuK_B6 {j : Nat} (hj : j < 1099511627774) : nuK nk nb zk zb m (pinB (tg 6) j) = zk j := nuR_B (by decide) hj
theorem kLen_val {s : Hd} (hs : s.Fits nk) : (s.len (tg 2)).val (nuK nk nb zk zb m) = (nk : Int) := by
  cases s
  · have h : nk = 0 := hs
    subst h; rfl
  · have h : nk = 0 := hs
    subst h; rfl
  · exact nuK_L2
theorem bLen_val {u : Hd} (hu : u.Fits nb) : (u.len (tg 4)).val (nuK nk nb zk zb m) = (nb : Int) := by
  cases u
  · have h : nb = 0 := hu
    subst h; rfl
  · have h : nb = 0 := hu
    subst h; rfl
  · exact nuK_L4
theorem lenK_val {r : Nat} (h : nk + r ≤ 1000) : (lenE (pAe 6) r).val (nuK nk nb zk zb m) = ((nk + r : Nat) : Int) := by
  cases r with
  | zero => exact nuK_A6
  | succ r =>
    show IntKind.i64.wrap (nuK nk nb zk zb m (pinA (tg 6)) + ((r + 1 : Nat) : Int)) = _
    rw [nuK_A6, i64_small (by omega) (by omega)]
    omega
theorem baseK_hold {s u : Hd} (hs : s.Fits nk) (hu : u.Fits nb) (h1 : nk ≤ 1000) (h2 : nb ≤ 1000) (hm : 0 ≤ m) : ∀ p ∈ baseK s u, compare p.1 (p.2.1.val (nuK nk nb zk zb m)) (p.2.2.1.val (nuK nk nb zk zb m)) = p.2.2.2 := by
  intro p hp
  simp only [baseK, List.mem_cons, List.not_mem_nil, or_false] at hp
  rcases hp with rfl | rfl | rfl
  · show decide ((s.len (tg 2)).val (nuK nk nb zk zb m) > ((1000 : Nat) : Int)) = false
    rw [kLen_val hs]
    exact decide_eq_false (by omega)
  · show decide ((u.len (tg 4)).val (nuK nk nb zk zb m) > ((1000 : Nat) : Int)) = false
    rw [bLen_val hu]
    exact decide_eq_false (by omega)
  · show decide (nuK nk nb zk zb m 302 < 0) = false
    rw [nuK_m]
    exact decide_eq_false (by omega)
theorem klF_hold {u : Hd} (hu : u.Fits nb) (h0 : 64 < nk) (h1 : nk ≤ 1000) (h2 : nb ≤ 1000) (hm : 0 ≤ m) : (klF u).Hold (nuK nk nb zk zb m) := by
  refine ⟨fun p hp => (by cases hp), fun p hp => ?_, fun p hp => by cases hp⟩
  rcases List.mem_append.1 hp with hp | hp
  · exact baseK_hold (show Hd.c.Fits nk from show 0 < nk by omega) hu h1 h2 hm p hp
  · simp only [List.mem_cons, List.not_mem_nil, or_false] at hp
    subst hp
    show decide (nuK nk nb zk zb m (pinL (tg 2)) > ((64 : Nat) : Int)) = true
    rw [nuK_L2]
    exact decide_eq_true (by omega)
theorem ksF_hold {s u : Hd} {r : Nat} {e : Bool} (hs : s.Fits nk) (hu : u.Fits nb) (h1 : nk + r ≤ 64) (h2 : nb ≤ 1000) (hm : (r : Int) ≤ m) (he : e = true → m = (r : Int)) (he2 : e = false → (r : Int) < m ∧ nk + r = 64) : (ksF s u r e).Hold (nuK nk nb zk zb m) := by
  refine ⟨fun p hp => (by cases hp), fun p hp => ?_, fun p hp => ?_⟩
  · rcases List.mem_append.1 hp with hp | hp
    · exact baseK_hold hs hu (by omega) h2 (by omega) p hp
    rcases List.mem_append.1 hp with hp | hp
    · simp only [midK, List.mem_cons, List.not_mem_nil, or_false] at hp
      rcases hp with rfl | rfl | rfl | rfl
      · show decide ((s.len (tg 2)).val (nuK nk nb zk zb m) > ((64 : Nat) : Int)) = false
        rw [kLen_val hs]
        exact decide_eq_false (by omega)
      · show decide (nuK nk nb zk zb m (pinL (tg 2)) < 1099511627776) = true
        rw [nuK_L2]
        exact decide_eq_true (by omega)
      · show (nuK nk nb zk zb m (pinA (tg 6)) == nuK nk nb zk zb m (pinL (tg 6))) = true
        rw [nuK_A6, nuK_L6]
        exact beq_self_eq_true _
      · show decide (nuK nk nb zk zb m (pinL (tg 6)) < 1099511627776) = true
        rw [nuK_L6]
        exact decide_eq_true (by omega)
    rcases List.mem_append.1 hp with hp | hp
    · cases s
      · exact nomatch (show p ∈ ([] : List Cm) from hp)
      · exact nomatch (show p ∈ ([] : List Cm) from hp)
      · have h0 : 0 < nk := hs
        simp only [gtrK, List.mem_cons, List.not_mem_nil, or_false] at hp
        subst hp
        show decide (nuK nk nb zk zb m (pinL (tg 2)) > 0) = true
        rw [nuK_L2]
        exact decide_eq_true (by omega)
    rcases List.mem_append.1 hp with hp | hp
    · obtain ⟨i, hi, hp⟩ := List.mem_flatMap.1 hp
      have hi := List.mem_range.1 hi
      simp only [stepK, List.mem_cons, List.not_mem_nil, or_false] at hp
      rcases hp with rfl | rfl
      · show decide (((i : Nat) : Int) < nuK nk nb zk zb m 302) = true
        rw [nuK_m]
        exact decide_eq_true (by omega)
      · show decide ((lenE (pAe 6) i).val (nuK nk nb zk zb m) < ((64 : Nat) : Int)) = true
        rw [lenK_val (by omega)]
        exact decide_eq_true (by omega)
    · cases e
      · obtain ⟨q1, q2⟩ := he2 rfl
        have hp : p ∈ ([(.lss, nA r, .s 302, true), (.lss, lenE (pAe 6) r, nA 64, false)] : List Cm) := hp
        simp only [List.mem_cons, List.not_mem_nil, or_false] at hp
        rcases hp with rfl | rfl
        · show decide (((r : Nat) : Int) < nuK nk nb zk zb m 302) = true
          rw [nuK_m]
          exact decide_eq_true q1
        · show decide ((lenE (pAe 6) r).val (nuK nk nb zk zb m) < ((64 : Nat) : Int)) = false
          rw [lenK_val (by omega)]
          exact decide_eq_false (by omega)
      · have q1 := he rfl
        have hp : p ∈ ([(.lss, nA r, .s 302, false)] : List Cm) := hp
        simp only [List.mem_cons, List.not_mem_nil, or_false] at hp
        subst hp
        show decide (((r : Nat) : Int) < nuK nk nb zk zb m 302) = false
        rw [nuK_m]
        exact decide_eq_false (by omega)
  · have hp : p ∈ [(0, [], tg 2, tg 6)] := hp
    simp only [List.mem_cons, List.not_mem_nil, or_false] at hp
    subst hp
    refine ⟨by show 0 ≤ nuK nk nb zk zb m (pinL (tg 6)); rw [nuK_L6]; omega, ?_⟩
    show lst _ (tg 6) = lst0 _ 0 ++ [].map _ ++ lst0 _ (tg 2)
    rw [lst0_zero, lst0_row _ (by decide), List.map_nil, List.append_nil, List.nil_append]
    refine List.ext_getElem? fun j => ?_
    rw [lst_get nuK_L6, lst_get nuK_L2]
    by_cases c : j < nk
    · rw [if_pos c, if_pos c, nuK_B6 (by omega), nuK_B2 (by omega)]
    · rw [if_neg c, if_neg c]
theorem long_known {ν : Nat → Int} {r : Nat} : IsText ν (if Nat.beq r 0 then [] else [(66 + 2 * r, ⟨rowC .u8 zeroA r, eU, true⟩)]) (if Nat.beq r 0 then .nsl else .sl (66 + 2 * r) 0 (nA r) (.own 1)) r (fun _ => 0) := by
  cases r with
  | zero => exact isText_nsl
  | succ r =>
    show IsText ν [(66 + 2 * (r + 1), ⟨rowC .u8 zeroA (r + 1), eU, true⟩)] (.sl (66 + 2 * (r + 1)) 0 (nA (r + 1)) (.own 1)) (r + 1) (fun _ => 0)
    exact isText_row (off := 0) (n := r + 1) (f := zeroA) List.mem_cons_self (by decide) (by omega) (by omega) fun j _ => rfl
theorem ksM_ok {s u : Hd} {r : Nat} (hs : s.Fits nk) (hu : u.Fits nb) (h1 : nk + r ≤ 64) (h2 : nb ≤ 1000) : ∀ q ∈ ksM s u r, q.Ok (nuK nk nb zk zb m) Tryd.prog gl256 := by
  have tk : IsText (nuK nk nb zk zb m) (s.gl 64 (tg 2)) (kvK s) nk zk := hd_text (t := 2) hs (tgT (by decide) (by decide)) (tg_Ke (by decide)) nuK_L2 fun j hj => nuK_B2 (by omega)
  have tb : IsText (nuK nk nb zk zb m) (u.gl 65 (tg 4)) (bvK u) nb zb := hd_text (t := 4) hu (tgT (by decide) (by decide)) (tg_Ke (by decide)) nuK_L4 fun j hj => nuK_B4 (by omega)
  have outT : ∀ {b : Nat} {need : Gl}, outB b ∈ need → IsText (nuK nk nb zk zb m) need (slO b) 32 (hmac (keyW nk zk) nb zb) := fun hm => outB_textG (fun j hj => nuK_S hj) hm
  have res : ∀ j, j < 32 → (nmA 0 j).val (nuK nk nb zk zb m) = hmac (keyW nk zk) nb zb j := fun j hj => by rw [nm_val, Nat.zero_add]; exact nuK_S hj
  have ekey : ∀ z : Wd, (∀ j, j < nk + r → z j = if j < nk then zk j else 0) → keyW (nk + r) z = keyW nk zk := fun z hz => by
    funext j
    rw [keyW_short (by omega), keyW_short (by omega)]
    by_cases c : j < nk + r
    · rw [if_pos c, hz j c]
    · rw [if_neg c, if_neg (by omega)]
  have long : ∃ z, IsText (nuK nk nb zk zb m) (longB s r) (longA s r) (nk + r) z ∧ keyW (nk + r) z = keyW nk zk := by
    have known : nk = 0 → ∀ {need : Gl} {x : AV}, IsText (nuK nk nb zk zb m) need x r (fun _ => 0) → ∃ z, IsText (nuK nk nb zk zb m) need x (nk + r) z ∧ keyW (nk + r) z = keyW nk zk := fun h0 {need x} ht => by
      refine ⟨fun _ => 0, ?_, ekey _ fun j _ => by rw [if_neg (by omega)]⟩
      rw [show nk + r = r by omega]
      exact ht
    cases s
    · exact known hs long_known
    · exact known hs long_known
    · have h0 : 0 < nk := hs
      refine ⟨fun j => if j < nk then zk j else 0, ?_, ekey _ fun j _ => rfl⟩
      exact isText_winG (b := 67 + 2 * r) (t := 6) (a := nk) (wd := r) (own := true) (cap := .own 1) (k := pAe 6) (l := lenE (pAe 6) r) (h := zeroA) List.mem_cons_self (by decide) (tg_Ke (by decide)) rfl nuK_A6 nuK_L6 (lenK_val (by omega)) (fun j hj => (nuK_B6 (by omega)).trans (if_pos hj).symm) (fun j _ => (if_neg (by omega)).symm) (by omega)
  intro q hq
  simp only [ksM, List.mem_cons, List.not_mem_nil, or_false] at hq
  rcases hq with rfl | rfl | rfl | rfl
  · exact rowMac_T (nk := nk) (zk := zk) (tk.mono fun p hp => List.mem_append_left _ hp) (tb.mono fun p hp => List.mem_append_right _ hp) (by omega) (by omega) res
  · obtain ⟨z, tl, ez⟩ := long
    refine rowMac_T (nk := nk + r) (zk := z) (tl.mono fun p hp => List.mem_append_left _ hp) (tb.mono fun p hp => List.mem_append_right _ hp) (by omega) (by omega) fun j hj => ?_
    rw [ez]
    exact res j hj
  · exact rowEq_T (outT (by simp)) (outT (by simp)) (by decide) (by decide)
  · exact rowWm_ok
theorem klM_ok {u : Hd} (hu : u.Fits nb) (h0 : 64 < nk) (h1 : nk ≤ 1000) (h2 : nb ≤ 1000) : ∀ q ∈ klM u, q.Ok (nuK nk nb zk zb m) Tryd.prog gl256 := by
  have tk : IsText (nuK nk nb zk zb m) (Hd.c.gl 64 (tg 2)) (kvK .c) nk zk := hd_text (t := 2) (u := .c) (show 0 < nk by omega) (tgT (by decide) (by decide)) (tg_Ke (by decide)) nuK_L2 fun j hj => nuK_B2 (by omega)
  have tb : IsText (nuK nk nb zk zb m) (u.gl 65 (tg 4)) (bvK u) nb zb := hd_text (t := 4) hu (tgT (by decide) (by decide)) (tg_Ke (by decide)) nuK_L4 fun j hj => nuK_B4 (by omega)
  have outT : ∀ {b : Nat} {need : Gl}, outB b ∈ need → IsText (nuK nk nb zk zb m) need (slO b) 32 (hmac (keyW nk zk) nb zb) := fun hm => outB_textG (fun j hj => nuK_S hj) hm
  have res : ∀ j, j < 32 → (nmA 0 j).val (nuK nk nb zk zb m) = hmac (keyW nk zk) nb zb j := fun j hj => by rw [nm_val, Nat.zero_add]; exact nuK_S hj
  have th : IsText (nuK nk nb zk zb m) (outH 67 :: u.gl 65 (tg 4)) (slO 67) 32 (sum256 zk nk) := isText_row (off := 0) (n := 32) (f := nmA 100) List.mem_cons_self (by decide) (by decide) (by decide) fun j hj => by
    show nuK nk nb zk zb m (100 + (0 + j)) = _
    rw [Nat.zero_add]
    exact nuK_H hj
  have ek : keyW 32 (sum256 zk nk) = keyW nk zk := by
    funext j
    rw [keyW_short (by decide), keyW_long h0]
  intro q hq
  simp only [klM, List.mem_cons, List.not_mem_nil, or_false] at hq
  rcases hq with rfl | rfl | rfl | rfl | rfl
  · exact rowMac_T (nk := nk) (zk := zk) (tk.mono fun p hp => List.mem_append_left _ hp) (tb.mono fun p hp => List.mem_append_right _ hp) (by omega) (by omega) res
  · exact rowS_T tk (by omega) fun j hj => nuK_H hj
  · refine rowMac_T (nk := 32) (zk := sum256 zk nk) th (tb.mono fun p hp => List.mem_cons_of_mem _ hp) (by decide) (by omega) fun j hj => ?_
    rw [ek]
    exact res j hj
  · exact rowEq_T (outT (by simp)) (outT (by simp)) (by decide) (by decide)
  · exact rowWm_ok
end
/-! what is not played -/
noncomputable def kyNo (s u : Hd) (l : List Cm) : Bool := saysB ⟨[], l, []⟩ tree [] gl256 [] [] (s.gl0 64 ++ u.gl0 65) 66 60 4 9 [s.av0 64 300, u.av0 65 301, sI 302] (.b true)
theorem ky_no1 : ∀ u, kyNo .c u [(.gtr, .s 300, nA 1000, true)] = true := by intro u; cases u <;> kernel_rfl
theorem ky_no2 : ∀ s, kyNo s .c [(.gtr, .s 300, nA 1000, false), (.gtr, .s 301, nA 1000, true)] = true := by intro s; cases s <;> kernel_rfl
theorem ky_no3 : ∀ s u, kyNo s u [(.gtr, .s 300, nA 1000, false), (.gtr, .s 301, nA 1000, false), (.lss, .s 302, .c 0, true)] = true := by intro s u; cases s <;> cases u <;> kernel_rfl
def nu3k (n b m : Int) : Nat → Int := fun k => if k = 300 then n else if k = 301 then b else m
theorem big_c {s : Hd} {n : Nat} (h : s.Fits n) (h0 : 0 < n) : s = .c := by
  cases s
  · have h9 : n = 0 := h
    omega
  · have h9 : n = 0 := h
    omega
  · rfl
theorem hd_need {s : Hd} {blk t n : Nat} (h : blk < n) (ht : 0 < t) : ∀ p ∈ s.gl blk (tg t), p.1 < n ∧ p.2.elem ≠ mapTag ∧ ∃ us, ∀ ν, concL ν p.2.cells = some us := fun p hp => by
  cases s
  · cases hp
  · cases hp
  · simp only [Hd.gl, List.mem_cons, List.not_mem_nil, or_false] at hp
    subst hp
    exact ⟨h, show tg t ≠ mapTag by unfold tg mapTag; omega, [], fun _ => rfl⟩
theorem macKeys_law {W : World} (hL : Laid gl256 W) {vk : Value} {zs : List Int} (hvk : ReadsAs W .u8 vk zs) (hwk : ∀ z ∈ zs, (Lit.int .u8 z).wf = true) {vb : Value} {ys : List Int} (hvb : ReadsAs W .u8 vb ys) (hwb : ∀ z ∈ ys, (Lit.int .u8 z).wf = true) (m : Int) (_ : (Lit.int .i64 m).wf = true) :
    Calls Tryd.prog 9 #[vk, vb, .int .i64 m] W fun e W' => e = .returned (.bool true) ∧ Below W.heap.size W W' := by
  obtain ⟨s, nk, pk, ha, _⟩ := came_of hvk hwk
  obtain ⟨u, nb, pb, hb, _⟩ := came_of hvb hwb
  let gp : Nat → Option Pl := fun b => if b = 64 then pk else if b = 65 then pb else none
  have bad : ∀ l : List Cm, kyNo s u l = true → (∀ p ∈ l, compare p.1 (p.2.1.val (nu3k nk nb m)) (p.2.2.1.val (nu3k nk nb m)) = p.2.2.2) → Calls Tryd.prog 9 #[vk, vb, .int .i64 m] W fun e W' => e = .returned (.bool true) ∧ Below W.heap.size W W' := fun l hgo hl => by
    obtain ⟨va1, ga1⟩ := ha.here0 (ν := nu3k nk nb m) (gp := gp) (blk := 64) (k := 300) (by decide) rfl rfl
    obtain ⟨vb1, gb1⟩ := hb.here0 (ν := nu3k nk nb m) (gp := gp) (blk := 65) (k := 301) (by decide) rfl rfl
    refine yes_ofN (ν := nu3k nk nb m) (ρ := embF gp) (law_rowN gl256_ok (by decide) ⟨fun p hp => (by cases hp), hl, fun p hp => by cases hp⟩ (fun q hq => by cases hq) hgo (fun p hp => (List.mem_append.1 hp).elim (gl0_need (by decide) p) (gl0_need (by decide) p)) ?_) hL (fun p hp => (List.mem_append.1 hp).elim (ga1 p) (gb1 p)) (lr_of (vs := [vk, vb, .int .i64 m]) ⟨va1, vb1, .i .i64 (.s 302), trivial⟩)
    cases s <;> cases u <;> rfl
  by_cases c1 : 1000 < nk
  · have := big_c ha.fits (by omega)
    subst this
    refine bad _ (ky_no1 u) fun p hp => ?_
    simp only [List.mem_cons, List.not_mem_nil, or_false] at hp
    subst hp
    exact decide_eq_true (show (nk : Int) > ((1000 : Nat) : Int) by omega)
  have f1 : decide ((nk : Int) > ((1000 : Nat) : Int)) = false := decide_eq_false (by omega)
  by_cases c2 : 1000 < nb
  · have := big_c hb.fits (by omega)
    subst this
    refine bad _ (ky_no2 s) fun p hp => ?_
    simp only [List.mem_cons, List.not_mem_nil, or_false] at hp
    rcases hp with rfl | rfl
    · exact f1
    · exact decide_eq_true (show (nb : Int) > ((1000 : Nat) : Int) by omega)
  have f2 : decide ((nb : Int) > ((1000 : Nat) : Int)) = false := decide_eq_false (by omega)
  by_cases c3 : m < 0
  · refine bad _ (ky_no3 s u) fun p hp => ?_
    simp only [List.mem_cons, List.not_mem_nil, or_false] at hp
    rcases hp with rfl | rfl | rfl
    · exact f1
    · exact f2
    · exact decide_eq_true c3
  have fin : ∀ {F : Facts} {TM : List RowM} {fuel : Nat}, F.Hold (nuK nk nb (fun i => zs.getD i 0) (fun i => ys.getD i 0) m) → (∀ q ∈ TM, q.Ok (nuK nk nb (fun i => zs.getD i 0) (fun i => ys.getD i 0) m) Tryd.prog gl256) → saysB F tree [] gl256 [] TM (hp2 s u) 66 fuel 4 9 [kvK s, bvK u, sI 302] (.b true) = true → Calls Tryd.prog 9 #[vk, vb, .int .i64 m] W fun e W' => e = .returned (.bool true) ∧ Below W.heap.size W W' := fun {F TM fuel} hF hTM hgo => by
    obtain ⟨va1, ga1⟩ := ha.here (ν := nuK nk nb (fun i => zs.getD i 0) (fun i => ys.getD i 0) m) (gp := gp) (blk := 64) (T := tg 2) (by decide) rfl (tgT (by decide) (by decide)) (tg_Ke (by decide)) nuK_L2 fun j hj => nuK_B2 (by omega)
    obtain ⟨vb1, gb1⟩ := hb.here (ν := nuK nk nb (fun i => zs.getD i 0) (fun i => ys.getD i 0) m) (gp := gp) (blk := 65) (T := tg 4) (by decide) rfl (tgT (by decide) (by decide)) (tg_Ke (by decide)) nuK_L4 fun j hj => nuK_B4 (by omega)
    refine yes_ofN (ν := nuK nk nb (fun i => zs.getD i 0) (fun i => ys.getD i 0) m) (ρ := embF gp) (law_rowF gl256_ok (by decide) hF hTM hgo (fun p hp => (List.mem_append.1 hp).elim (hd_need (by decide) (by decide) p) (hd_need (by decide) (by decide) p)) ?_) hL (fun p hp => ?_) (lr_of (vs := [vk, vb, .int .i64 m]) ⟨va1, vb1, vr_i nuK_m, trivial⟩)
    · cases s <;> cases u <;> rfl
    · rcases List.mem_append.1 hp with hp | hp
      · obtain ⟨q1, _, pl', q3, q4⟩ := ga1 p hp
        exact ⟨pl', by rw [q1]; exact (embF_other (by decide)).trans q3, q4.shut⟩
      · obtain ⟨q1, _, pl', q3, q4⟩ := gb1 p hp
        exact ⟨pl', by rw [q1]; exact (embF_other (by decide)).trans q3, q4.shut⟩
  have hs := ha.fits
  have hu := hb.fits
  by_cases c4 : 64 < nk
  · have := big_c hs (by omega)
    subst this
    exact fin (klF_hold hu c4 (by omega) (by omega) (by omega)) (klM_ok hu c4 (by omega) (by omega)) (kl_go u)
  obtain ⟨k, rfl⟩ : ∃ k : Nat, m = (k : Int) := ⟨m.toNat, by omega⟩
  by_cases c5 : nk + k ≤ 64
  · exact fin (ksF_hold (r := k) (e := true) hs hu c5 (by omega) (by omega) (fun _ => rfl) (fun h => by cases h)) (ksM_ok hs hu c5 (by omega)) (ks_go hs (by omega) (fun h => by cases h))
  · exact fin (ksF_hold (r := 64 - nk) (e := false) hs hu (by omega) (by omega) (by omega) (fun h => by cases h) (fun _ => ⟨by omega, by omega⟩)) (ksM_ok hs hu (by omega) (by omega)) (ks_go hs (by omega) (fun _ => by omega))

abbrev macKeysLaid : List (String × DataW Unit) := Rows.macKeysRow.laid
theorem macKeys_met (os : Os) (args : Array Value) : laidMetH Tryd.prog macKeysLaid ((World.doorLaid Tryd.prog 400 os).forCall (fun _ _ => 0) ⟨#[], args, []⟩).memory :=
  laidMetH_of_parts3 (fuel := 8) (laidMet_of_run' 8 (by kernel_rfl) (by kernel_rfl)) (by kernel_rfl) (by kernel_rfl)

theorem macKeys_lifted (os : Os) (started : os.Started) (H : Type) (enc : TypeId × Value → H) :
    ReturnsInHanded {} Tryd.checked os 9 .any (fun w args => (Rows.macKeysSpec.pre enc Tryd.prog Tryd.f9 [] false w args ∧ laidMetH Tryd.prog macKeysLaid w) ∧ sizedMet enc Tryd.prog Tryd.f9 (OpenSpec.ofChange Rows.macKeysSpec) false w args)
      (Rows.macKeysSpec.post enc Tryd.prog Tryd.f9 false true false false) := by
  refine returnsInHanded_of_change_and (C := Tryd.checked) (X := fun w _ => laidMetH Tryd.prog macKeysLaid w) (fun _ _ _ hh h => h.of_heap hh) own started (by kernel_rfl) Tryd.func9
    (ChangeSpec.witness_shaped (enc := enc) (C := Tryd.checked) (os := os) (X := fun w _ => laidMetH Tryd.prog macKeysLaid w) false (World.doorLaid Tryd.prog 400 os) #[.slice none 0 0, .slice none 0 0, .int .i64 0] 8 rfl (World.shaped_of_RefB (by kernel_rfl) (by kernel_rfl)) (by kernel_rfl) (by kernel_rfl) (by kernel_rfl) (macKeys_met os _)) ?_
  intro W base args ds gs before hval0 hW _ _ hL _
  have hval : ∀ (j : Nat) t v, Tryd.f9.params[j]? = some t → args[j]? = some v → Value.okWide Tryd.prog W .any base t v := hval0
  have hW' := hW
  obtain ⟨p, q, hA0, hV, rfl, hfz, hnd⟩ := hW
  have hA : DataW.TrodAll enc Tryd.prog W 0 (fun _ => true) true Tryd.f9.params.toList args.toList ds p := hA0
  rw [Tryd.params9] at hA hval
  obtain ⟨v0, vs0, d0, ds0, p0, q0, hargs, rfl, rfl, h0, r0⟩ := trodAll_cons hA
  obtain ⟨v1, vs1, d1, ds1, p1, q1, rfl, rfl, rfl, h1, r1⟩ := trodAll_cons r0
  obtain ⟨v2, vs2, d2, ds2, p2, q2, rfl, rfl, rfl, h2, r2⟩ := trodAll_cons r1
  obtain ⟨rfl, rfl, rfl⟩ := trodAll_nil r2
  obtain rfl : args = #[v0, v1, v2] := by cases args; simp_all
  obtain ⟨rfl, rfl⟩ := trodVars_none hV
  obtain ⟨z0, k0, w0, _⟩ := reads_open Tryd.underlying22 Tryd.underlying5 cells1 (hval 0 _ v0 rfl rfl) h0
  obtain ⟨z1, k1, w1, _⟩ := reads_open Tryd.underlying22 Tryd.underlying5 cells1 (hval 1 _ v1 rfl rfl) h1
  obtain ⟨a2, rfl, rfl, rfl, b2⟩ := open_int Tryd.underlying3 (hval 2 _ v2 rfl rfl) h2
  have s2 := plain_int (H := H) Tryd.underlying3 b2
  clear hA0 hval0
  simp only [List.append_nil, List.nil_append] at hW'
  have hlt : ∀ x ∈ p0 ++ p1, x.block < W.heap.size := fun x hx => hW'.lt x hx
  refine (macKeys_law (laidT hL) k0 w0 k1 w1 a2 b2).mono fun e W' ⟨he, hg⟩ => ?_
  subst he
  exact ⟨_, rfl, post_below (pa := p0 ++ p1) (pv := []) hW' (fun _ _ _ => trodAll_cons_mk (shut_bool Tryd.underlying4 _) trodAll_mk0) (fun sp hsp => (by have hh := (trodAll_cons_mk (kept_arg laidOut (by kernel_rfl) (of_decide_eq_true (by kernel_rfl)) h0 hg (fun x hx => hlt x (by simp [hx])) (fun x hx => hsp x (by simp [hx]))) (trodAll_cons_mk (kept_arg laidOut (by kernel_rfl) (of_decide_eq_true (by kernel_rfl)) h1 hg (fun x hx => hlt x (by simp [hx])) (fun x hx => hsp x (by simp [hx]))) (trodAll_cons_mk (s2 _ _ _ _ _) trodAll_mk0))); simp only [List.append_nil] at hh; exact hh)) (fun _ _ => rfl) (by simp)
    hg (ok_one (by kernel_rfl) rfl (okWide_bool_mk Tryd.underlying4 _))⟩

theorem macKeys_over : Rows.MacKeysSaid :=
  OpenClaim.holds_of_wide 9 Tryd.f9 rfl rfl rfl rfl rfl rfl rfl ⟨rfl, rfl, rfl, rfl, rfl⟩ rfl rfl rfl rfl rfl (by kernel_rfl) Tryd.func9 (by kernel_rfl)
    (of_decide_eq_true (by kernel_rfl)) (by unfold Func.isWrapper; first | (rw [if_pos (by decide +kernel)]; kernel_rfl) | (rw [if_neg (by decide +kernel)]; exact ⟨rfl, rfl⟩))
    (fun os started H enc _ => macKeys_lifted os started H enc)

/-- THE STATEMENT. -/
theorem macKeys_holds : Rows.MacKeysCardSaid :=
  Claim7.holds_tied_plain_at .later [] [.data, .data] true (true, "eacd4a9b634becba1168d16158cd96469b7c30e91a6ec0f5f91653d0d1963b9e") false
    macKeys_over (fun _ h => by cases h) (by kernel_rfl) (fun _ h => by cases h) macKeys_row_tie rfl ⟨rfl, rfl⟩ (by kernel_rfl) rfl
    (fun f fn hf hfn => by
      obtain rfl : f = 9 := Option.some.inj ((show Tryd.prog.funcNamed "tryst/trystlaw02.MacKeys" = some 9 by kernel_rfl).symm.trans hf) |>.symm
      obtain rfl : fn = Tryd.f9 := (Option.some.inj (Tryd.func9.symm.trans hfn)).symm
      exact ⟨by kernel_rfl, fun j t ht => by
        rw [Tryd.params9] at ht
        have hm : t ∈ [22, 22, 3] := by simpa using Array.mem_of_getElem? ht
        have hall : ([22, 22, 3].all fun u => !Tryd.prog.wantsStandIn u) = true := by kernel_rfl
        exact (show Tryd.prog.wantsStandIn t = false by simpa using List.all_eq_true.1 hall t hm)⟩)
    (by kernel_rfl)
#print axioms macKeys_holds
end Go.Proofs.YtjdcaipgfolgoaaDoor
