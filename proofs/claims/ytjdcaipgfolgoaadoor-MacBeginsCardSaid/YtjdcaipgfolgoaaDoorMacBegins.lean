/-
  MacBegins: for all its arguments the law returns true, where the program's variables are laid as the program's text lays them. Conditions: none beside that one (the card ties it to the text).
-/
import Derived.Test.YtjdcaipgfolgoaaDoorYh
import Derived.Test.YtjdcaipgfolgoaaDoorYi
import Derived.Test.YtjdcaipgfolgoaaDoorYj
import Derived.Test.YtjdcaipgfolgoaaDoorYk
import Derived.Test.YtjdcaipgfolgoaaDoorYl
import Derived.Test.YtjdcaipgfolgoaaDoorYm
namespace Go.Proofs.YtjdcaipgfolgoaaDoor
open Go.Sh
open Go.ChangeShapes Go.WideShapes Go.ChangeAt Go.RowKit
set_option maxRecDepth 100000

theorem bg_all : ∀ (s u : Hd) (z : Bool) (i : Nat), i < 9 → bgP s u z i = true
  | .a, .a, false => bg_aaf
  | .a, .a, true => bg_aat
  | .a, .b, false => bg_abf
  | .a, .b, true => bg_abt
  | .a, .c, false => bg_acf
  | .a, .c, true => bg_act
  | .b, .a, false => bg_baf
  | .b, .a, true => bg_bat
  | .b, .b, false => bg_bbf
  | .b, .b, true => bg_bbt
  | .b, .c, false => bg_bcf
  | .b, .c, true => bg_bct
  | .c, .a, false => bg_caf
  | .c, .a, true => bg_cat
  | .c, .b, false => bg_cbf
  | .c, .b, true => bg_cbt
  | .c, .c, false => bg_ccf
  | .c, .c, true => bg_cct
theorem bg_go {s u : Hd} {z : Bool} {r : Nat} {e : Bool} (hr : r ≤ 32) (he : e = true → r = 32) : bgGo s u z r e = true := by
  have h := bgP_all (bg_all s u z) hr
  have h0 : Nat.blt 32 r = false := by
    cases h9 : Nat.blt 32 r
    · rfl
    · have : 33 ≤ r := Nat.le_of_ble_eq_true h9
      omega
  unfold bgH bgG at h
  rw [h0, Bool.false_or, Bool.and_eq_true] at h
  obtain ⟨q1, q2⟩ := h
  cases e
  · exact q1
  · have : r = 32 := he rfl
    subst this
    exact q2
def bgLn (nk ni n m t : Nat) : Nat := if t = 2 then nk else if t = 8 then n else if t = 12 then m else ni
def zBg (K zk : Wd) (ni : Nat) (zi : Wd) (t : Nat) : Wd := if t = 2 then zk else if t = 8 then exW K ni zi else if t = 12 then exW K ni zi else zi
def nuQ (nk : Nat) (zk : Wd) (ni : Nat) (zi : Wd) (n m : Nat) : Nat → Int := nuR (fun j => if j < 32 then exT (keyW nk zk) ni zi 1 j else if j = 302 then (n : Int) else (m : Int)) (bgLn nk ni n m) (fun _ => ni) (zBg (keyW nk zk) zk ni zi)
section
variable {nk ni n m : Nat} {zk zi : Wd}
theorem nuQ_S {j : Nat} (h : j < 32) : nuQ nk zk ni zi n m j = exT (keyW nk zk) ni zi 1 j := (nuR_lo (by omega)).trans (if_pos h)
theorem nuQ_n : nuQ nk zk ni zi n m 302 = (n : Int) := (nuR_lo (by decide)).trans ((if_neg (by decide)).trans (if_pos rfl))
theorem nuQ_m : nuQ nk zk ni zi n m 303 = (m : Int) := (nuR_lo (by decide)).trans ((if_neg (by decide)).trans (if_neg (by decide)))
theorem nuQ_L2 : nuQ nk zk ni zi n m (pinL (tg 2)) = (nk : Int) := nuR_L (by decide)
theorem nuQ_L4 : nuQ nk zk ni zi n m (pinL (tg 4)) = (ni : Int) := nuR_L (by decide)
theorem nuQ_L8 : nuQ nk zk ni zi n m (pinL (tg 8)) = (n : Int) := nuR_L (by decide)
theorem nuQ_L12 : nuQ nk zk ni zi n m (pinL (tg 12)) = (m : Int) := nuR_L (by decide)
theorem nuQ_L14 : nuQ nk zk ni zi n m (pinL (tg 14)) = (ni : Int) := nuR_L (by decide)
theorem nuQ_A14 : nuQ nk zk ni zi n m (pinA (tg 14)) = (ni : Int) := nuR_A (by decide)
theorem nuQ_B2 {j : Nat} (hj : j < 1099511627774) : nuQ nk zk ni zi n m (pinB (tg 2) j) = zk j := nuR_B (by decide) hj
theorem nuQ_B4 {j : Nat} (hj : j < 1099511627774) : nuQ nk zk ni zi n m (pinB (tg 4) j) = zi j := nuR_B (by decide) hj
theorem nuQ_B8 {j : Nat} (hj : j < 1099511627774) : nuQ nk zk ni zi n m (pinB (tg 8) j) = exW (keyW nk zk) ni zi j := nuR_B (by decide) hj
theorem nuQ_B12 {j : Nat} (hj : j < 1099511627774) : nuQ nk zk ni zi n m (pinB (tg 12) j) = exW (keyW nk zk) ni zi j := nuR_B (by decide) hj
theorem nuQ_B14 {j : Nat} (hj : j < 1099511627774) : nuQ nk zk ni zi n m (pinB (tg 14) j) = zi j := nuR_B (by decide) hj
theorem bgK_val {s : Hd} (hs : s.Fits nk) : (s.len (tg 2)).val (nuQ nk zk ni zi n m) = (nk : Int) := by
  cases s
  · have h : nk = 0 := hs
    subst h; rfl
  · have h : nk = 0 := hs
    subst h; rfl
  · exact nuQ_L2
theorem bgI_val {u : Hd} (hu : u.Fits ni) : (u.len (tg 4)).val (nuQ nk zk ni zi n m) = (ni : Int) := by
  cases u
  · have h : ni = 0 := hu
    subst h; rfl
  · have h : ni = 0 := hu
    subst h; rfl
  · exact nuQ_L4
theorem bgBase_hold {s u : Hd} (hs : s.Fits nk) (hu : u.Fits ni) (h1 : nk ≤ 1000) (h2 : ni ≤ 1000) (hn : n ≤ m) (hm : m ≤ 400) : ∀ p ∈ bgBase s u, compare p.1 (p.2.1.val (nuQ nk zk ni zi n m)) (p.2.2.1.val (nuQ nk zk ni zi n m)) = p.2.2.2 := by
  intro p hp
  simp only [bgBase, List.mem_cons, List.not_mem_nil, or_false] at hp
  rcases hp with rfl | rfl | rfl | rfl | rfl | rfl | rfl | rfl | rfl | rfl | rfl
  · show decide ((s.len (tg 2)).val (nuQ nk zk ni zi n m) > ((1000 : Nat) : Int)) = false
    rw [bgK_val hs]
    exact decide_eq_false (by omega)
  · show decide ((u.len (tg 4)).val (nuQ nk zk ni zi n m) > ((1000 : Nat) : Int)) = false
    rw [bgI_val hu]
    exact decide_eq_false (by omega)
  · show decide (nuQ nk zk ni zi n m 302 < 0) = false
    rw [nuQ_n]
    exact decide_eq_false (by omega)
  · show decide (nuQ nk zk ni zi n m 303 < nuQ nk zk ni zi n m 302) = false
    rw [nuQ_n, nuQ_m]
    exact decide_eq_false (by omega)
  · show decide (nuQ nk zk ni zi n m 303 > ((400 : Nat) : Int)) = false
    rw [nuQ_m]
    exact decide_eq_false (by omega)
  · show (nuQ nk zk ni zi n m (pinL (tg 12)) != nuQ nk zk ni zi n m 303) = false
    rw [nuQ_L12, nuQ_m]
    simp
  · show decide (nuQ nk zk ni zi n m 302 ≥ 0) = true
    rw [nuQ_n]
    exact decide_eq_true (by omega)
  · show decide (nuQ nk zk ni zi n m 302 ≤ nuQ nk zk ni zi n m (pinL (tg 12))) = true
    rw [nuQ_n, nuQ_L12]
    exact decide_eq_true (by omega)
  · show decide (nuQ nk zk ni zi n m (pinL (tg 4)) < 1099511627776) = true
    rw [nuQ_L4]
    exact decide_eq_true (by omega)
  · show (nuQ nk zk ni zi n m (pinA (tg 14)) == nuQ nk zk ni zi n m (pinL (tg 14))) = true
    rw [nuQ_A14, nuQ_L14]
    exact beq_self_eq_true _
  · show decide (nuQ nk zk ni zi n m (pinL (tg 14)) < 1099511627776) = true
    rw [nuQ_L14]
    exact decide_eq_true (by omega)
theorem exW_first {K : Wd} {ni : Nat} {zi : Wd} {i : Nat} (h : i < 32) : exW K ni zi i = exT K ni zi 1 i := by
  show exT K ni zi (i / 32 + 1) (i % 32) = _
  rw [show i / 32 = 0 by omega, show i % 32 = i by omega]
theorem bgF_hold {s u : Hd} {z : Bool} {r : Nat} {e : Bool} (hs : s.Fits nk) (hu : u.Fits ni) (h1 : nk ≤ 1000) (h2 : ni ≤ 1000) (hn : n ≤ m) (hm : m ≤ 400) (hz : z = true → n = 0) (hr : r ≤ 32) (hrm : r ≤ m) (he : decide (r < m) = e) : (bgF s u z r e).Hold (nuQ nk zk ni zi n m) := by
  refine ⟨fun p hp => (by cases hp), fun p hp => ?_, fun p hp => ?_⟩
  · rcases List.mem_append.1 hp with hp | hp
    · exact bgBase_hold hs hu h1 h2 hn hm p hp
    rcases List.mem_append.1 hp with hp | hp
    · cases u
      · exact nomatch (show p ∈ ([] : List Cm) from hp)
      · exact nomatch (show p ∈ ([] : List Cm) from hp)
      · have h0 : 0 < ni := hu
        simp only [bgGtr, List.mem_cons, List.not_mem_nil, or_false] at hp
        subst hp
        show decide (nuQ nk zk ni zi n m (pinL (tg 4)) > 0) = true
        rw [nuQ_L4]
        exact decide_eq_true (by omega)
    rcases List.mem_append.1 hp with hp | hp
    · cases z
      · exact nomatch (show p ∈ ([] : List Cm) from hp)
      · have h0 := hz rfl
        have hp : p ∈ ([(.neq, .s (pinL (tg 8)), .s 302, false), (.lss, .c 0, .s (pinL (tg 8)), false)] : List Cm) := hp
        simp only [List.mem_cons, List.not_mem_nil, or_false] at hp
        rcases hp with rfl | rfl
        · show (nuQ nk zk ni zi n m (pinL (tg 8)) != nuQ nk zk ni zi n m 302) = false
          rw [nuQ_L8, nuQ_n]
          simp
        · show decide (0 < nuQ nk zk ni zi n m (pinL (tg 8))) = false
          rw [nuQ_L8]
          exact decide_eq_false (by omega)
    rcases List.mem_append.1 hp with hp | hp
    · obtain ⟨i, hi, hp⟩ := List.mem_flatMap.1 hp
      have hi := List.mem_range.1 hi
      simp only [bgStep, List.mem_cons, List.not_mem_nil, or_false] at hp
      rcases hp with rfl | rfl | rfl
      · show decide (((i : Nat) : Int) < nuQ nk zk ni zi n m 303) = true
        rw [nuQ_m]
        exact decide_eq_true (by omega)
      · show decide (((i : Nat) : Int) < nuQ nk zk ni zi n m (pinL (tg 12))) = true
        rw [nuQ_L12]
        exact decide_eq_true (by omega)
      · show (nuQ nk zk ni zi n m (pinB (tg 12) i) != nuQ nk zk ni zi n m i) = false
        rw [nuQ_B12 (by omega), nuQ_S (by omega), exW_first (by omega)]
        simp
    · simp only [List.mem_cons, List.not_mem_nil, or_false] at hp
      subst hp
      show decide (((r : Nat) : Int) < nuQ nk zk ni zi n m 303) = e
      rw [nuQ_m, ← he]
      by_cases c : r < m
      · rw [decide_eq_true c, decide_eq_true (show ((r : Nat) : Int) < (m : Int) by omega)]
      · rw [decide_eq_false c, decide_eq_false (show ¬ ((r : Nat) : Int) < (m : Int) by omega)]
  · have hp : p ∈ [(0, [], tg 4, tg 14)] := hp
    simp only [List.mem_cons, List.not_mem_nil, or_false] at hp
    subst hp
    refine ⟨by show 0 ≤ nuQ nk zk ni zi n m (pinL (tg 14)); rw [nuQ_L14]; omega, ?_⟩
    show lst _ (tg 14) = lst0 _ 0 ++ [].map _ ++ lst0 _ (tg 4)
    rw [lst0_zero, lst0_row _ (by decide), List.map_nil, List.append_nil, List.nil_append]
    refine List.ext_getElem? fun j => ?_
    rw [lst_get nuQ_L14, lst_get nuQ_L4]
    by_cases c : j < ni
    · rw [if_pos c, if_pos c, nuQ_B14 (by omega), nuQ_B4 (by omega)]
    · rw [if_neg c, if_neg c]
theorem bgM_ok {s u : Hd} {z : Bool} (hs : s.Fits nk) (hu : u.Fits ni) (h1 : nk ≤ 1000) (h2 : ni ≤ 1000) (hn : n ≤ m) (hm : m ≤ 400) (hz : z = false → 0 < n) : ∀ q ∈ bgM s u z, q.Ok (nuQ nk zk ni zi n m) Tryd.prog gl256 := by
  have tk : IsText (nuQ nk zk ni zi n m) (s.gl 64 (tg 2)) (kvK s) nk zk := hd_text (t := 2) hs (tgT (by decide) (by decide)) (tg_Ke (by decide)) nuQ_L2 fun j hj => nuQ_B2 (by omega)
  have ti : IsText (nuQ nk zk ni zi n m) (u.gl 65 (tg 4)) (ivK u) ni zi := hd_text (t := 4) hu (tgT (by decide) (by decide)) (tg_Ke (by decide)) nuQ_L4 fun j hj => nuQ_B4 (by omega)
  have tx : IsText (nuQ nk zk ni zi n m) (bgxB u) (bgxA u) (ni + 1) (xtW 0 (exT (keyW nk zk) ni zi 0) ni zi) := by
    have lo : ∀ j, j < ni → xtW 0 (exT (keyW nk zk) ni zi 0) ni zi j = zi j := fun j hj => by
      show (if j < lq 0 then _ else if j < lq 0 + ni then _ else _) = _
      rw [show lq 0 = 0 from rfl, if_neg (by omega), if_pos (by omega), Nat.sub_zero]
    have hi : xtW 0 (exT (keyW nk zk) ni zi 0) ni zi ni = 1 := by
      show (if ni < lq 0 then _ else if ni < lq 0 + ni then _ else _) = _
      rw [show lq 0 = 0 from rfl, if_neg (by omega), if_neg (by omega)]
      rfl
    have known : ni = 0 → IsText (nuQ nk zk ni zi n m) [(69, ⟨rowC .u8 bgOne 1, eU, true⟩)] (.sl 69 0 (nA 1) (.own 1)) (ni + 1) (xtW 0 (exT (keyW nk zk) ni zi 0) ni zi) := fun h0 => by
      have h := isText_row (ν := nuQ nk zk ni zi n m) (need := [(69, ⟨rowC .u8 bgOne 1, eU, true⟩)]) (b := 69) (cap := .own 1) (own := true) (off := 0) (m := 1) (n := 1) (f := bgOne) (z := xtW 0 (exT (keyW nk zk) ni zi 0) ni zi) List.mem_cons_self (by decide) (by decide) (by decide) fun j hj => by
        have : j = ni := by omega
        rw [this, hi]
        rfl
      rw [show ni + 1 = 1 by omega]
      exact h
    cases u
    · exact known hu
    · exact known hu
    · refine isText_winG (b := 70) (t := 14) (a := ni) (wd := 1) (own := true) (cap := .own 1) (k := pAe 14) (l := lenE (pAe 14) 1) (h := bgOne) List.mem_cons_self (by decide) (tg_Ke (by decide)) rfl nuQ_A14 nuQ_L14 ?_ (fun j hj => (nuQ_B14 (by omega)).trans (lo j hj).symm) (fun j hj => ?_) (by omega)
      · show IntKind.i64.wrap (nuQ nk zk ni zi n m (pinA (tg 14)) + ((1 : Nat) : Int)) = _
        rw [nuQ_A14, i64_small (by omega) (by omega)]
        omega
      · rw [show ni + j = ni by omega, hi]
        rfl
  intro q hq
  rcases List.mem_append.1 hq with hq | hq
  · simp only [List.mem_cons, List.not_mem_nil, or_false] at hq
    rcases hq with rfl | rfl | rfl | rfl
    · exact rowEx_T (nk := nk) (zk := zk) (ni := ni) (zi := zi) (n := n) (tk.mono fun p hp => List.mem_append_left _ hp) (ti.mono fun p hp => List.mem_append_right _ hp) nuQ_n (by omega) (by omega) (by omega) (tgT (by decide) (by decide)) (tg_Ke (by decide)) nuQ_L8 fun j hj => nuQ_B8 (by omega)
    · exact rowEx_T (nk := nk) (zk := zk) (ni := ni) (zi := zi) (n := m) (tk.mono fun p hp => List.mem_append_left _ hp) (ti.mono fun p hp => List.mem_append_right _ hp) nuQ_m (by omega) (by omega) (by omega) (tgT (by decide) (by decide)) (tg_Ke (by decide)) nuQ_L12 fun j hj => nuQ_B12 (by omega)
    · refine rowMac_T (nk := nk) (zk := zk) (tk.mono fun p hp => List.mem_append_left _ hp) (tx.mono fun p hp => List.mem_append_right _ hp) (by omega) (by omega) fun j hj => ?_
      rw [nm_val, Nat.zero_add, nuQ_S hj, exT_succ]
      rw [show lq 0 + ni + 1 = ni + 1 from by rw [show lq 0 = 0 from rfl, Nat.zero_add]]
    · exact rowWm_ok
  · cases z
    · have hq : q ∈ [bgEq] := hq
      simp only [List.mem_cons, List.not_mem_nil, or_false] at hq
      subst hq
      have h0 := hz rfl
      show (rowEq (.sl 66 0 (.s (pinL (tg 8))) .any) (.sl 67 0 (.s 302) .any) [(66, ⟨[], tg 8, true⟩), (67, ⟨[], tg 12, true⟩)]).Ok _ _ _
      exact rowEq_T (n := n) (z := exW (keyW nk zk) ni zi) (isText_pin (own := true) (T := tg 8) (by simp) (tgT (by decide) (by decide)) (tg_Ke (by decide)) h0 nuQ_L8 fun j hj => nuQ_B8 (by omega)) (isText_pre (n := m) (own := true) (T := tg 12) (by simp) (tgT (by decide) (by decide)) (tg_Ke (by decide)) h0 nuQ_n hn nuQ_L12 fun j hj => nuQ_B12 (by omega)) h0 (by omega)
    · exact nomatch (show q ∈ ([] : List RowM) from hq)
end
/-! what is not played -/
noncomputable def bgNo (s u : Hd) (l : List Cm) : Bool := saysB ⟨[], l, []⟩ tree [] gl256 [] [] (s.gl0 64 ++ u.gl0 65) 66 60 4 10 [s.av0 64 300, u.av0 65 301, sI 302, sI 303] (.b true)
theorem bg_no1 : ∀ u, bgNo .c u [(.gtr, .s 300, nA 1000, true)] = true := by intro u; cases u <;> kernel_rfl
theorem bg_no2 : ∀ s, bgNo s .c [(.gtr, .s 300, nA 1000, false), (.gtr, .s 301, nA 1000, true)] = true := by intro s; cases s <;> kernel_rfl
theorem bg_no3 : ∀ s u, bgNo s u [(.gtr, .s 300, nA 1000, false), (.gtr, .s 301, nA 1000, false), (.lss, .s 302, .c 0, true)] = true := by intro s u; cases s <;> cases u <;> kernel_rfl
theorem bg_no4 : ∀ s u, bgNo s u [(.gtr, .s 300, nA 1000, false), (.gtr, .s 301, nA 1000, false), (.lss, .s 302, .c 0, false), (.lss, .s 303, .s 302, true)] = true := by intro s u; cases s <;> cases u <;> kernel_rfl
theorem bg_no5 : ∀ s u, bgNo s u [(.gtr, .s 300, nA 1000, false), (.gtr, .s 301, nA 1000, false), (.lss, .s 302, .c 0, false), (.lss, .s 303, .s 302, false), (.gtr, .s 303, nA 400, true)] = true := by intro s u; cases s <;> cases u <;> kernel_rfl
def nu4b (k i n m : Int) : Nat → Int := fun j => if j = 300 then k else if j = 301 then i else if j = 302 then n else m
theorem big_c {s : Hd} {n : Nat} (h : s.Fits n) (h0 : 0 < n) : s = .c := by
  cases s
  · have h9 : n = 0 := h
    omega
  · have h9 : n = 0 := h
    omega
  · rfl
theorem hd_need {s : Hd} {blk t n : Nat} (h : blk < n) (ht : 0 < t) : ∀ p ∈ s.gl blk (tg t), p.1 < n ∧ p.2.elem ≠ mapTag ∧ ∃ us, ∀ ν, concL ν p.2.cells = some us := fun p hp => by
  cases s
  · cases hp
  · cases hp
  · simp only [Hd.gl, List.mem_cons, List.not_mem_nil, or_false] at hp
    subst hp
    exact ⟨h, show tg t ≠ mapTag by unfold tg mapTag; omega, [], fun _ => rfl⟩
theorem macBegins_law {W : World} (hL : Laid gl256 W) {vk : Value} {zs : List Int} (hvk : ReadsAs W .u8 vk zs) (hwk : ∀ z ∈ zs, (Lit.int .u8 z).wf = true) {vb : Value} {ys : List Int} (hvb : ReadsAs W .u8 vb ys) (hwb : ∀ z ∈ ys, (Lit.int .u8 z).wf = true) (n m : Int) (_ : (Lit.int .i64 n).wf = true) (_ : (Lit.int .i64 m).wf = true) :
    Calls Tryd.prog 10 #[vk, vb, .int .i64 n, .int .i64 m] W fun e W' => e = .returned (.bool true) ∧ Below W.heap.size W W' := by
  obtain ⟨s, nk, pk, ha, _⟩ := came_of hvk hwk
  obtain ⟨u, ni, pb, hb, _⟩ := came_of hvb hwb
  let gp : Nat → Option Pl := fun b => if b = 64 then pk else if b = 65 then pb else none
  have bad : ∀ l : List Cm, bgNo s u l = true → (∀ p ∈ l, compare p.1 (p.2.1.val (nu4b nk ni n m)) (p.2.2.1.val (nu4b nk ni n m)) = p.2.2.2) → Calls Tryd.prog 10 #[vk, vb, .int .i64 n, .int .i64 m] W fun e W' => e = .returned (.bool true) ∧ Below W.heap.size W W' := fun l hgo hl => by
    obtain ⟨va1, ga1⟩ := ha.here0 (ν := nu4b nk ni n m) (gp := gp) (blk := 64) (k := 300) (by decide) rfl rfl
    obtain ⟨vb1, gb1⟩ := hb.here0 (ν := nu4b nk ni n m) (gp := gp) (blk := 65) (k := 301) (by decide) rfl rfl
    refine yes_ofN (ν := nu4b nk ni n m) (ρ := embF gp) (law_rowN gl256_ok (by decide) ⟨fun p hp => (by cases hp), hl, fun p hp => by cases hp⟩ (fun q hq => by cases hq) hgo (fun p hp => (List.mem_append.1 hp).elim (gl0_need (by decide) p) (gl0_need (by decide) p)) ?_) hL (fun p hp => (List.mem_append.1 hp).elim (ga1 p) (gb1 p)) (lr_of (vs := [vk, vb, .int .i64 n, .int .i64 m]) ⟨va1, vb1, .i .i64 (.s 302), .i .i64 (.s 303), trivial⟩)
    cases s <;> cases u <;> rfl
  by_cases c1 : 1000 < nk
  · have := big_c ha.fits (by omega)
    subst this
    refine bad _ (bg_no1 u) fun p hp => ?_
    simp only [List.mem_cons, List.not_mem_nil, or_false] at hp
    subst hp
    exact decide_eq_true (show (nk : Int) > ((1000 : Nat) : Int) by omega)
  have f1 : decide ((nk : Int) > ((1000 : Nat) : Int)) = false := decide_eq_false (by omega)
  by_cases c2 : 1000 < ni
  · have := big_c hb.fits (by omega)
    subst this
    refine bad _ (bg_no2 s) fun p hp => ?_
    simp only [List.mem_cons, List.not_mem_nil, or_false] at hp
    rcases hp with rfl | rfl
    · exact f1
    · exact decide_eq_true (show (ni : Int) > ((1000 : Nat) : Int) by omega)
  have f2 : decide ((ni : Int) > ((1000 : Nat) : Int)) = false := decide_eq_false (by omega)
  by_cases c3 : n < 0
  · refine bad _ (bg_no3 s u) fun p hp => ?_
    simp only [List.mem_cons, List.not_mem_nil, or_false] at hp
    rcases hp with rfl | rfl | rfl
    · exact f1
    · exact f2
    · exact decide_eq_true c3
  have f3 : decide (n < 0) = false := decide_eq_false c3
  by_cases c4 : m < n
  · refine bad _ (bg_no4 s u) fun p hp => ?_
    simp only [List.mem_cons, List.not_mem_nil, or_false] at hp
    rcases hp with rfl | rfl | rfl | rfl
    · exact f1
    · exact f2
    · exact f3
    · exact decide_eq_true c4
  have f4 : decide (m < n) = false := decide_eq_false c4
  by_cases c5 : 400 < m
  · refine bad _ (bg_no5 s u) fun p hp => ?_
    simp only [List.mem_cons, List.not_mem_nil, or_false] at hp
    rcases hp with rfl | rfl | rfl | rfl | rfl
    · exact f1
    · exact f2
    · exact f3
    · exact f4
    · exact decide_eq_true (show m > ((400 : Nat) : Int) by omega)
  obtain ⟨n, rfl⟩ : ∃ k : Nat, n = (k : Int) := ⟨n.toNat, by omega⟩
  obtain ⟨m, rfl⟩ : ∃ k : Nat, m = (k : Int) := ⟨m.toNat, by omega⟩
  have hs := ha.fits
  have hu := hb.fits
  obtain ⟨z, hz⟩ : ∃ z : Bool, z = decide (n = 0) := ⟨_, rfl⟩
  have hz1 : z = true → n = 0 := fun h => by rw [hz] at h; exact of_decide_eq_true h
  have hz2 : z = false → 0 < n := fun h => by
    rw [hz] at h
    have := of_decide_eq_false h
    omega
  have fin : ∀ {r : Nat} {e : Bool}, r ≤ 32 → r ≤ m → decide (r < m) = e → bgGo s u z r e = true → Calls Tryd.prog 10 #[vk, vb, .int .i64 (n : Int), .int .i64 (m : Int)] W fun e W' => e = .returned (.bool true) ∧ Below W.heap.size W W' := fun {r e} hr hrm he hgo => by
    obtain ⟨va1, ga1⟩ := ha.here (ν := nuQ nk (fun i => zs.getD i 0) ni (fun i => ys.getD i 0) n m) (gp := gp) (blk := 64) (T := tg 2) (by decide) rfl (tgT (by decide) (by decide)) (tg_Ke (by decide)) nuQ_L2 fun j hj => nuQ_B2 (by omega)
    obtain ⟨vb1, gb1⟩ := hb.here (ν := nuQ nk (fun i => zs.getD i 0) ni (fun i => ys.getD i 0) n m) (gp := gp) (blk := 65) (T := tg 4) (by decide) rfl (tgT (by decide) (by decide)) (tg_Ke (by decide)) nuQ_L4 fun j hj => nuQ_B4 (by omega)
    refine yes_ofN (ν := nuQ nk (fun i => zs.getD i 0) ni (fun i => ys.getD i 0) n m) (ρ := embF gp) (law_rowF gl256_ok (by decide) (bgF_hold hs hu (by omega) (by omega) (by omega) (by omega) hz1 hr hrm he) (bgM_ok hs hu (by omega) (by omega) (by omega) (by omega) hz2) hgo (fun p hp => (List.mem_append.1 hp).elim (hd_need (by decide) (by decide) p) (hd_need (by decide) (by decide) p)) ?_) hL (fun p hp => ?_) (lr_of (vs := [vk, vb, .int .i64 (n : Int), .int .i64 (m : Int)]) ⟨va1, vb1, vr_i nuQ_n, vr_i nuQ_m, trivial⟩)
    · cases s <;> cases u <;> rfl
    · rcases List.mem_append.1 hp with hp | hp
      · obtain ⟨q1, _, pl', q3, q4⟩ := ga1 p hp
        exact ⟨pl', by rw [q1]; exact (embF_other (by decide)).trans q3, q4.shut⟩
      · obtain ⟨q1, _, pl', q3, q4⟩ := gb1 p hp
        exact ⟨pl', by rw [q1]; exact (embF_other (by decide)).trans q3, q4.shut⟩
  by_cases c6 : m ≤ 32
  · exact fin c6 (Nat.le_refl _) (decide_eq_false (Nat.lt_irrefl _)) (bg_go c6 (fun h => by cases h))
  · exact fin (Nat.le_refl _) (by omega) (decide_eq_true (by omega)) (bg_go (Nat.le_refl _) (fun _ => rfl))

abbrev macBeginsLaid : List (String × DataW Unit) := Rows.macBeginsRow.laid
theorem macBegins_met (os : Os) (args : Array Value) : laidMetH Tryd.prog macBeginsLaid ((World.doorLaid Tryd.prog 400 os).forCall (fun _ _ => 0) ⟨#[], args, []⟩).memory :=
  laidMetH_of_parts3 (fuel := 8) (laidMet_of_run' 8 (by kernel_rfl) (by kernel_rfl)) (by kernel_rfl) (by kernel_rfl)

theorem macBegins_lifted (os : Os) (started : os.Started) (H : Type) (enc : TypeId × Value → H) :
    ReturnsInHanded {} Tryd.checked os 10 .any (fun w args => (Rows.macBeginsSpec.pre enc Tryd.prog Tryd.f10 [] false w args ∧ laidMetH Tryd.prog macBeginsLaid w) ∧ sizedMet enc Tryd.prog Tryd.f10 (OpenSpec.ofChange Rows.macBeginsSpec) false w args)
      (Rows.macBeginsSpec.post enc Tryd.prog Tryd.f10 false true false false) := by
  refine returnsInHanded_of_change_and (C := Tryd.checked) (X := fun w _ => laidMetH Tryd.prog macBeginsLaid w) (fun _ _ _ hh h => h.of_heap hh) own started (by kernel_rfl) Tryd.func10
    (ChangeSpec.witness_shaped (enc := enc) (C := Tryd.checked) (os := os) (X := fun w _ => laidMetH Tryd.prog macBeginsLaid w) false (World.doorLaid Tryd.prog 400 os) #[.slice none 0 0, .slice none 0 0, .int .i64 0, .int .i64 0] 8 rfl (World.shaped_of_RefB (by kernel_rfl) (by kernel_rfl)) (by kernel_rfl) (by kernel_rfl) (by kernel_rfl) (macBegins_met os _)) ?_
  intro W base args ds gs before hval0 hW _ _ hL _
  have hval : ∀ (j : Nat) t v, Tryd.f10.params[j]? = some t → args[j]? = some v → Value.okWide Tryd.prog W .any base t v := hval0
  have hW' := hW
  obtain ⟨p, q, hA0, hV, rfl, hfz, hnd⟩ := hW
  have hA : DataW.TrodAll enc Tryd.prog W 0 (fun _ => true) true Tryd.f10.params.toList args.toList ds p := hA0
  rw [Tryd.params10] at hA hval
  obtain ⟨v0, vs0, d0, ds0, p0, q0, hargs, rfl, rfl, h0, r0⟩ := trodAll_cons hA
  obtain ⟨v1, vs1, d1, ds1, p1, q1, rfl, rfl, rfl, h1, r1⟩ := trodAll_cons r0
  obtain ⟨v2, vs2, d2, ds2, p2, q2, rfl, rfl, rfl, h2, r2⟩ := trodAll_cons r1
  obtain ⟨v3, vs3, d3, ds3, p3, q3, rfl, rfl, rfl, h3, r3⟩ := trodAll_cons r2
  obtain ⟨rfl, rfl, rfl⟩ := trodAll_nil r3
  obtain rfl : args = #[v0, v1, v2, v3] := by cases args; simp_all
  obtain ⟨rfl, rfl⟩ := trodVars_none hV
  obtain ⟨z0, k0, w0, _⟩ := reads_open Tryd.underlying22 Tryd.underlying5 cells1 (hval 0 _ v0 rfl rfl) h0
  obtain ⟨z1, k1, w1, _⟩ := reads_open Tryd.underlying22 Tryd.underlying5 cells1 (hval 1 _ v1 rfl rfl) h1
  obtain ⟨a2, rfl, rfl, rfl, b2⟩ := open_int Tryd.underlying3 (hval 2 _ v2 rfl rfl) h2
  have s2 := plain_int (H := H) Tryd.underlying3 b2
  obtain ⟨a3, rfl, rfl, rfl, b3⟩ := open_int Tryd.underlying3 (hval 3 _ v3 rfl rfl) h3
  have s3 := plain_int (H := H) Tryd.underlying3 b3
  clear hA0 hval0
  simp only [List.append_nil, List.nil_append] at hW'
  have hlt : ∀ x ∈ p0 ++ p1, x.block < W.heap.size := fun x hx => hW'.lt x hx
  refine (macBegins_law (laidT hL) k0 w0 k1 w1 a2 a3 b2 b3).mono fun e W' ⟨he, hg⟩ => ?_
  subst he
  exact ⟨_, rfl, post_below (pa := p0 ++ p1) (pv := []) hW' (fun _ _ _ => trodAll_cons_mk (shut_bool Tryd.underlying4 _) trodAll_mk0) (fun sp hsp => (by have hh := (trodAll_cons_mk (kept_arg laidOut (by kernel_rfl) (of_decide_eq_true (by kernel_rfl)) h0 hg (fun x hx => hlt x (by simp [hx])) (fun x hx => hsp x (by simp [hx]))) (trodAll_cons_mk (kept_arg laidOut (by kernel_rfl) (of_decide_eq_true (by kernel_rfl)) h1 hg (fun x hx => hlt x (by simp [hx])) (fun x hx => hsp x (by simp [hx]))) (trodAll_cons_mk (s2 _ _ _ _ _) (trodAll_cons_mk (s3 _ _ _ _ _) trodAll_mk0)))); simp only [List.append_nil] at hh; exact hh)) (fun _ _ => rfl) (by simp)
    hg (ok_one (by kernel_rfl) rfl (okWide_bool_mk Tryd.underlying4 _))⟩

theorem macBegins_over : Rows.MacBeginsSaid :=
  OpenClaim.holds_of_wide 10 Tryd.f10 rfl rfl rfl rfl rfl rfl rfl ⟨rfl, rfl, rfl, rfl, rfl⟩ rfl rfl rfl rfl rfl (by kernel_rfl) Tryd.func10 (by kernel_rfl)
    (of_decide_eq_true (by kernel_rfl)) (by unfold Func.isWrapper; first | (rw [if_pos (by decide +kernel)]; kernel_rfl) | (rw [if_neg (by decide +kernel)]; exact ⟨rfl, rfl⟩))
    (fun os started H enc _ => macBegins_lifted os started H enc)

/-- THE STATEMENT. -/
theorem macBegins_holds : Rows.MacBeginsCardSaid :=
  Claim7.holds_tied_plain_at .later [] [.data, .data] true (true, "eacd4a9b634becba1168d16158cd96469b7c30e91a6ec0f5f91653d0d1963b9e") false
    macBegins_over (fun _ h => by cases h) (by kernel_rfl) (fun _ h => by cases h) macBegins_row_tie rfl ⟨rfl, rfl⟩ (by kernel_rfl) rfl
    (fun f fn hf hfn => by
      obtain rfl : f = 10 := Option.some.inj ((show Tryd.prog.funcNamed "tryst/trystlaw02.MacBegins" = some 10 by kernel_rfl).symm.trans hf) |>.symm
      obtain rfl : fn = Tryd.f10 := (Option.some.inj (Tryd.func10.symm.trans hfn)).symm
      exact ⟨by kernel_rfl, fun j t ht => by
        rw [Tryd.params10] at ht
        have hm : t ∈ [22, 22, 3, 3] := by simpa using Array.mem_of_getElem? ht
        have hall : ([22, 22, 3, 3].all fun u => !Tryd.prog.wantsStandIn u) = true := by kernel_rfl
        exact (show Tryd.prog.wantsStandIn t = false by simpa using List.all_eq_true.1 hall t hm)⟩)
    (by kernel_rfl)
#print axioms macBegins_holds
end Go.Proofs.YtjdcaipgfolgoaaDoor
