/-
  The page's Mac: what it answers. Own work.
-/
import Derived.Test.YtjdcaipgfolgoaaDoorZb
import Derived.Test.YtjdcaipgfolgoaaDoorZc
import Derived.Test.YtjdcaipgfolgoaaDoorZd
import Derived.Test.YtjdcaipgfolgoaaDoorZe
namespace Go.Proofs.YtjdcaipgfolgoaaDoor
open Go.Sh
open Go.ChangeShapes Go.WideShapes Go.ChangeAt Go.RowKit
set_option maxRecDepth 100000

theorem pm_ps : ∀ i, i < 16 → pmP i = true
  | 0, _ => pm_p0
  | 1, _ => pm_p1
  | 2, _ => pm_p2
  | 3, _ => pm_p3
  | 4, _ => pm_p4
  | 5, _ => pm_p5
  | 6, _ => pm_p6
  | 7, _ => pm_p7
  | 8, _ => pm_p8
  | 9, _ => pm_p9
  | 10, _ => pm_p10
  | 11, _ => pm_p11
  | 12, _ => pm_p12
  | 13, _ => pm_p13
  | 14, _ => pm_p14
  | 15, _ => pm_p15
  | n + 16, h => absurd h (by omega)
theorem pm_all {k : Ky} {u : Hd} {n : Nat} (h : k.Fits n) : pmGo k u = true := by
  cases k with
  | a => exact pm3_all pm_a
  | b => exact pm3_all pm_b
  | l => exact pm3_all pm_l
  | s m =>
    obtain ⟨rfl, h0, h1⟩ := h
    exact pm3_all (pmP_all pm_ps h0 h1)
def nuPM (nk nb : Nat) (zk zb : Wd) : Nat → Int := nuR (loM (sum256 (padW (keyW nk zk) 54 zb) (64 + nb)) (hmac (keyW nk zk) nb zb) (sum256 zk nk) zk) (lnM nk nb) (fun _ => 64 + nb) (zM (keyW nk zk) zk zb (sum256 (padW (keyW nk zk) 54 zb) (64 + nb)))
section
variable {nk nb : Nat} {zk zb : Wd}
theorem nuPM_S {j : Nat} (h : j < 32) : nuPM nk nb zk zb j = sum256 (padW (keyW nk zk) 54 zb) (64 + nb) j := by
  unfold nuPM
  rw [nuR_lo (by omega)]
  unfold loM
  rw [two_lo (by omega), two_lo (by omega), two_lo (by omega)]
theorem nuPM_O {j : Nat} (h : j < 32) : nuPM nk nb zk zb (100 + j) = hmac (keyW nk zk) nb zb j := by
  unfold nuPM
  rw [nuR_lo (by omega)]
  unfold loM
  rw [two_lo (by omega), two_lo (by omega), two_hi]
theorem nuPM_T {j : Nat} (h : j < 32) : nuPM nk nb zk zb (700 + j) = sum256 zk nk j := by
  unfold nuPM
  rw [nuR_lo (by omega)]
  unfold loM
  rw [two_lo (by omega), two_hi]
theorem nuPM_k {j : Nat} (h : j < 64) : nuPM nk nb zk zb (1000 + j) = zk j := by
  unfold nuPM
  rw [nuR_lo (by omega)]
  unfold loM
  rw [two_hi]
theorem nuPM_L2 : nuPM nk nb zk zb (pinL (tg 2)) = (nk : Int) := nuR_L (by decide)
theorem nuPM_L4 : nuPM nk nb zk zb (pinL (tg 4)) = (nb : Int) := nuR_L (by decide)
theorem nuPM_L6 : nuPM nk nb zk zb (pinL (tg 6)) = ((64 + nb : Nat) : Int) := nuR_L (by decide)
theorem nuPM_A6 : nuPM nk nb zk zb (pinA (tg 6)) = ((64 + nb : Nat) : Int) := nuR_A (by decide)
theorem nuPM_B2 {j : Nat} (hj : j < 1099511627774) : nuPM nk nb zk zb (pinB (tg 2) j) = zk j := nuR_B (by decide) hj
theorem nuPM_B4 {j : Nat} (hj : j < 1099511627774) : nuPM nk nb zk zb (pinB (tg 4) j) = zb j := nuR_B (by decide) hj
theorem nuPM_B6 {j : Nat} (hj : j < 1099511627774) : nuPM nk nb zk zb (pinB (tg 6) j) = padW (keyW nk zk) 54 zb j := nuR_B (by decide) hj
theorem pkA_val {k : Ky} (h : k.Fits nk) {p j : Nat} (hp : arith .xor .u8 0 ((p : Nat) : Int) = ((p : Nat) : Int)) (hj : j < 64) : (pkA k p j).val (nuPM nk nb zk zb) = arith .xor .u8 (keyW nk zk j) ((p : Nat) : Int) := by
  have none : nk = 0 → ((p : Nat) : Int) = arith .xor .u8 (keyW nk zk j) ((p : Nat) : Int) := fun h0 => by
    subst h0
    rw [keyW_short (by decide), if_neg (Nat.not_lt_zero j)]
    exact hp.symm
  cases k with
  | a => exact none h
  | b => exact none h
  | s m =>
    obtain ⟨rfl, h0, h1⟩ := h
    show (if Nat.blt j m then AI.e .xor .u8 (.s (1000 + j)) (nA p) else nA p).val _ = _
    rw [keyW_short h1]
    by_cases c : j < m
    · rw [if_pos (by simpa using c), if_pos c]
      show arith .xor .u8 (nuPM m nb zk zb (1000 + j)) ((p : Nat) : Int) = _
      rw [nuPM_k hj]
    · rw [if_neg (by simpa using c), if_neg c]
      exact hp.symm
  | l =>
    have h : 64 < nk := h
    show (if Nat.blt j 32 then AI.e .xor .u8 (.s (700 + j)) (nA p) else nA p).val _ = _
    rw [keyW_long h]
    by_cases c : j < 32
    · rw [if_pos (by simpa using c), if_pos c]
      show arith .xor .u8 (nuPM nk nb zk zb (700 + j)) ((p : Nat) : Int) = _
      rw [nuPM_T c]
    · rw [if_neg (by simpa using c), if_neg c]
      exact hp.symm
theorem xor54 : arith .xor .u8 0 ((54 : Nat) : Int) = ((54 : Nat) : Int) := by kernel_rfl
theorem xor92 : arith .xor .u8 0 ((92 : Nat) : Int) = ((92 : Nat) : Int) := by kernel_rfl
theorem padW_bytes {K : Wd} {p : Int} {z : Wd} {n : Nat} (h : Bytes z n) : Bytes (padW K p z) (64 + n) := fun j hj => by
  unfold padW
  by_cases c : j < 64
  · rw [if_pos c]
    exact wrap_u8 _
  · rw [if_neg c]
    exact h _ (by omega)
theorem pmF_hold {k : Ky} {u : Hd} (hk : k.Fits nk) (hu : u.Fits nb) (h2 : nb < 900000000) : (pmF k u).Hold (nuPM nk nb zk zb) := by
  refine ⟨fun p hp => (by cases hp), fun p hp => ?_, fun p hp => ?_⟩
  · rcases List.mem_append.1 hp with hp | hp
    · cases k with
      | a => exact nomatch (show p ∈ ([] : List Cm) from hp)
      | b => exact nomatch (show p ∈ ([] : List Cm) from hp)
      | s m => exact nomatch (show p ∈ ([] : List Cm) from hp)
      | l =>
        have hk : 64 < nk := hk
        simp only [List.mem_cons, List.not_mem_nil, or_false] at hp
        subst hp
        show decide (nuPM nk nb zk zb (pinL (tg 2)) > ((64 : Nat) : Int)) = true
        rw [nuPM_L2]
        exact decide_eq_true (by omega)
    · cases u
      · exact nomatch (show p ∈ ([] : List Cm) from hp)
      · exact nomatch (show p ∈ ([] : List Cm) from hp)
      · have h0 : 0 < nb := hu
        simp only [List.mem_cons, List.not_mem_nil, or_false] at hp
        rcases hp with rfl | rfl | rfl | rfl
        · show decide (nuPM nk nb zk zb (pinL (tg 4)) > 0) = true
          rw [nuPM_L4]
          exact decide_eq_true (by omega)
        · show decide (nuPM nk nb zk zb (pinL (tg 4)) < 1099511627776) = true
          rw [nuPM_L4]
          exact decide_eq_true (by omega)
        · show (nuPM nk nb zk zb (pinA (tg 6)) == nuPM nk nb zk zb (pinL (tg 6))) = true
          rw [nuPM_A6, nuPM_L6]
          exact beq_self_eq_true _
        · show decide (nuPM nk nb zk zb (pinL (tg 6)) < 1099511627776) = true
          rw [nuPM_L6]
          exact decide_eq_true (by omega)
  · cases u
    · exact nomatch (show p ∈ ([] : List (Nat × List AI × Nat × Nat)) from hp)
    · exact nomatch (show p ∈ ([] : List (Nat × List AI × Nat × Nat)) from hp)
    · have hp : p ∈ [(0, (List.range 64).map (pkA k 54), tg 4, tg 6)] := hp
      simp only [List.mem_cons, List.not_mem_nil, or_false] at hp
      subst hp
      refine ⟨by show 0 ≤ nuPM nk nb zk zb (pinL (tg 6)); rw [nuPM_L6]; omega, ?_⟩
      show lst _ (tg 6) = lst0 _ 0 ++ ((List.range 64).map (pkA k 54)).map (AI.val _) ++ lst0 _ (tg 4)
      rw [lst0_zero, lst0_row _ (tgT (by decide) (by decide)).1, List.nil_append, List.map_map]
      refine List.ext_getElem? fun j => ?_
      rw [lst_get nuPM_L6, List.getElem?_append, lst_get nuPM_L4]
      simp only [List.length_map, List.length_range]
      by_cases hj : j < 64
      · rw [if_pos (by omega), if_pos hj, nuPM_B6 (by omega)]
        simp only [List.getElem?_map, List.getElem?_range, hj, Option.map_some, Function.comp_apply]
        refine congrArg some ?_
        rw [pkA_val hk xor54 hj]
        exact if_pos hj
      · rw [if_neg hj]
        by_cases hn2 : j < 64 + nb
        · rw [if_pos hn2, if_pos (by omega), nuPM_B6 (by omega), nuPM_B4 (by omega)]
          exact congrArg some (if_neg hj)
        · rw [if_neg hn2, if_neg (by omega)]
theorem pmM_ok {k : Ky} {u : Hd} (hk : k.Fits nk) (hu : u.Fits nb) (hbk : Bytes zk nk) (hbb : Bytes zb nb) (h1 : nk < 1000000000) (h2 : nb < 900000000) : ∀ r ∈ pmM k u, r.Ok (nuPM nk nb zk zb) Tryd.prog gl256 := by
  have tx : IsText (nuPM nk nb zk zb) (pmXb k u) (pmX k u) (64 + nb) (padW (keyW nk zk) 54 zb) := by
    have known : nb = 0 → ∀ b : Nat, IsText (nuPM nk nb zk zb) [(b, ⟨rowC .u8 (pkA k 54) 64, eU, true⟩)] (.sl b 0 (nA 64) (.own 1)) (64 + nb) (padW (keyW nk zk) 54 zb) := fun h0 b => by
      rw [show 64 + nb = 64 by omega]
      refine isText_row (off := 0) (n := 64) (f := pkA k 54) (e := eU) (own := true) List.mem_cons_self (by decide) (by decide) (by decide) fun j hj => ?_
      rw [Nat.zero_add, pkA_val hk xor54 hj]
      exact (if_pos hj).symm
    cases u
    · exact known hu _
    · exact known hu _
    · exact isText_win (t := 6) (own := true) (k := pAe 6) (l := pAe 6) List.mem_cons_self (by decide) (tg_Ke (by decide)) rfl nuPM_A6 (by rw [nuPM_L6]; exact Int.le_refl _) fun j hj => nuPM_B6 (by omega)
  have ty : IsText (nuPM nk nb zk zb) [(pmY k u, ⟨rowC .u8 (pkB k) 96, eU, true⟩)] (.sl (pmY k u) 0 (nA 96) (.own 1)) 96 (padW (keyW nk zk) 92 (sum256 (padW (keyW nk zk) 54 zb) (64 + nb))) := isText_row (off := 0) (n := 96) (f := pkB k) (e := eU) (own := true) List.mem_cons_self (by decide) (by decide) (by decide) fun j hj => by
    rw [Nat.zero_add]
    unfold pkB padW
    by_cases c : j < 64
    · rw [if_pos (by simpa using c), if_pos c]
      exact pkA_val hk xor92 c
    · rw [if_neg (by simpa using c), if_neg c]
      exact nuPM_S (by omega)
  intro r hr
  rcases List.mem_append.1 hr with hr | hr
  · cases k with
    | a => exact nomatch (show r ∈ ([] : List RowM) from hr)
    | b => exact nomatch (show r ∈ ([] : List RowM) from hr)
    | s m => exact nomatch (show r ∈ ([] : List RowM) from hr)
    | l =>
      have hk : 64 < nk := hk
      simp only [List.mem_cons, List.not_mem_nil, or_false] at hr
      subst hr
      exact rowR_T (isText_pin List.mem_cons_self (tgT (by decide) (by decide)) (tg_Ke (by decide)) (by omega) nuPM_L2 fun j hj => nuPM_B2 (by omega)) hbk (by omega) fun j hj => nuPM_T hj
  · simp only [List.mem_cons, List.not_mem_nil, or_false] at hr
    rcases hr with rfl | rfl
    · exact rowR_T tx (padW_bytes hbb) (by omega) fun j hj => by rw [nm_val, Nat.zero_add]; exact nuPM_S hj
    · exact rowR_T ty (padW_bytes (n := 32) (sum_bytes _ _ _)) (by decide) fun j hj => nuPM_O hj
end
/-- WHAT IT ANSWERS. -/
theorem PMac_ok {w : World} {vk vb : Value} {nk nb : Nat} {zk zb : Wd} (hw : Laid gl256 w) (hvk : TextAt w vk nk zk) (hvb : TextAt w vb nb zb) (hbk : Bytes zk nk) (hbb : Bytes zb nb) (h1 : nk < 1000000000) (h2 : nb < 900000000) :
    Calls Tryd.prog 21 #[vk, vb] w fun e w' => e = .returned (aggI .u8 32 (hmac (keyW nk zk) nb zb)) ∧ Below w.heap.size w w' := by
  obtain ⟨u, pb, hb⟩ := text_came hvb
  have hu := hb.fits
  obtain ⟨k, pk, hk, hkv⟩ : ∃ (k : Ky) (pk : Option Pl), k.Fits nk ∧ ∀ gp : Nat → Option Pl, gp 64 = pk → VR (nuPM nk nb zk zb) (embF gp) k.av vk ∧ ∀ p ∈ k.gl, p.1 = 64 ∧ p.2.elem < winTag ∧ p.2.elem ≠ mapTag ∧ (∃ us, concL (nuPM nk nb zk zb) p.2.cells = some us) ∧ ∃ pl', gp 64 = some pl' ∧ BR (nuPM nk nb zk zb) (embF gp) w p.2.shut pl' := by
    rcases hvk with ⟨rfl, rfl | ⟨a, c, rfl⟩⟩ | ⟨h0, cb, o, c, rfl, hle, hz⟩
    · exact ⟨.a, none, rfl, fun gp _ => ⟨.nsl, fun p hp => by cases hp⟩⟩
    · exact ⟨.b, none, rfl, fun gp _ => ⟨.sle _ _ _ (fun h => by cases h), fun p hp => by cases hp⟩⟩
    · by_cases hlong : 64 < nk
      · have hcm : Came w (.slice (some ⟨cb, o, none⟩) nk c) .c nk zk (some ⟨cb, o, 0⟩) := ⟨cb, o, c, rfl, hle, h0, hz, rfl⟩
        refine ⟨.l, some ⟨cb, o, 0⟩, hlong, fun gp hg => ?_⟩
        obtain ⟨q1, q2⟩ := hcm.here (ν := nuPM nk nb zk zb) (gp := gp) (blk := 64) (T := tg 2) (by decide) hg ⟨by decide, by decide⟩ (tg_Ke (by decide)) nuPM_L2 fun j hj => nuPM_B2 (by omega)
        refine ⟨q1, fun p hp => ?_⟩
        obtain ⟨r1, r2, pl', r3, r4⟩ := q2 p hp
        simp only [Ky.gl, List.mem_cons, List.not_mem_nil, or_false] at hp
        subst hp
        exact ⟨rfl, by decide, by decide, ⟨[], rfl⟩, pl', r3, r4.shut⟩
      · refine ⟨.s nk, some ⟨cb, o, 0⟩, ⟨rfl, h0, by omega⟩, fun gp hg => ⟨.sl 64 0 _ .any ⟨cb, o, 0⟩ nk c ((embF_other (by decide)).trans hg) rfl trivial hle, fun p hp => ?_⟩⟩
        simp only [Ky.gl, List.mem_cons, List.not_mem_nil, or_false] at hp
        subst hp
        refine ⟨rfl, show (0 : Nat) < winTag by decide, show (0 : Nat) ≠ mapTag by decide, ⟨_, concL_row .u8 (nmA 1000) nk⟩, _, hg, ?_⟩
        exact (hz.br (by decide) fun j hj => by rw [nm_val]; exact nuPM_k (by omega) : BR _ _ w ⟨rowC .u8 (nmA 1000) nk, 0, false⟩ ⟨cb, o, 0⟩).shut
  let gp : Nat → Option Pl := fun b => if b = 64 then pk else if b = 65 then pb else none
  obtain ⟨k1, k2⟩ := hkv gp rfl
  obtain ⟨b1, b2⟩ := hb.here (ν := nuPM nk nb zk zb) (gp := gp) (blk := 65) (T := tg 4) (by decide) rfl ⟨by decide, by decide⟩ (tg_Ke (by decide)) nuPM_L4 fun j hj => nuPM_B4 (by omega)
  have hcon : conc2 (nuPM nk nb zk zb) outM = some (aggI .u8 32 (hmac (keyW nk zk) nb zb)) := (conc2_row (ν := nuPM nk nb zk zb) .u8 (nmA 100) 31).trans (congrArg some (aggI_congr fun j hj => nuPM_O hj))
  have hres : concT (nuPM nk nb zk zb) [outM] = some [aggI .u8 32 (hmac (keyW nk zk) nb zb)] := by
    show (match conc2 (nuPM nk nb zk zb) outM, concT (nuPM nk nb zk zb) [] with | some v, some l => some (v :: l) | _, _ => none) = _
    rw [hcon]
    rfl
  have row := rowM_of (need := k.gl ++ u.gl 65 (tg 4)) (res := [outM]) (us := [aggI .u8 32 (hmac (keyW nk zk) nb zb)]) (pmF_hold hk hu h2) mixed tab_ok gl256_ok (fun r hr => by cases hr) (fun r hr => by cases hr) (pmM_ok hk hu hbk hbb h1 h2) (pm_all (u := u) hk) (by decide) (fun p hp => ?_) (by
    cases k <;> cases u <;> rfl) hres hcon
  · refine (row.2 (embF gp) w #[vk, vb] hw (fun p hp => ?_) (lr_of (vs := [vk, vb]) ⟨k1, b1, trivial⟩)).mono fun e w' ⟨us, he, hp, hB⟩ => ⟨?_, hB⟩
    · rcases List.mem_append.1 hp with hp | hp
      · obtain ⟨q1, _, _, _, pl', q3, q4⟩ := k2 p hp
        exact ⟨pl', by rw [q1]; exact (embF_other (by decide)).trans q3, q4⟩
      · obtain ⟨q1, _, pl', q3, q4⟩ := b2 p hp
        exact ⟨pl', by rw [q1]; exact (embF_other (by decide)).trans q3, q4.shut⟩
    · match us, hp with
      | [v], hp =>
        have h9 : conc2 (nuPM nk nb zk zb) outM = some v := hp.1
        rw [hcon] at h9
        cases h9
        exact he
  · rcases List.mem_append.1 hp with hp | hp
    · obtain ⟨q1, _, q2, ⟨us, q3⟩, _⟩ := k2 p hp
      exact ⟨by rw [q1]; decide, q2, us, q3⟩
    · obtain ⟨q1, _⟩ := b2 p hp
      refine ⟨by rw [q1]; decide, ?_, [], ?_⟩
      · cases u
        · cases hp
        · cases hp
        · simp only [Hd.gl, List.mem_cons, List.not_mem_nil, or_false] at hp
          subst hp
          show tg 4 ≠ mapTag
          decide
      · cases u
        · cases hp
        · cases hp
        · simp only [Hd.gl, List.mem_cons, List.not_mem_nil, or_false] at hp
          subst hp
          rfl
/-- Its call, as a row. -/
theorem rowPM_T {ν : Nat → Int} {need : Gl} {x y : AV} {nk nb : Nat} {zk zb : Wd} {g : Nat → AI} (hx : IsText ν need x nk zk) (hy : IsText ν need y nb zb) (hbk : Bytes zk nk) (hbb : Bytes zb nb) (h1 : nk < 1000000000) (h2 : nb < 900000000) (hg : ∀ j, j < 32 → (g j).val ν = hmac (keyW nk zk) nb zb j) : RowM.Ok ν Tryd.prog gl256 ⟨21, [x, y], need, [.v (.ag (rowC .u8 g 32))]⟩ := by
  refine ⟨⟨_, Tryd.func21, by kernel_rfl, by kernel_rfl⟩, fun ρ w vs hw hnd hl => ?_⟩
  obtain ⟨u, v, rfl, hu, hv⟩ := two_args hl
  exact (PMac_ok hw (hx ρ w u hnd hu) (hy ρ w v hnd hv) hbk hbb h1 h2).mono fun e w' ⟨he, hB⟩ => ⟨[_], he, packR hg, hB⟩
end Go.Proofs.YtjdcaipgfolgoaaDoor
