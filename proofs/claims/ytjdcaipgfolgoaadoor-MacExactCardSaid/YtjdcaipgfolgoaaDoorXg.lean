/-
  mac.Sum: what it answers. Own work.
-/
import Derived.Test.YtjdcaipgfolgoaaDoorXf
namespace Go.Proofs.YtjdcaipgfolgoaaDoor
open Go.Sh
open Go.ChangeShapes Go.WideShapes Go.ChangeAt Go.RowKit
set_option maxRecDepth 100000

/-- A key's block. -/
def keyW (n : Nat) (z : Wd) : Wd := if 64 < n then (fun j => if j < 32 then sum256 z n j else 0) else fun j => if j < n then z j else 0
theorem keyW_short {n : Nat} {z : Wd} (h : n ≤ 64) (j : Nat) : keyW n z j = if j < n then z j else 0 := by
  unfold keyW
  rw [if_neg (by omega)]
theorem keyW_long {n : Nat} {z : Wd} (h : 64 < n) (j : Nat) : keyW n z j = if j < 32 then sum256 z n j else 0 := by
  unfold keyW
  rw [if_pos h]
def hmac (K : Wd) (n : Nat) (z : Wd) : Wd := sum256 (padW K 92 (sum256 (padW K 54 z) (64 + n))) 96
/-! four ways in which a key is handed in: nil, empty, short (its bytes named), long -/
inductive Ky where
  | a | b | s (n : Nat) | l
def Ky.av : Ky → AV
  | .a => .nsl
  | .b => .sle false
  | .s n => .sl 64 0 (nA n) .any
  | .l => .sl 64 0 (.s (pinL (tg 2))) .any
def Ky.gl : Ky → Gl
  | .s n => [(64, ⟨rowC .u8 (nmA 1000) n, 0, false⟩)]
  | .l => [(64, ⟨[], tg 2, false⟩)]
  | _ => []
def Ky.f : Ky → Nat → AI
  | .s n => fun j => if Nat.blt j n then .s (1000 + j) else .c 0
  | .l => fun j => if Nat.blt j 32 then .s (700 + j) else .c 0
  | _ => fun _ => .c 0
def Ky.at : Ky → Nat
  | .l => 69
  | _ => 68
def Ky.F : Ky → Facts
  | .l => ⟨[], [(.gtr, .s (pinL (tg 2)), nA 64, true)], []⟩
  | _ => noFacts
def pin8 (b t : Nat) : Nat × ABlk := (b, ⟨[], tg t, false⟩)
def sl8 (b t : Nat) : AV := .sl b 0 (.s (pinL (tg t))) .any
def inB1 (b : Nat) : Nat × ABlk := (b, ⟨rowC .u8 (nmA 0) 32, eO, true⟩)
def maM (k : Ky) (u : Hd) : List RowM := [rowF 14 (.sl 64 0 (.s (pinL (tg 2))) .any) [(64, ⟨[], tg 2, false⟩)] (rowC .u8 (nmA 700) 32), rowPd k.f 54 (u.av 65 (tg 4)) (u.gl 65 (tg 4)) (tg 6), rowF 14 (sl8 k.at 6) [pin8 k.at 6] (rowC .u8 (nmA 0) 32), rowPd k.f 92 (slO (k.at + 1)) [inB1 (k.at + 1)] (tg 8), rowF 14 (sl8 (k.at + 2) 8) [pin8 (k.at + 2) 8] (rowC .u8 (nmA 100) 32)]
def outM : AV := .ag (rowC .u8 (nmA 100) 32)
noncomputable def maGo (k : Ky) (u : Hd) : Bool := saysB k.F tree [] gl256 [] (maM k u) (k.gl ++ u.gl 65 (tg 4)) 66 60 4 20 [k.av, u.av 65 (tg 4)] outM
theorem ma_a : (maGo .a .a && maGo .a .b && maGo .a .c) = true := by kernel_rfl
theorem ma_b : (maGo .b .a && maGo .b .b && maGo .b .c) = true := by kernel_rfl
theorem ma_l : (maGo .l .a && maGo .l .b && maGo .l .c) = true := by kernel_rfl
theorem ma_s0 : (List.range 16).all (fun n => maGo (.s (n + 1)) .a && maGo (.s (n + 1)) .b && maGo (.s (n + 1)) .c) = true := by kernel_rfl
theorem ma_s1 : (List.range 16).all (fun n => maGo (.s (16 + n + 1)) .a && maGo (.s (16 + n + 1)) .b && maGo (.s (16 + n + 1)) .c) = true := by kernel_rfl
theorem ma_s2 : (List.range 16).all (fun n => maGo (.s (32 + n + 1)) .a && maGo (.s (32 + n + 1)) .b && maGo (.s (32 + n + 1)) .c) = true := by kernel_rfl
theorem ma_s3 : (List.range 16).all (fun n => maGo (.s (48 + n + 1)) .a && maGo (.s (48 + n + 1)) .b && maGo (.s (48 + n + 1)) .c) = true := by kernel_rfl
/-- Which numbers a key may have. -/
def Ky.Fits (k : Ky) (n : Nat) : Prop := match k with | .s m => m = n ∧ 0 < n ∧ n ≤ 64 | .l => 64 < n | _ => n = 0
theorem ma_all {k : Ky} {u : Hd} {n : Nat} (h : k.Fits n) : maGo k u = true := by
  have three : ∀ k : Ky, (maGo k .a && maGo k .b && maGo k .c) = true → maGo k u = true := fun k h => by
    simp only [Bool.and_eq_true] at h
    cases u
    · exact h.1.1
    · exact h.1.2
    · exact h.2
  cases k with
  | a => exact three _ ma_a
  | b => exact three _ ma_b
  | l => exact three _ ma_l
  | s m =>
    obtain ⟨rfl, h0, h1⟩ := h
    obtain ⟨j, rfl⟩ : ∃ j, m = j + 1 := ⟨m - 1, by omega⟩
    by_cases c0 : j < 16
    · exact three _ (List.all_eq_true.1 ma_s0 j (List.mem_range.2 c0))
    by_cases c1 : j < 32
    · have := three _ (List.all_eq_true.1 ma_s1 (j - 16) (List.mem_range.2 (by omega)))
      rwa [show 16 + (j - 16) + 1 = j + 1 by omega] at this
    by_cases c2 : j < 48
    · have := three _ (List.all_eq_true.1 ma_s2 (j - 32) (List.mem_range.2 (by omega)))
      rwa [show 32 + (j - 32) + 1 = j + 1 by omega] at this
    · have := three _ (List.all_eq_true.1 ma_s3 (j - 48) (List.mem_range.2 (by omega)))
      rwa [show 48 + (j - 48) + 1 = j + 1 by omega] at this
/-! names -/
def loM (S O T : Wd) (zk : Wd) : Nat → Int := two (two (two S 100 O) 700 T) 1000 zk
def lnM (nk nb t : Nat) : Nat := if t = 2 then nk else if t = 4 then nb else if t = 6 then 64 + nb else 96
def zM (K zk zb I : Wd) (t : Nat) : Wd := if t = 2 then zk else if t = 4 then zb else if t = 6 then padW K 54 zb else padW K 92 I
def nuM (nk nb : Nat) (zk zb : Wd) : Nat → Int := nuR (loM (sum256 (padW (keyW nk zk) 54 zb) (64 + nb)) (hmac (keyW nk zk) nb zb) (sum256 zk nk) zk) (lnM nk nb) (fun _ => 0) (zM (keyW nk zk) zk zb (sum256 (padW (keyW nk zk) 54 zb) (64 + nb)))
section
variable {nk nb : Nat} {zk zb : Wd}
theorem nuM_S {j : Nat} (h : j < 32) : nuM nk nb zk zb j = sum256 (padW (keyW nk zk) 54 zb) (64 + nb) j := by
  unfold nuM
  rw [nuR_lo (by omega)]
  unfold loM
  rw [two_lo (by omega), two_lo (by omega), two_lo (by omega)]
theorem nuM_O {j : Nat} (h : j < 32) : nuM nk nb zk zb (100 + j) = hmac (keyW nk zk) nb zb j := by
  unfold nuM
  rw [nuR_lo (by omega)]
  unfold loM
  rw [two_lo (by omega), two_lo (by omega), two_hi]
theorem nuM_T {j : Nat} (h : j < 32) : nuM nk nb zk zb (700 + j) = sum256 zk nk j := by
  unfold nuM
  rw [nuR_lo (by omega)]
  unfold loM
  rw [two_lo (by omega), two_hi]
theorem nuM_k {j : Nat} (h : j < 64) : nuM nk nb zk zb (1000 + j) = zk j := by
  unfold nuM
  rw [nuR_lo (by omega)]
  unfold loM
  rw [two_hi]
theorem nuM_L {t : Nat} (ht : 0 < t) : nuM nk nb zk zb (pinL (tg t)) = (lnM nk nb t : Int) := nuR_L ht
theorem nuM_B {t j : Nat} (ht : 0 < t) (hj : j < 1099511627774) : nuM nk nb zk zb (pinB (tg t) j) = zM (keyW nk zk) zk zb (sum256 (padW (keyW nk zk) 54 zb) (64 + nb)) t j := nuR_B ht hj
theorem ky_f {k : Ky} (h : k.Fits nk) {j : Nat} (hj : j < 64) : (k.f j).val (nuM nk nb zk zb) = keyW nk zk j := by
  cases k with
  | a =>
    have h : nk = 0 := h
    subst h
    rfl
  | b =>
    have h : nk = 0 := h
    subst h
    rfl
  | s m =>
    obtain ⟨rfl, h0, h1⟩ := h
    show (if Nat.blt j m then AI.s (1000 + j) else .c 0).val _ = keyW m zk j
    rw [keyW_short h1]
    by_cases c : j < m
    · rw [if_pos (by simpa using c), if_pos c]
      exact nuM_k hj
    · rw [if_neg (by simpa using c), if_neg c]
      rfl
  | l =>
    have h : 64 < nk := h
    show (if Nat.blt j 32 then AI.s (700 + j) else .c 0).val _ = keyW nk zk j
    rw [keyW_long h]
    by_cases c : j < 32
    · rw [if_pos (by simpa using c), if_pos c]
      exact nuM_T c
    · rw [if_neg (by simpa using c), if_neg c]
      rfl
theorem ky_F {k : Ky} (h : k.Fits nk) : k.F.Hold (nuM nk nb zk zb) := by
  cases k with
  | a => exact none_f _
  | b => exact none_f _
  | s m => exact none_f _
  | l =>
    refine ⟨fun p hp => (by cases hp), fun p hp => ?_, fun p hp => by cases hp⟩
    simp only [Ky.F, List.mem_cons, List.not_mem_nil, or_false] at hp
    subst hp
    have h : 64 < nk := h
    show decide (nuM nk nb zk zb (pinL (tg 2)) > ((64 : Nat) : Int)) = true
    rw [nuM_L (by decide)]
    exact decide_eq_true (show ((nk : Nat) : Int) > ((64 : Nat) : Int) by omega)
end
theorem hd_text {ν : Nat → Int} {u : Hd} {blk t n : Nat} {z : Wd} (hu : u.Fits n) (ht : mapTag < tg t ∧ tg t ≤ winTag) (hK : pinK (tg t) = .u8) (hL : ν (pinL (tg t)) = (n : Int)) (hB : ∀ j, j < n → ν (pinB (tg t) j) = z j) : IsText ν (u.gl blk (tg t)) (u.av blk (tg t)) n z := by
  cases u
  · have h : n = 0 := hu
    subst h; exact isText_nsl
  · have h : n = 0 := hu
    subst h; exact isText_sle
  · exact isText_pin List.mem_cons_self ht hK hu hL hB
theorem maM_ok {k : Ky} {u : Hd} {nk nb : Nat} {zk zb : Wd} (hk : k.Fits nk) (hu : u.Fits nb) (h1 : nk < 1000000000) (h2 : nb < 900000000) : ∀ r ∈ maM k u, r.Ok (nuM nk nb zk zb) Tryd.prog gl256 := by
  have hT : ∀ t, 0 < t → t < 1000 → mapTag < tg t ∧ tg t ≤ winTag := fun t h0 h9 => by
    unfold tg winTag mapTag
    omega
  have pt : ∀ b t n, 0 < t → t < 1000 → t % 2 = 0 → lnM nk nb t = n → 0 < n → n < 1000000000 → IsText (nuM nk nb zk zb) [pin8 b t] (sl8 b t) n (zM (keyW nk zk) zk zb (sum256 (padW (keyW nk zk) 54 zb) (64 + nb)) t) := fun b t n h0 h9 h3 h4 h5 h6 =>
    isText_pin List.mem_cons_self (hT t h0 h9) (tg_Ke h3) h5 (by rw [nuM_L h0, h4]) fun j hj => nuM_B h0 (by omega)
  have tb := hd_text (ν := nuM nk nb zk zb) (blk := 65) (t := 4) (z := zb) hu (hT 4 (by decide) (by decide)) (tg_Ke (by decide)) (nuM_L (by decide)) fun j hj => nuM_B (by decide) (by omega)
  have ti : ∀ b, IsText (nuM nk nb zk zb) [inB1 b] (slO b) 32 (sum256 (padW (keyW nk zk) 54 zb) (64 + nb)) := fun b => isText_row (off := 0) (n := 32) (f := nmA 0) (e := eO) (own := true) List.mem_cons_self (by decide) (by decide) (by decide) fun j hj => by
    rw [nm_val, Nat.zero_add, Nat.zero_add]
    exact nuM_S hj
  intro r hr
  simp only [maM, List.mem_cons, List.not_mem_nil, or_false] at hr
  rcases hr with rfl | rfl | rfl | rfl | rfl
  · -- where the key is short this row is never asked for: it says something all the same
    by_cases h0 : 0 < nk
    · exact rowS_T (pt 64 2 nk (by decide) (by decide) (by decide) rfl h0 h1) (by omega) fun j hj => nuM_T hj
    · obtain rfl : nk = 0 := by omega
      refine ⟨⟨_, Tryd.func14, by kernel_rfl, by kernel_rfl⟩, fun ρ w vs hw hnd hl => ?_⟩
      obtain ⟨v, rfl, hv⟩ := one_arg hl
      cases hv
      rename_i q m c hle hq hnn hcap
      have hm : m = 0 := by
        have h9 : nuM 0 nb zk zb (pinL (tg 2)) = (m : Int) := hnn
        rw [nuM_L (by decide)] at h9
        have h9 : ((0 : Nat) : Int) = (m : Int) := h9
        omega
      subst hm
      exact (Sum256_ok hw (.inl ⟨rfl, .inr ⟨_, _, rfl⟩⟩ : TextAt w _ 0 zk) (by decide)).2.mono fun e w' ⟨he, hB⟩ => ⟨[_], he, packR (fun j hj => nuM_T hj), hB⟩
  · exact rowPd_ok (fun j hj => ky_f hk hj) tb (by omega) (hT 6 (by decide) (by decide)) (tg_Ke (by decide)) (nuM_L (by decide)) fun j hj => nuM_B (by decide) (by omega)
  · exact rowS_T (pt k.at 6 (64 + nb) (by decide) (by decide) (by decide) rfl (by omega) (by omega)) (by omega) fun j hj => by rw [nm_val, Nat.zero_add]; exact nuM_S hj
  · exact rowPd_ok (fun j hj => ky_f hk hj) (ti _) (by decide) (hT 8 (by decide) (by decide)) (tg_Ke (by decide)) (nuM_L (by decide)) fun j hj => nuM_B (by decide) (by omega)
  · exact rowS_T (pt (k.at + 2) 8 96 (by decide) (by decide) (by decide) rfl (by decide) (by decide)) (by decide) fun j hj => nuM_O hj
/-- WHAT IT ANSWERS. -/
theorem Mac_ok {w : World} {vk vb : Value} {nk nb : Nat} {zk zb : Wd} (hw : Laid gl256 w) (hvk : TextAt w vk nk zk) (hvb : TextAt w vb nb zb) (h1 : nk < 1000000000) (h2 : nb < 900000000) :
    Calls Tryd.prog 20 #[vk, vb] w fun e w' => e = .returned (aggI .u8 32 (hmac (keyW nk zk) nb zb)) ∧ Below w.heap.size w w' := by
  obtain ⟨u, pb, hb⟩ := text_came hvb
  have hu := hb.fits
  -- the key
  obtain ⟨k, pk, hk, hkv⟩ : ∃ (k : Ky) (pk : Option Pl), k.Fits nk ∧ ∀ gp : Nat → Option Pl, gp 64 = pk → VR (nuM nk nb zk zb) (embF gp) k.av vk ∧ ∀ p ∈ k.gl, p.1 = 64 ∧ p.2.elem < winTag ∧ p.2.elem ≠ mapTag ∧ (∃ us, concL (nuM nk nb zk zb) p.2.cells = some us) ∧ ∃ pl', gp 64 = some pl' ∧ BR (nuM nk nb zk zb) (embF gp) w p.2.shut pl' := by
    rcases hvk with ⟨rfl, rfl | ⟨a, c, rfl⟩⟩ | ⟨h0, cb, o, c, rfl, hle, hz⟩
    · exact ⟨.a, none, rfl, fun gp _ => ⟨.nsl, fun p hp => by cases hp⟩⟩
    · exact ⟨.b, none, rfl, fun gp _ => ⟨.sle _ _ _ (fun h => by cases h), fun p hp => by cases hp⟩⟩
    · by_cases hlong : 64 < nk
      · have hcm : Came w (.slice (some ⟨cb, o, none⟩) nk c) .c nk zk (some ⟨cb, o, 0⟩) := ⟨cb, o, c, rfl, hle, h0, hz, rfl⟩
        refine ⟨.l, some ⟨cb, o, 0⟩, hlong, fun gp hg => ?_⟩
        obtain ⟨q1, q2⟩ := hcm.here (ν := nuM nk nb zk zb) (gp := gp) (blk := 64) (T := tg 2) (by decide) hg ⟨by decide, by decide⟩ (tg_Ke (by decide)) (nuM_L (by decide)) fun j hj => nuM_B (by decide) (by omega)
        refine ⟨q1, fun p hp => ?_⟩
        obtain ⟨r1, r2, pl', r3, r4⟩ := q2 p hp
        simp only [Ky.gl, List.mem_cons, List.not_mem_nil, or_false] at hp
        subst hp
        exact ⟨rfl, by decide, by decide, ⟨[], rfl⟩, pl', r3, r4.shut⟩
      · refine ⟨.s nk, some ⟨cb, o, 0⟩, ⟨rfl, h0, by omega⟩, fun gp hg => ⟨.sl 64 0 _ .any ⟨cb, o, 0⟩ nk c ((embF_other (by decide)).trans hg) rfl trivial hle, fun p hp => ?_⟩⟩
        simp only [Ky.gl, List.mem_cons, List.not_mem_nil, or_false] at hp
        subst hp
        refine ⟨rfl, show (0 : Nat) < winTag by decide, show (0 : Nat) ≠ mapTag by decide, ⟨_, concL_row .u8 (nmA 1000) nk⟩, _, hg, ?_⟩
        exact (hz.br (by decide) fun j hj => by rw [nm_val]; exact nuM_k (by omega) : BR _ _ w ⟨rowC .u8 (nmA 1000) nk, 0, false⟩ ⟨cb, o, 0⟩).shut
  let gp : Nat → Option Pl := fun b => if b = 64 then pk else if b = 65 then pb else none
  obtain ⟨k1, k2⟩ := hkv gp rfl
  obtain ⟨b1, b2⟩ := hb.here (ν := nuM nk nb zk zb) (gp := gp) (blk := 65) (T := tg 4) (by decide) rfl ⟨by decide, by decide⟩ (tg_Ke (by decide)) (nuM_L (by decide)) fun j hj => nuM_B (by decide) (by omega)
  have hcon : conc2 (nuM nk nb zk zb) outM = some (aggI .u8 32 (hmac (keyW nk zk) nb zb)) := (conc2_row (ν := nuM nk nb zk zb) .u8 (nmA 100) 31).trans (congrArg some (aggI_congr fun j hj => nuM_O hj))
  have hres : concT (nuM nk nb zk zb) [outM] = some [aggI .u8 32 (hmac (keyW nk zk) nb zb)] := by
    show (match conc2 (nuM nk nb zk zb) outM, concT (nuM nk nb zk zb) [] with | some v, some l => some (v :: l) | _, _ => none) = _
    rw [hcon]
    rfl
  have row := rowM_of (need := k.gl ++ u.gl 65 (tg 4)) (res := [outM]) (us := [aggI .u8 32 (hmac (keyW nk zk) nb zb)]) (ky_F hk) mixed tab_ok gl256_ok (fun r hr => by cases hr) (fun r hr => by cases hr) (maM_ok hk hu h1 h2) (ma_all (u := u) hk) (by decide) (fun p hp => ?_) (by
    cases k <;> cases u <;> rfl) hres hcon
  · refine (row.2 (embF gp) w #[vk, vb] hw (fun p hp => ?_) (lr_of (vs := [vk, vb]) ⟨k1, b1, trivial⟩)).mono fun e w' ⟨us, he, hp, hB⟩ => ⟨?_, hB⟩
    · rcases List.mem_append.1 hp with hp | hp
      · obtain ⟨q1, _, _, _, pl', q3, q4⟩ := k2 p hp
        exact ⟨pl', by rw [q1]; exact (embF_other (by decide)).trans q3, q4⟩
      · obtain ⟨q1, _, pl', q3, q4⟩ := b2 p hp
        exact ⟨pl', by rw [q1]; exact (embF_other (by decide)).trans q3, q4.shut⟩
    · match us, hp with
      | [v], hp =>
        have h9 : conc2 (nuM nk nb zk zb) outM = some v := hp.1
        rw [hcon] at h9
        cases h9
        exact he
  · rcases List.mem_append.1 hp with hp | hp
    · obtain ⟨q1, _, q2, ⟨us, q3⟩, _⟩ := k2 p hp
      exact ⟨by rw [q1]; decide, q2, us, q3⟩
    · obtain ⟨q1, _⟩ := b2 p hp
      refine ⟨by rw [q1]; decide, ?_, [], ?_⟩
      · cases u
        · cases hp
        · cases hp
        · simp only [Hd.gl, List.mem_cons, List.not_mem_nil, or_false] at hp
          subst hp
          show tg 4 ≠ mapTag
          decide
      · cases u
        · cases hp
        · cases hp
        · simp only [Hd.gl, List.mem_cons, List.not_mem_nil, or_false] at hp
          subst hp
          rfl
/-- Its call, as a row. -/
theorem rowMac_T {ν : Nat → Int} {need : Gl} {x y : AV} {nk nb : Nat} {zk zb : Wd} {g : Nat → AI} (hx : IsText ν need x nk zk) (hy : IsText ν need y nb zb) (h1 : nk < 1000000000) (h2 : nb < 900000000) (hg : ∀ j, j < 32 → (g j).val ν = hmac (keyW nk zk) nb zb j) : RowM.Ok ν Tryd.prog gl256 ⟨20, [x, y], need, [.v (.ag (rowC .u8 g 32))]⟩ := by
  refine ⟨⟨_, Tryd.func20, by kernel_rfl, by kernel_rfl⟩, fun ρ w vs hw hnd hl => ?_⟩
  obtain ⟨u, v, rfl, hu, hv⟩ := two_args hl
  exact (Mac_ok hw (hx ρ w u hnd hu) (hy ρ w v hnd hv) h1 h2).mono fun e w' ⟨he, hB⟩ => ⟨[_], he, packR hg, hB⟩
end Go.Proofs.YtjdcaipgfolgoaaDoor
