/-
  Calls over texts where but the numbers of SHA-256 are laid, as rows; what a call answers that is a text; mac.padded. Own work.
-/
import Derived.Test.YtjdcaipgfolgoaaDoorXe
namespace Go.Proofs.YtjdcaipgfolgoaaDoor
open Go.Sh
open Go.ChangeShapes Go.WideShapes Go.ChangeAt Go.RowKit
set_option maxRecDepth 100000

section
variable {ν : Nat → Int} {need : Gl} {x y : AV} {n : Nat} {z : Wd} {g : Nat → AI}
theorem rowS_T (hx : IsText ν need x n z) (hn : n < 100000000000) (hg : ∀ j, j < 32 → (g j).val ν = sum256 z n j) : (rowF 14 x need (rowC .u8 g 32)).Ok ν Tryd.prog gl256 := by
  refine ⟨⟨_, Tryd.func14, by kernel_rfl, by kernel_rfl⟩, fun ρ w vs hw hnd hl => ?_⟩
  obtain ⟨u, rfl, hu⟩ := one_arg hl
  exact (Sum256_ok hw (hx ρ w u hnd hu) (by omega)).2.mono fun e w' ⟨he, hB⟩ => ⟨[_], he, packR hg, hB⟩
theorem rowR_T (hx : IsText ν need x n z) (hb : Bytes z n) (hn : n < 100000000000) (hg : ∀ j, j < 32 → (g j).val ν = sum256 z n j) : (rowF 15 x need (rowC .u8 g 32)).Ok ν Tryd.prog gl256 := by
  refine ⟨⟨_, Tryd.func15, by kernel_rfl, by kernel_rfl⟩, fun ρ w vs hw hnd hl => ?_⟩
  obtain ⟨u, rfl, hu⟩ := one_arg hl
  exact (PSum256_ok (hx ρ w u hnd hu) hb hn).2.mono fun e w' ⟨he, hB⟩ => ⟨[_], he, packR hg, hB⟩
theorem rowTw_T {T : Nat} (hx : IsText ν need x n z) (h0 : 0 < n) (hn : n < 100000000000) (hT : mapTag < T ∧ T ≤ winTag) (hK : pinK T = .u8) (hL : ν (pinL T) = (n : Int)) (hB : ∀ j, j < n → ν (pinB T j) = z j) : (rowTw T x need).Ok ν Tryd.prog gl256 := by
  refine ⟨⟨_, Tryd.func13, by kernel_rfl, by kernel_rfl⟩, fun ρ w vs hw hnd hl => ?_⟩
  obtain ⟨u, rfl, hu⟩ := one_arg hl
  rcases hx ρ w u hnd hu with ⟨h, _⟩ | ⟨_, cb, o, c, rfl, hle, hz⟩
  · omega
  refine (twin_ok h0 hle hz (by omega)).2.mono fun e w' ⟨u, he, ⟨cb', o', c', hr, hc, hcb, C, ty, fz, hC, hzz⟩, hBw⟩ => ⟨[u], he, ⟨⟨hT, cb', o', n, c', hr, hc, hL, hcb, C, ty, fz, hC, fun j hj => ?_⟩, trivial⟩, hBw⟩
  have hj : (j : Int) < ν (pinL T) := hj
  rw [hL] at hj
  rw [hK, hB j (by omega)]
  exact hzz j (by omega)
theorem rowEq_T (hx : IsText ν need x n z) (hy : IsText ν need y n z) (h0 : 0 < n) (hn : n < 100000000000) : (rowEq x y need).Ok ν Tryd.prog gl256 := by
  refine ⟨⟨_, Tryd.func18, by kernel_rfl, by kernel_rfl⟩, fun ρ w vs hw hnd hl => ?_⟩
  obtain ⟨u, v, rfl, hu, hv⟩ := two_args hl
  rcases hx ρ w u hnd hu with ⟨h, _⟩ | ⟨_, cb, o, c, rfl, hle, hz⟩
  · omega
  rcases hy ρ w v hnd hv with ⟨h, _⟩ | ⟨_, cb', o', c', rfl, hle', hz'⟩
  · omega
  exact (bytes_ok h0 hle hle' hz hz' (by omega)).2.mono fun e w' ⟨he, hB⟩ => ⟨[.bool true], he, ⟨rfl, trivial⟩, hB⟩
end
/-! What a call answers: new memory. -/
theorem win_padded {ν : Nat → Int} {ρ : Emb} {H : AH} {w w' : World} {v : Value} {N t m : Nat} {k l : AI} {cap : Cap} {p : Wd} {L : List (Nat × Pl)} (hh : HR ν ρ H w') (hget : H.get N = some ⟨[], wg t, true⟩) (ho : ∀ cb, Owned ρ H cb → w.heap.size ≤ cb ∨ ∃ q ∈ L, q.2.cb = cb) (hL0 : L = []) (hv : VR ν ρ (.slw N 1 k 0 l cap) v)
    (ht : 0 < t) (hK : pinK (tg t) = .u8) (hk : k.val ν = ν (pinA (tg t))) (hl : l.val ν = (m : Int)) (hL : (m : Int) ≤ ν (pinL (tg t))) (hB : ∀ j, j < m → ν (pinB (tg t) j) = p j) : Padded w w' v m p := by
  obtain ⟨pl, k1, k2⟩ := hh.blk _ _ hget
  have hp := br_win (wg_map t) (wg_big ht) (wg_sub t) k2
  obtain ⟨C, ty, fz, o, a, r1, r2, r3, r4⟩ := hp
  cases hv
  rename_i q o' a1 n' cc h7 h8 h1 h3 h2 h4 h5 h6
  have h1 : ρ N = some q := h1
  rw [k1] at h1
  cases h1
  have e1 : a1 = a := by rw [hk, r2] at h2; omega
  subst e1
  have e2 : o' = o := by omega
  subst e2
  have e3 : n' = m := by rw [hl] at h5; omega
  subst e3
  refine ⟨pl.cb, o', cc, rfl, h7, ?_, C, ty, fz, r1, fun j hj => ?_⟩
  · rcases ho pl.cb ⟨N, _, pl, hget, rfl, k1, rfl⟩ with h | ⟨q, hq, _⟩
    · exact h
    · rw [hL0] at hq
      cases hq
  · rw [r4 j (by omega) (by simp; omega), hK, hB j hj]
theorem row_padded {ν : Nat → Int} {ρ : Emb} {H : AH} {w w' : World} {v : Value} {N e m n : Nat} {cap : Cap} {f : Nat → AI} {p : Wd} {L : List (Nat × Pl)} (hh : HR ν ρ H w') (hget : H.get N = some ⟨rowC .u8 f n, e, true⟩) (he : e < mapTag) (hmn : m ≤ n) (ho : ∀ cb, Owned ρ H cb → w.heap.size ≤ cb ∨ ∃ q ∈ L, q.2.cb = cb) (hL0 : L = []) (hv : VR ν ρ (.sl N 0 (nA m) cap) v)
    (hp : ∀ j, j < m → (f j).val ν = p j) : Padded w w' v m p := by
  obtain ⟨pl, k1, k2⟩ := hh.blk _ _ hget
  cases hv
  rename_i q m' c hle hq hnn hcap
  have hq : ρ N = some q := hq
  rw [k1] at hq
  cases hq
  have hm : m' = m := by
    have : ((m : Nat) : Int) = (m' : Int) := hnn
    omega
  subst hm
  obtain ⟨C, t, q1, q2, q3⟩ := br_own k2 he
  refine ⟨pl.cb, pl.co, c, rfl, hle, ?_, C, t, (0, 0), q1, fun j hj => ?_⟩
  · rcases ho pl.cb ⟨N, _, pl, hget, rfl, k1, rfl⟩ with h | ⟨q, hq, _⟩
    · exact h
    · rw [hL0] at hq
      cases hq
  · rw [q3 j (by omega)]
    exact congrArg (fun x => some (Value.int .u8 x)) (hp j hj)
/-! mac.padded -/
def pdm : IC := t37.body
theorem pdm_shape : t37 = ⟨pdm, [.t 6], 28⟩ := by kernel_rfl
def xorA (j : Nat) : AI := .e .xor .u8 (.s (100 + j)) (.s 300)
def kyA : AV := .ag (rowC .u8 (nmA 100) 64)
def pd0 (s : Hd) : Now := ⟨[(0, kyA), (1, .i .u8 (.s 300)), (2, s.av 64 (tg 2))], s.gl 64 (tg 2), 65⟩
def lnP : AI := .s (pinL (tg 2))
def rmP : AI := .e .add .i64 (nA 64) lnP
def fPd : Facts := ⟨[], [(.geq, rmP, .c 0, true), (.lss, rmP, .c 1099511627776, true), (.gtr, lnP, .c 0, true), (.lss, lnP, .c 1099511627776, true), (.eql, .s (pinA (tg 4)), .s (pinL (tg 4)), true), (.lss, .s (pinL (tg 4)), .c 1099511627776, true)], [(0, (List.range 64).map xorA, tg 2, tg 4)]⟩
def pd1 : Now := ⟨[(6, slE 195 (tg 4) 0)], [(195, ⟨[], wg 4, true⟩)], 196⟩
def pd2 : Now := ⟨[(6, .sl 66 0 (nA 64) (.ex 64))], [(66, ⟨rowC .u8 xorA 64, eU, true⟩)], 131⟩
theorem pd_goC : goesX fPd tree [] [] [] [] [] 300 4 pdm (pd0 .c) .ret pd1 = true := by kernel_rfl
theorem pd_goA : goesX noFacts tree [] [] [] [] [] 300 4 pdm (pd0 .a) .ret pd2 = true := by kernel_rfl
theorem pd_goB : goesX noFacts tree [] [] [] [] [] 300 4 pdm (pd0 .b) .ret pd2 = true := by kernel_rfl
/-- A key, each byte xor the pad, and a text behind it. -/
def padW (K : Wd) (p : Int) (z : Wd) : Wd := fun j => if j < 64 then arith .xor .u8 (K j) p else z (j - 64)
def lnPd (n t : Nat) : Nat := if t = 2 then n else 64 + n
def zPd (K : Wd) (p : Int) (z : Wd) (t : Nat) : Wd := if t = 2 then z else padW K p z
def nuPd (K : Wd) (p : Int) (n : Nat) (z : Wd) : Nat → Int := nuR (fun k => if k < 100 then 0 else if k < 164 then K (k - 100) else p) (lnPd n) (fun _ => 64 + n) (zPd K p z)
section
variable {K : Wd} {p : Int} {n : Nat} {z : Wd}
theorem nuPd_K {j : Nat} (h : j < 64) : nuPd K p n z (100 + j) = K j := by
  unfold nuPd
  rw [nuR_lo (by omega), if_neg (by omega), if_pos (by omega), Nat.add_sub_cancel_left]
theorem nuPd_p : nuPd K p n z 300 = p := rfl
theorem nuPd_L {t : Nat} (ht : 0 < t) : nuPd K p n z (pinL (tg t)) = (lnPd n t : Int) := nuR_L ht
theorem nuPd_A {t : Nat} (ht : 0 < t) : nuPd K p n z (pinA (tg t)) = ((64 + n : Nat) : Int) := nuR_A ht
theorem nuPd_B {t j : Nat} (ht : 0 < t) (hj : j < 1099511627774) : nuPd K p n z (pinB (tg t) j) = zPd K p z t j := nuR_B ht hj
theorem xorA_val {j : Nat} (h : j < 64) : (xorA j).val (nuPd K p n z) = padW K p z j := by
  show arith .xor .u8 (nuPd K p n z (100 + j)) (nuPd K p n z 300) = _
  rw [nuPd_K h, nuPd_p]
  exact (if_pos h).symm
theorem fPd_hold (h0 : 0 < n) (hn : n < 1000000000) : fPd.Hold (nuPd K p n z) := by
  have e2 : lnP.val (nuPd K p n z) = (n : Int) := nuPd_L (by decide)
  have er : rmP.val (nuPd K p n z) = ((64 + n : Nat) : Int) := by
    show IntKind.i64.wrap (((64 : Nat) : Int) + lnP.val (nuPd K p n z)) = _
    rw [e2, i64_small (by omega) (by omega)]
    omega
  refine ⟨fun q hq => (by cases hq), fun q hq => ?_, fun q hq => ?_⟩
  · simp only [fPd, List.mem_cons, List.not_mem_nil, or_false] at hq
    rcases hq with rfl | rfl | rfl | rfl | rfl | rfl
    · show decide (rmP.val (nuPd K p n z) ≥ 0) = true
      rw [er]
      exact decide_eq_true (by omega)
    · show decide (rmP.val (nuPd K p n z) < 1099511627776) = true
      rw [er]
      exact decide_eq_true (by omega)
    · show decide (lnP.val (nuPd K p n z) > 0) = true
      rw [e2]
      exact decide_eq_true (by omega)
    · show decide (lnP.val (nuPd K p n z) < 1099511627776) = true
      rw [e2]
      exact decide_eq_true (by omega)
    · show (nuPd K p n z (pinA (tg 4)) == nuPd K p n z (pinL (tg 4))) = true
      rw [nuPd_A (by decide), nuPd_L (by decide)]
      exact beq_self_eq_true _
    · show decide (nuPd K p n z (pinL (tg 4)) < 1099511627776) = true
      rw [nuPd_L (by decide)]
      exact decide_eq_true (show ((64 + n : Nat) : Int) < 1099511627776 by omega)
  · simp only [fPd, List.mem_cons, List.not_mem_nil, or_false] at hq
    subst hq
    refine ⟨by show 0 ≤ nuPd K p n z (pinL (tg 4)); rw [nuPd_L (by decide)]; omega, ?_⟩
    show lst _ (tg 4) = lst0 _ 0 ++ ((List.range 64).map xorA).map (AI.val _) ++ lst0 _ (tg 2)
    rw [lst0_zero, lst0_row _ (by decide), List.nil_append, List.map_map]
    refine List.ext_getElem? fun j => ?_
    rw [lst_get (nuPd_L (t := 4) (by decide)), List.getElem?_append, lst_get (nuPd_L (t := 2) (by decide))]
    show (if j < 64 + n then _ else none) = _
    simp only [List.length_map, List.length_range]
    by_cases hj : j < 64
    · rw [if_pos (by omega), if_pos hj, nuPd_B (by decide) (by omega)]
      simp only [List.getElem?_map, List.getElem?_range, hj, Option.map_some, Function.comp_apply, if_true]
      exact congrArg some (xorA_val hj).symm
    · rw [if_neg hj]
      show _ = if j - 64 < n then _ else none
      by_cases hn2 : j < 64 + n
      · rw [if_pos hn2, if_pos (by omega), nuPd_B (by decide) (by omega), nuPd_B (by decide) (by omega)]
        exact congrArg some (if_neg hj)
      · rw [if_neg hn2, if_neg (by omega)]
end
theorem paddedM_ok {w : World} {v : Value} {K : Wd} {p : Int} {n : Nat} {z : Wd} (hv : TextAt w v n z) (hn : n < 1000000000) :
    (∃ fn, Tryd.prog.funcs[37]? = some fn ∧ fn.body.isSome = true ∧ (fn.name == "runtime.NumGoroutine") = false) ∧
    Calls Tryd.prog 37 #[aggI .u8 64 K, .int .u8 p, v] w fun e w' => ∃ u, e = .returned u ∧ Padded w w' u (64 + n) (padW K p z) ∧ Below w.heap.size w w' := by
  have below : ∀ {w' : World}, BelowL [] w w' → Below w.heap.size w w' := fun hB => ⟨hB.os, hB.tape, hB.output, hB.size, fun k hk => hB.block k hk fun p hp => by cases hp⟩
  obtain ⟨s, pl, hc⟩ := text_came hv
  have hf := hc.fits
  obtain ⟨h1, h2⟩ := hc.here (ν := nuPd K p n z) (gp := fun b => if b = 64 then pl else none) (blk := 64) (T := tg 2) (by decide) rfl ⟨by decide, by decide⟩ (tg_Ke (by decide)) (nuPd_L (by decide)) fun j hj => nuPd_B (by decide) (by omega)
  have hk : VR (nuPd K p n z) (embF fun b => if b = 64 then pl else none) kyA (aggI .u8 64 K) := by
    have e : conc2 (nuPd K p n z) kyA = some (aggI .u8 64 K) := (conc2_row (ν := nuPd K p n z) .u8 (nmA 100) 63).trans (congrArg some (aggI_congr fun j hj => nuPd_K hj))
    exact (conc2_vr e).1
  have start := holdsX_start (N := 28) (ν := nuPd K p n z) (L := []) (fx := []) (kp := []) (vs := #[aggI .u8 64 K, .int .u8 p, v]) (e0 := (pd0 s).e) (H0 := s.gl 64 (tg 2)) (n0 := 65) gl0_ok (w := w) (fun p hp => by cases hp) (fun b => if b = 64 then pl else none) (by show 3 ≤ 28; decide) (by decide) (fun b hb => if_neg (by omega)) (fun p hp => by cases hp)
    (fun q hq => by
      simp only [pd0, List.mem_cons, List.not_mem_nil, or_false] at hq
      rcases hq with rfl | rfl | rfl
      · exact ⟨_, rfl, hk⟩
      · refine ⟨_, rfl, ?_⟩
        have : p = (AI.s 300).val (nuPd K p n z) := nuPd_p.symm
        rw [this]
        exact .i _ _
      · exact ⟨_, rfl, h1⟩)
    (fun q hq => by
      obtain ⟨q1, q2, pl', q3, q4⟩ := h2 q hq
      exact ⟨by rw [q1]; decide, pl', by rw [q1]; exact q3, q4, fun h => by rw [q2] at h; cases h⟩)
    (fun p hp => by cases hp)
  refine And.imp id (fun h2 => h2.mono fun e w' ⟨u, he, hv, hB⟩ => ⟨u, he, hv, hB⟩) (callsX (L := []) (gl := []) (Q := fun u w' => Padded w w' u (64 + n) (padW K p z) ∧ Below w.heap.size w w') tab_ok (by kernel_rfl) pdm_shape start ?_)
  have known : ∀ {s : Hd}, goesX noFacts tree [] [] [] [] [] 300 4 pdm (pd0 s) .ret pd2 = true → n = 0 → Tri Tryd.prog 28 pdm (HoldsX 28 w (nuPd K p n z) [] [] [] [] (pd0 s)) fun ex a w' => (ex = .normal ∨ ex = .ret) ∧ ∃ (ν' : Nat → Int) (o : Now) (r : AV) (fx' : List (Nat × Pl)) (kp' : List (Nat × Obj)), HoldsX 28 w ν' [] [] fx' kp' o a w' ∧ resA (trL o.e) (heapL (o.H ++ []) o.n) [.t 6] = some r ∧
      ∀ ρ v, (∀ p ∈ fx', ρ p.1 = some p.2) → HR ν' ρ (heapL (o.H ++ []) o.n) w' → (∀ cb, Owned ρ (heapL (o.H ++ []) o.n) cb → w.heap.size ≤ cb ∨ ∃ p ∈ ([] : List (Nat × Pl)), p.2.cb = cb) → BelowL [] w w' → VR ν' ρ r v → Padded w w' v (64 + n) (padW K p z) ∧ Below w.heap.size w w' := fun hgo h0 => by
    refine (Tri.runX (L := []) (fx := []) (kp := []) (w0 := w) (none_f _) mixed tab_ok gl0_ok (fun r hr => by cases hr) (fun r hr => by cases hr) (fun r hr => by cases hr) (fun r hr => by cases hr) hgo).weak (fun _ _ h => h) fun ex a w' h => ⟨.inr h.1, _, pd2, .sl 66 0 (nA 64) (.ex 64), [], [], h.2, by kernel_rfl, fun ρ v _ hh ho hB hv => ⟨?_, below hB⟩⟩
    subst h0
    exact row_padded (e := eU) (n := 64) hh (by kernel_rfl) (by decide) (Nat.le_refl _) ho rfl hv fun j hj => xorA_val hj
  cases s
  · exact known pd_goA hf
  · exact known pd_goB hf
  · refine (Tri.runX (L := []) (fx := []) (kp := []) (w0 := w) (fPd_hold hf hn) mixed tab_ok gl0_ok (fun r hr => by cases hr) (fun r hr => by cases hr) (fun r hr => by cases hr) (fun r hr => by cases hr) pd_goC).weak (fun _ _ h => h) fun ex a w' h => ⟨.inr h.1, _, pd1, slE 195 (tg 4) 0, [], [], h.2, by kernel_rfl, fun ρ v _ hh ho hB hv => ⟨?_, below hB⟩⟩
    exact win_padded (t := 4) (k := .s (pinA (tg 4))) (l := .s (pinA (tg 4))) hh (by kernel_rfl) ho rfl hv (by decide) (tg_Ke (by decide)) rfl (nuPd_A (by decide)) (by rw [nuPd_L (by decide)]; exact Int.le_refl _) fun j hj => nuPd_B (by decide) (by omega)
/-- Its call, as a row. -/
def rowPd (f : Nat → AI) (p : Nat) (x : AV) (need : Gl) (T : Nat) : RowM := ⟨37, [.ag (rowC .u8 f 64), .i .u8 (nA p), x], need, [.new T]⟩
theorem rowPd_ok {ν : Nat → Int} {gl need : Gl} {f : Nat → AI} {K : Wd} {p : Nat} {x : AV} {n T : Nat} {z : Wd} (hf : ∀ j, j < 64 → (f j).val ν = K j) (hx : IsText ν need x n z) (hn : n < 1000000000) (hT : mapTag < T ∧ T ≤ winTag) (hK : pinK T = .u8) (hL : ν (pinL T) = ((64 + n : Nat) : Int)) (hB : ∀ j, j < 64 + n → ν (pinB T j) = padW K p z j) : (rowPd f p x need T).Ok ν Tryd.prog gl := by
  refine ⟨⟨_, Tryd.func37, by kernel_rfl, by kernel_rfl⟩, fun ρ w vs hw hnd hl => ?_⟩
  have hlen : vs.size = 3 := by rw [← hl.1]; rfl
  obtain ⟨u, s, t, rfl⟩ : ∃ u s t, vs = #[u, s, t] := by
    match vs, hlen with
    | ⟨[u, s, t]⟩, _ => exact ⟨u, s, t, rfl⟩
  have hu := hl.2 0 _ u rfl rfl
  have hs := hl.2 1 _ s rfl rfl
  have ht := hl.2 2 _ t rfl rfl
  have e : conc2 ν (.ag (rowC .u8 f 64)) = some (aggI .u8 64 K) := (conc2_row (ν := ν) .u8 f 63).trans (congrArg some (aggI_congr hf))
  have hu := (conc2_vr e).2 u hu
  subst hu
  cases hs
  refine (paddedM_ok (hx ρ w t hnd ht) hn).2.mono fun e w' ⟨r, he, ⟨cb, o, c, hr, hc, hcb, C, ty, fz, hC, hz⟩, hBw⟩ => ⟨[r], he, ⟨⟨hT, cb, o, 64 + n, c, hr, hc, hL, hcb, C, ty, fz, hC, fun j hj => ?_⟩, trivial⟩, hBw⟩
  have hj : (j : Int) < ν (pinL T) := hj
  rw [hL] at hj
  rw [hK, hB j (by omega)]
  exact hz j (by omega)
end Go.Proofs.YtjdcaipgfolgoaaDoor
