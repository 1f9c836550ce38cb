/-
  KNOWNESTS: the walk. Own work.
-/
import Derived.Test.YtikbeagcflofhaaKMd
namespace Go.Proofs.Ytikbeagcflofhaa
open Go.RowKit Go.Maps
set_option maxRecDepth 100000
attribute [local go_sem ↓] Go.wp_at_zero Go.wp_at_succ
theorem nest_put0 : put ([] : List Tm) (1, 0, []) = (0, 0, [(1, 0, [])]) := by decide +kernel
theorem lastA_lt {L : List Tm} {x0 : Nat} {rs : List Rd} (N : Nest L x0 rs) : lastA x0 rs < L.length := by
  cases h : rs.length with
  | zero =>
    obtain rfl := List.eq_nil_of_length_eq_zero h
    exact (List.getElem?_eq_some_iff.1 N.x).1
  | succ n =>
    obtain ⟨r, hr⟩ : ∃ r, rs[n]? = some r := ⟨_, List.getElem?_eq_getElem (by omega)⟩
    rw [lastA_at hr (by omega)]
    exact (List.getElem?_eq_some_iff.1 (N.ok n r hr).a).1
theorem rdw_pos {w : World} {p : Option Addr} {n c t : Nat} {xs : List Int} (h : RdW w (.slice p n c) xs) (ht : t < xs.length) : ∃ b o, p = some ⟨b, o, none⟩ ∧ b < w.heap.size ∧ w.cell? ⟨b, o + t, none⟩ = some (.int .i64 (xs.getD t 0)) := by
  obtain ⟨p', c', e, rfl | ⟨b, o, rfl, hb, hc⟩⟩ := h
  · exact absurd ht (Nat.not_lt_zero _)
  · cases e
    exact ⟨b, o, rfl, hb, hc t ht⟩
theorem rdb_pos {w : World} {p : Option Addr} {n c t : Nat} {hs : List Bool} (h : RdB w (.slice p n c) hs) (ht : t < hs.length) : ∃ b o, p = some ⟨b, o, none⟩ ∧ b < w.heap.size ∧ w.cell? ⟨b, o + t, none⟩ = some (.bool (bt hs t)) := by
  obtain ⟨p', c', e, rfl | ⟨b, o, rfl, hb, hc⟩⟩ := h
  · exact absurd ht (Nat.not_lt_zero _)
  · cases e
    exact ⟨b, o, rfl, hb, hc t ht⟩
structure Wn (rs : List Rd) (hs : List Bool) (xs : List Int) (al : Bool) : Prop where
  mem : ∀ x, x ∈ xs ↔ ∃ (j : Nat) (r : Rd), rs[j]? = some r ∧ bt hs j = true ∧ x = (r.k : Int)
  all : al = true ↔ ∀ (j : Nat) (r : Rd), rs[j]? = some r → r.q ≤ 1 → bt hs j = true
  len : xs.length ≤ rs.length
theorem Wn.start (hs : List Bool) : Wn [] hs [] true := ⟨fun x => by simp, by simp, by simp⟩
theorem know_is_n {w0 wr : World} {aa : Nat} {L : List Tm} {G : Nat → Prop} (T : Hid (On w0 wr aa L G)) {p : Option Addr} {n c : Nat} {xs : List Int} (hn : xs.length = n) (R : Hid (RdW wr (.slice p n c) xs)) (hx : n ≤ 100000) (hlt : L.length ≤ 900) (hA : Hid (allIn L xs)) (i : Nat) (hi : i < L.length) : Calls Try.prog 15 #[.pointer (some ⟨aa, 0, none⟩), .slice p n c, .int .i64 i] wr fun e w' =>
    ∃ b, e = .returned (.tuple #[.bool b, .int .i64 0]) ∧ Below wr.heap.size wr w' ∧ (b = true ↔ Kn L (· ∈ xs.map Int.toNat) i) := by
  subst hn
  exact know_is T R hx hlt hA i hi
theorem nests_iff {L : List Tm} {rs : List Rd} {hs : List Bool} {xs : List Int} {ab : Bool} (hW : Wf L) (N : Nest L 0 rs) (W : Wn rs hs xs ab) (hlen : rs.length ≤ 40) : Kn L (· ∈ (xs ++ [(lastA 0 rs : Int)]).map Int.toNat) 0 ↔ ab = true := by
  constructor
  · intro h
    rw [W.all]
    intro m r hr hq
    refine Classical.byContradiction fun hne => ?_
    refine N.hidden hW hlen hr hq (fun i hi => ?_) h
    obtain ⟨x, hx, rfl⟩ := List.mem_map.1 hi
    rcases List.mem_append.1 hx with hx | hx
    · obtain ⟨j, s, h1, h2, rfl⟩ := (W.mem x).1 hx
      exact .inr ⟨j, s, h1, fun e => hne (by rw [← e]; exact h2), by simp⟩
    · rw [List.mem_singleton.1 hx]
      exact .inl (by simp)
  · intro h
    refine N.shown (by simp) (fun j s h1 h2 => ?_)
    exact List.mem_map.2 ⟨(s.k : Int), List.mem_append_left _ ((W.mem _).2 ⟨j, s, h1, W.all.1 h j s h1 h2, rfl⟩), by simp⟩
theorem nests_in {L : List Tm} {rs : List Rd} {hs : List Bool} {xs : List Int} {ab : Bool} (N : Nest L 0 rs) (W : Wn rs hs xs ab) : allIn L (xs ++ [(lastA 0 rs : Int)]) := by
  intro x hx
  rcases List.mem_append.1 hx with hx | hx
  · obtain ⟨j, s, h1, h2, rfl⟩ := (W.mem x).1 hx
    have := (List.getElem?_eq_some_iff.1 (N.ok j s h1).k).1
    omega
  · rw [List.mem_singleton.1 hx]
    have := lastA_lt N
    omega
theorem Wn.yes {rs : List Rd} {hs : List Bool} {xs : List Int} {ab : Bool} (W : Wn rs hs xs ab) {r : Rd} (h : bt hs rs.length = true) : Wn (rs ++ [r]) hs (xs ++ [(r.k : Int)]) ab := by
  refine ⟨fun x => ?_, ?_, by have := W.len; simp; omega⟩
  · rw [List.mem_append, W.mem, List.mem_singleton]
    constructor
    · rintro (⟨j, s, h1, h2, h3⟩ | rfl)
      · exact ⟨j, s, by rw [List.getElem?_append_left (at_lt h1)]; exact h1, h2, h3⟩
      · exact ⟨rs.length, r, by simp, h, rfl⟩
    · rintro ⟨j, s, h1, h2, h3⟩
      rcases snoc_at h1 with h1 | ⟨rfl, rfl⟩
      · exact .inl ⟨j, s, h1, h2, h3⟩
      · exact .inr h3
  · rw [W.all]
    constructor
    · intro ha j s h1 hq
      rcases snoc_at h1 with h1 | ⟨rfl, rfl⟩
      · exact ha j s h1 hq
      · exact h
    · intro ha j s h1 hq
      exact ha j s (by rw [List.getElem?_append_left (at_lt h1)]; exact h1) hq
theorem Wn.no {rs : List Rd} {hs : List Bool} {xs : List Int} {ab : Bool} (W : Wn rs hs xs ab) {r : Rd} (h : bt hs rs.length = false) : Wn (rs ++ [r]) hs xs (if r.q ≤ 1 then false else ab) := by
  refine ⟨fun x => ?_, ?_, by have := W.len; simp; omega⟩
  · rw [W.mem]
    constructor
    · rintro ⟨j, s, h1, h2, h3⟩
      exact ⟨j, s, by rw [List.getElem?_append_left (at_lt h1)]; exact h1, h2, h3⟩
    · rintro ⟨j, s, h1, h2, h3⟩
      rcases snoc_at h1 with h1 | ⟨rfl, rfl⟩
      · exact ⟨j, s, h1, h2, h3⟩
      · rw [h] at h2
        cases h2
  · by_cases hq : r.q ≤ 1
    · rw [if_pos hq]
      constructor
      · intro e
        cases e
      · intro ha
        have := ha rs.length r (by simp) hq
        rw [h] at this
        cases this
    · rw [if_neg hq, W.all]
      constructor
      · intro ha j s h1 hq2
        rcases snoc_at h1 with h1 | ⟨rfl, rfl⟩
        · exact ha j s h1 hq2
        · exact absurd hq2 hq
      · intro ha j s h1 hq2
        exact ha j s (by rw [List.getElem?_append_left (at_lt h1)]; exact h1) hq2
set_option maxHeartbeats 32000000 in
theorem nests_low (p1 : Option Addr) (n1 c1 : Nat) (ks : List Int) (p2 : Option Addr) (n2 c2 : Nat) (hs : List Bool) (w : World) (hn1 : ks.length = n1) (hn2 : hs.length = n2) (H1 : Hid (RdW w (.slice p1 n1 c1) ks)) (H2 : Hid (RdB w (.slice p2 n2 c2) hs)) : Calls Try.prog 5 #[.slice p1 n1 c1, .slice p2 n2 c2] w fun e w' => e = .returned (.bool true) ∧ Below w.heap.size w w' := by
  obtain ⟨i0, hi', hz0, hz1, hz2⟩ := info_parts (P := Try.prog) (e := 3) (z := .int .i64 0) (size := 1) (bytes := 8) (by kernel_rfl)
  by_cases hbig : 40 < n1
  · have hI : (40 : Int) < n1 := by omega
    go_enter Try.func5, Try.ntmps5
    go_wp2
    go_ret
    exact ⟨rfl, Below.refl _ _⟩
  by_cases hbig2 : 100 < n2
  · have hI : ¬ (40 : Int) < n1 := by omega
    have hI2 : (100 : Int) < n2 := by omega
    go_enter Try.func5, Try.ntmps5
    go_wp2
    go_ret
    exact ⟨rfl, Below.refl _ _⟩
  have hI : ¬ (40 : Int) < n1 := by omega
  have hI2 : ¬ (100 : Int) < n2 := by omega
  go_enter Try.func5, Try.ntmps5
  go_wp2_with (first
    | (go_at_call 13; refine (new_ar _).mono ?_; rintro ev w1 ⟨aa, F0, rfl, A0, hF0, B0⟩; have T0 := on_fresh A0 hF0 B0; clear A0 hF0 B0)
    | (go_at_call 14; refine (make_on T0 1 0 (v := .slice none 0 0) (xs := []) (.inl ⟨rfl, rfl⟩) (by omega) nest_put0).mono ?_; rintro ev w2 ⟨rfl, T1, _⟩; clear T0))
  have R0 := T1.row0
  have N0 : Nest [(1, 0, [])] 0 [] := Nest.start rfl (fun i hi => by simp at hi; omega)
  go_loopw [7, 8, 9, 10, 11] (fun e z v al i wq => ∃ (j : Nat) (L : List Tm) (rs : List Rd) (p : Option Addr) (c : Nat) (xs : List Int) (ab : Bool), e = .int .i64 0 ∧ z = .int .i64 (lastA 0 rs) ∧ v = .slice p xs.length c ∧ al = .bool ab ∧ i = .int .i64 j ∧ j ≤ n1 ∧ rs.length = j ∧ OnRow w w2 wq aa L (fun _ => False) (.slice p xs.length c) xs ∧ Nest L 0 rs ∧ L.length ≤ 1 + 4 * j ∧ Wn rs hs xs ab) (fun _ _ _ _ i _ => n1 - (intOf i).toNat)
  case atStart => exact ⟨0, _, [], none, 0, [], true, rfl, rfl, rfl, rfl, rfl, by omega, rfl, R0, N0, by simp, Wn.start hs⟩
  case round =>
    clear R0 N0 T1
    obtain ⟨j, L, rs, p, c, xs, ab, rfl, rfl, rfl, rfl, rfl, hj, hrl, T, N, hL, W⟩ := hrel
    have HN := (show Hid (Nest L 0 rs) from N)
    have HW := (show Hid (Wn rs hs xs ab) from W)
    clear N W
    by_cases hlt : j < n1
    · obtain ⟨k, L1, K1⟩ := mk_ex (L := L) (sh_atom (100 + (j : Int)) (by omega)) (fun z hz => by cases hz) (by omega)
      have b1 := K1.le
      have b1' := K1.le1
      have hk : k < L1.length := (List.getElem?_eq_some_iff.1 K1.at').1
      obtain ⟨pu, L2, K2⟩ := mk_ex (L := L1) (sh_pub (k : Int)) (fun z hz => by simp at hz; omega) (by omega)
      have b2 := K2.le
      have b2' := K2.le1
      obtain ⟨d, L3, K3⟩ := mk_ex (L := L2) (sh_atom (1000 + (j : Int)) (by omega)) (fun z hz => by cases hz) (by omega)
      have b3 := K3.le
      have b3' := K3.le1
      have P1 := (show Hid _ from K1.put)
      have P2 := (show Hid _ from K2.put)
      have P3 := (show Hid _ from K3.put)
      have hjI : (j : Int) < n1 := by omega
      have hwj : IntKind.i64.wrap ((100 : Int) + j) = 100 + j := IntWalk.i64_in _ (by omega)
      have hwk : IntKind.i64.wrap ((1000 : Int) + j) = 1000 + j := IntWalk.i64_in _ (by omega)
      obtain ⟨ba, oa, rfl, hba, hcell⟩ := rdw_pos H1.out (t := j) (by omega)
      have M1 := (show Hid _ from K1)
      have M2 := (show Hid _ from K2)
      have M3 := (show Hid _ from K3)
      clear K1 K2 K3
      generalize hz : ks.getD j 0 = z at hcell
      have hbL : lastA 0 rs < L.length := lastA_lt HN.out
      obtain ⟨b, hb⟩ : ∃ b, b = lastA 0 rs := ⟨_, rfl⟩
      have HB := (show Hid (b = lastA 0 rs) from hb)
      rw [← hb] at hbL ⊢
      clear hb hz
      have hpl : pu < L2.length := (List.getElem?_eq_some_iff.1 M2.out.at').1
      have hdl : d < L3.length := (List.getElem?_eq_some_iff.1 M3.out.at').1
      rcases (show ((IntKind.u64.wrap z).tmod 4 == 0) = true ∨ (((IntKind.u64.wrap z).tmod 4 == 0) = false ∧ ((IntKind.u64.wrap z).tmod 4 == 1) = true) ∨ (((IntKind.u64.wrap z).tmod 4 == 0) = false ∧ ((IntKind.u64.wrap z).tmod 4 == 1) = false ∧ ((IntKind.u64.wrap z).tmod 4 == 2) = true) ∨ (((IntKind.u64.wrap z).tmod 4 == 0) = false ∧ ((IntKind.u64.wrap z).tmod 4 == 1) = false ∧ ((IntKind.u64.wrap z).tmod 4 == 2) = false) by
          cases ((IntKind.u64.wrap z).tmod 4 == 0) <;> cases ((IntKind.u64.wrap z).tmod 4 == 1) <;> cases ((IntKind.u64.wrap z).tmod 4 == 2) <;> simp) with e0 | ⟨e0, e1⟩ | ⟨e0, e1, e2⟩ | ⟨e0, e1, e2⟩
      · obtain ⟨a, L4, K4⟩ := mk_ex (L := L3) (t := (6, 0, [(k : Int), (b : Int)])) (sh_seal _ [(b : Int)] (by simp)) (fun z hz => by simp at hz; omega) (by omega)
        have P4 := (show Hid _ from K4.put)
        have hbt : (bt hs j = true ∧ j < n2) ∨ (bt hs j = false ∧ j < n2) ∨ (bt hs j = false ∧ ¬ j < n2) := by
          rcases Nat.lt_or_ge j n2 with h | h
          · cases h2 : bt hs j with
            | true => exact .inl ⟨rfl, h⟩
            | false => exact .inr (.inl ⟨rfl, h⟩)
          · refine .inr (.inr ⟨?_, by omega⟩)
            cases h2 : bt hs j with
            | true => have := bt_lt h2; omega
            | false => rfl
        have HK := (show Hid (Rok L4 rs.length ⟨0, k, pu, d, b, a⟩) from by
          rw [hrl]
          exact ⟨K4.keep _ _ (M3.out.keep _ _ (M2.out.keep _ _ M1.out.at')), K4.keep _ _ (M3.out.keep _ _ M2.out.at'), K4.keep _ _ M3.out.at', K4.at'⟩)
        have HN4 := (show Hid (Nest L4 0 (rs ++ [⟨0, k, pu, d, b, a⟩])) from HN.out.snoc (fun i u h => K4.keep _ _ (M3.out.keep _ _ (M2.out.keep _ _ (M1.out.keep _ _ h)))) HK.out HB.out (fun i hi => by
          rcases K4.cov i hi with h | h
          · rcases M3.out.cov i h with h | h
            · rcases M2.out.cov i h with h | h
              · rcases M1.out.cov i h with h | h
                · exact .inl h
                · exact .inr (.inl h)
              · exact .inr (.inr (.inl h))
            · exact .inr (.inr (.inr (.inl h)))
          · exact .inr (.inr (.inr (.inr h)))))
        have hL4 : L4.length ≤ 1 + 4 * (j + 1) := by have := K4.le1; omega
        have hla : lastA 0 (rs ++ [⟨0, k, pu, d, b, a⟩]) = a := lastA_snoc _ _ _
        have HLA := (show Hid _ from hla)
        clear K4 hla HK
        rcases hbt with ⟨f1, f2⟩ | ⟨f1, f2⟩ | ⟨f1, f2⟩
        · have hxl := HW.out.len
          have hfI : (j : Int) < n2 := by omega
          obtain ⟨bh, oh, rfl, hbh, hfl⟩ := rdb_pos H2.out (t := j) (by omega)
          rw [f1] at hfl
          go_wp2_with (first
            | (go_at_call 14; refine (T.calls (fun G' _ O => make_on O 1 (100 + (j : Int)) (v := .slice none 0 0) (xs := []) (.inl ⟨rfl, rfl⟩) (by omega) P1.out)).mono ?_; rintro ev w3 ⟨rfl, T3⟩; clear T)
            | (go_at_call 14; refine ((T3.alloc _).calls (fun G' _ O => make_on O 5 0 (xs := [(k : Int)]) (reads_lit [(k : Int)] rfl rfl _) (by omega) P2.out)).mono ?_; rintro ev w4 ⟨rfl, T4⟩; clear T3)
            | (go_at_call 14; refine (T4.calls (fun G' _ O => make_on O 1 (1000 + (j : Int)) (v := .slice none 0 0) (xs := []) (.inl ⟨rfl, rfl⟩) (by omega) P3.out)).mono ?_; rintro ev w5 ⟨rfl, T5⟩; have hc5 := (T5.on.below.cell (p := ⟨ba, oa + j, none⟩) hba).trans hcell; clear T4)
            | (go_at_call 14; refine ((T5.alloc _).calls (fun G' _ O => make_on O 6 0 (xs := [(k : Int), (b : Int)]) (reads_lit [(k : Int), (b : Int)] rfl rfl _) (by omega) P4.out)).mono ?_; rintro ev w6 ⟨rfl, T6⟩; have hc6 := (T6.on.below.cell (p := ⟨bh, oh + j, none⟩) hbh).trans hfl; clear T5)
            | (at_builtin; have hsz := T6.on.below.size; refine wpList_append_own_at _ rfl (.tmp 135) (.tmp 137) 22 rfl w.heap.size 3 i0 (.int .i64 0) 1 8 Try.underlying22 hi' hz0 hz1 hz2 rfl (by decide) (.slice p xs.length c) xs.length _ rfl (T6.row.alloc _) ⟨w6.heap.size, 0, none⟩ 1 1 [.int .i64 (k : Int)] rfl rfl (news1 _ _ _) (fun u hu => by simp at hu; subst hu; rfl) (by unfold maxLen; omega) (by omega) (by simp; omega) ?_; intro v7 w7 hown7 hgrow7 _ hat7; obtain ⟨p7, c7, rfl, T7⟩ := T6.append hown7 hgrow7 hat7; clear T6 hown7 hgrow7 hat7))
          have hlen : (xs ++ [(k : Int)]).length = xs.length + 1 := by simp
          exact ⟨⟨j + 1, L4, _, p7, c7, xs ++ [(k : Int)], ab, rfl, by rw [HLA.out], by rw [hlen], rfl, by simp, by omega, by simp [hrl], T7, HN4.out, hL4, HW.out.yes (r := ⟨0, k, pu, d, b, a⟩) (by rw [hrl]; exact f1)⟩, by simp [intOf]; omega⟩
        · have hxl := HW.out.len
          have hfI : (j : Int) < n2 := by omega
          obtain ⟨bh, oh, rfl, hbh, hfl⟩ := rdb_pos H2.out (t := j) (by omega)
          rw [f1] at hfl
          go_wp2_with (first
            | (go_at_call 14; refine (T.calls (fun G' _ O => make_on O 1 (100 + (j : Int)) (v := .slice none 0 0) (xs := []) (.inl ⟨rfl, rfl⟩) (by omega) P1.out)).mono ?_; rintro ev w3 ⟨rfl, T3⟩; clear T)
            | (go_at_call 14; refine ((T3.alloc _).calls (fun G' _ O => make_on O 5 0 (xs := [(k : Int)]) (reads_lit [(k : Int)] rfl rfl _) (by omega) P2.out)).mono ?_; rintro ev w4 ⟨rfl, T4⟩; clear T3)
            | (go_at_call 14; refine (T4.calls (fun G' _ O => make_on O 1 (1000 + (j : Int)) (v := .slice none 0 0) (xs := []) (.inl ⟨rfl, rfl⟩) (by omega) P3.out)).mono ?_; rintro ev w5 ⟨rfl, T5⟩; have hc5 := (T5.on.below.cell (p := ⟨ba, oa + j, none⟩) hba).trans hcell; clear T4)
            | (go_at_call 14; refine ((T5.alloc _).calls (fun G' _ O => make_on O 6 0 (xs := [(k : Int), (b : Int)]) (reads_lit [(k : Int), (b : Int)] rfl rfl _) (by omega) P4.out)).mono ?_; rintro ev w6 ⟨rfl, T6⟩; have hc6 := (T6.on.below.cell (p := ⟨bh, oh + j, none⟩) hbh).trans hfl; clear T5))
          have hW2 := HW.out.no (r := ⟨0, k, pu, d, b, a⟩) (by rw [hrl]; exact f1)
          exact ⟨⟨j + 1, L4, _, p, c, xs, false, rfl, by rw [HLA.out], rfl, rfl, by simp, by omega, by simp [hrl], T6, HN4.out, hL4, hW2⟩, by simp [intOf]; omega⟩
        · have hfI : ¬ (j : Int) < n2 := by omega
          go_wp2_with (first
            | (go_at_call 14; refine (T.calls (fun G' _ O => make_on O 1 (100 + (j : Int)) (v := .slice none 0 0) (xs := []) (.inl ⟨rfl, rfl⟩) (by omega) P1.out)).mono ?_; rintro ev w3 ⟨rfl, T3⟩; clear T)
            | (go_at_call 14; refine ((T3.alloc _).calls (fun G' _ O => make_on O 5 0 (xs := [(k : Int)]) (reads_lit [(k : Int)] rfl rfl _) (by omega) P2.out)).mono ?_; rintro ev w4 ⟨rfl, T4⟩; clear T3)
            | (go_at_call 14; refine (T4.calls (fun G' _ O => make_on O 1 (1000 + (j : Int)) (v := .slice none 0 0) (xs := []) (.inl ⟨rfl, rfl⟩) (by omega) P3.out)).mono ?_; rintro ev w5 ⟨rfl, T5⟩; have hc5 := (T5.on.below.cell (p := ⟨ba, oa + j, none⟩) hba).trans hcell; clear T4)
            | (go_at_call 14; refine ((T5.alloc _).calls (fun G' _ O => make_on O 6 0 (xs := [(k : Int), (b : Int)]) (reads_lit [(k : Int), (b : Int)] rfl rfl _) (by omega) P4.out)).mono ?_; rintro ev w6 ⟨rfl, T6⟩; clear T5))
          have hW2 := HW.out.no (r := ⟨0, k, pu, d, b, a⟩) (by rw [hrl]; exact f1)
          exact ⟨⟨j + 1, L4, _, p, c, xs, false, rfl, by rw [HLA.out], rfl, rfl, by simp, by omega, by simp [hrl], T6, HN4.out, hL4, hW2⟩, by simp [intOf]; omega⟩
      · obtain ⟨a, L4, K4⟩ := mk_ex (L := L3) (t := (7, 0, [(pu : Int), (d : Int), (b : Int)])) (sh_box _ _ _) (fun z hz => by simp at hz; omega) (by omega)
        have P4 := (show Hid _ from K4.put)
        have hbt : (bt hs j = true ∧ j < n2) ∨ (bt hs j = false ∧ j < n2) ∨ (bt hs j = false ∧ ¬ j < n2) := by
          rcases Nat.lt_or_ge j n2 with h | h
          · cases h2 : bt hs j with
            | true => exact .inl ⟨rfl, h⟩
            | false => exact .inr (.inl ⟨rfl, h⟩)
          · refine .inr (.inr ⟨?_, by omega⟩)
            cases h2 : bt hs j with
            | true => have := bt_lt h2; omega
            | false => rfl
        have HK := (show Hid (Rok L4 rs.length ⟨1, k, pu, d, b, a⟩) from by
          rw [hrl]
          exact ⟨K4.keep _ _ (M3.out.keep _ _ (M2.out.keep _ _ M1.out.at')), K4.keep _ _ (M3.out.keep _ _ M2.out.at'), K4.keep _ _ M3.out.at', K4.at'⟩)
        have HN4 := (show Hid (Nest L4 0 (rs ++ [⟨1, k, pu, d, b, a⟩])) from HN.out.snoc (fun i u h => K4.keep _ _ (M3.out.keep _ _ (M2.out.keep _ _ (M1.out.keep _ _ h)))) HK.out HB.out (fun i hi => by
          rcases K4.cov i hi with h | h
          · rcases M3.out.cov i h with h | h
            · rcases M2.out.cov i h with h | h
              · rcases M1.out.cov i h with h | h
                · exact .inl h
                · exact .inr (.inl h)
              · exact .inr (.inr (.inl h))
            · exact .inr (.inr (.inr (.inl h)))
          · exact .inr (.inr (.inr (.inr h)))))
        have hL4 : L4.length ≤ 1 + 4 * (j + 1) := by have := K4.le1; omega
        have hla : lastA 0 (rs ++ [⟨1, k, pu, d, b, a⟩]) = a := lastA_snoc _ _ _
        have HLA := (show Hid _ from hla)
        clear K4 hla HK
        rcases hbt with ⟨f1, f2⟩ | ⟨f1, f2⟩ | ⟨f1, f2⟩
        · have hxl := HW.out.len
          have hfI : (j : Int) < n2 := by omega
          obtain ⟨bh, oh, rfl, hbh, hfl⟩ := rdb_pos H2.out (t := j) (by omega)
          rw [f1] at hfl
          go_wp2_with (first
            | (go_at_call 14; refine (T.calls (fun G' _ O => make_on O 1 (100 + (j : Int)) (v := .slice none 0 0) (xs := []) (.inl ⟨rfl, rfl⟩) (by omega) P1.out)).mono ?_; rintro ev w3 ⟨rfl, T3⟩; clear T)
            | (go_at_call 14; refine ((T3.alloc _).calls (fun G' _ O => make_on O 5 0 (xs := [(k : Int)]) (reads_lit [(k : Int)] rfl rfl _) (by omega) P2.out)).mono ?_; rintro ev w4 ⟨rfl, T4⟩; clear T3)
            | (go_at_call 14; refine (T4.calls (fun G' _ O => make_on O 1 (1000 + (j : Int)) (v := .slice none 0 0) (xs := []) (.inl ⟨rfl, rfl⟩) (by omega) P3.out)).mono ?_; rintro ev w5 ⟨rfl, T5⟩; have hc5 := (T5.on.below.cell (p := ⟨ba, oa + j, none⟩) hba).trans hcell; clear T4)
            | (go_at_call 14; refine ((T5.alloc _).calls (fun G' _ O => make_on O 7 0 (xs := [(pu : Int), (d : Int), (b : Int)]) (reads_lit [(pu : Int), (d : Int), (b : Int)] rfl rfl _) (by omega) P4.out)).mono ?_; rintro ev w6 ⟨rfl, T6⟩; have hc6 := (T6.on.below.cell (p := ⟨bh, oh + j, none⟩) hbh).trans hfl; clear T5)
            | (at_builtin; have hsz := T6.on.below.size; refine wpList_append_own_at _ rfl (.tmp 135) (.tmp 137) 22 rfl w.heap.size 3 i0 (.int .i64 0) 1 8 Try.underlying22 hi' hz0 hz1 hz2 rfl (by decide) (.slice p xs.length c) xs.length _ rfl (T6.row.alloc _) ⟨w6.heap.size, 0, none⟩ 1 1 [.int .i64 (k : Int)] rfl rfl (news1 _ _ _) (fun u hu => by simp at hu; subst hu; rfl) (by unfold maxLen; omega) (by omega) (by simp; omega) ?_; intro v7 w7 hown7 hgrow7 _ hat7; obtain ⟨p7, c7, rfl, T7⟩ := T6.append hown7 hgrow7 hat7; clear T6 hown7 hgrow7 hat7))
          have hlen : (xs ++ [(k : Int)]).length = xs.length + 1 := by simp
          exact ⟨⟨j + 1, L4, _, p7, c7, xs ++ [(k : Int)], ab, rfl, by rw [HLA.out], by rw [hlen], rfl, by simp, by omega, by simp [hrl], T7, HN4.out, hL4, HW.out.yes (r := ⟨1, k, pu, d, b, a⟩) (by rw [hrl]; exact f1)⟩, by simp [intOf]; omega⟩
        · have hxl := HW.out.len
          have hfI : (j : Int) < n2 := by omega
          obtain ⟨bh, oh, rfl, hbh, hfl⟩ := rdb_pos H2.out (t := j) (by omega)
          rw [f1] at hfl
          go_wp2_with (first
            | (go_at_call 14; refine (T.calls (fun G' _ O => make_on O 1 (100 + (j : Int)) (v := .slice none 0 0) (xs := []) (.inl ⟨rfl, rfl⟩) (by omega) P1.out)).mono ?_; rintro ev w3 ⟨rfl, T3⟩; clear T)
            | (go_at_call 14; refine ((T3.alloc _).calls (fun G' _ O => make_on O 5 0 (xs := [(k : Int)]) (reads_lit [(k : Int)] rfl rfl _) (by omega) P2.out)).mono ?_; rintro ev w4 ⟨rfl, T4⟩; clear T3)
            | (go_at_call 14; refine (T4.calls (fun G' _ O => make_on O 1 (1000 + (j : Int)) (v := .slice none 0 0) (xs := []) (.inl ⟨rfl, rfl⟩) (by omega) P3.out)).mono ?_; rintro ev w5 ⟨rfl, T5⟩; have hc5 := (T5.on.below.cell (p := ⟨ba, oa + j, none⟩) hba).trans hcell; clear T4)
            | (go_at_call 14; refine ((T5.alloc _).calls (fun G' _ O => make_on O 7 0 (xs := [(pu : Int), (d : Int), (b : Int)]) (reads_lit [(pu : Int), (d : Int), (b : Int)] rfl rfl _) (by omega) P4.out)).mono ?_; rintro ev w6 ⟨rfl, T6⟩; have hc6 := (T6.on.below.cell (p := ⟨bh, oh + j, none⟩) hbh).trans hfl; clear T5))
          have hW2 := HW.out.no (r := ⟨1, k, pu, d, b, a⟩) (by rw [hrl]; exact f1)
          exact ⟨⟨j + 1, L4, _, p, c, xs, false, rfl, by rw [HLA.out], rfl, rfl, by simp, by omega, by simp [hrl], T6, HN4.out, hL4, hW2⟩, by simp [intOf]; omega⟩
        · have hfI : ¬ (j : Int) < n2 := by omega
          go_wp2_with (first
            | (go_at_call 14; refine (T.calls (fun G' _ O => make_on O 1 (100 + (j : Int)) (v := .slice none 0 0) (xs := []) (.inl ⟨rfl, rfl⟩) (by omega) P1.out)).mono ?_; rintro ev w3 ⟨rfl, T3⟩; clear T)
            | (go_at_call 14; refine ((T3.alloc _).calls (fun G' _ O => make_on O 5 0 (xs := [(k : Int)]) (reads_lit [(k : Int)] rfl rfl _) (by omega) P2.out)).mono ?_; rintro ev w4 ⟨rfl, T4⟩; clear T3)
            | (go_at_call 14; refine (T4.calls (fun G' _ O => make_on O 1 (1000 + (j : Int)) (v := .slice none 0 0) (xs := []) (.inl ⟨rfl, rfl⟩) (by omega) P3.out)).mono ?_; rintro ev w5 ⟨rfl, T5⟩; have hc5 := (T5.on.below.cell (p := ⟨ba, oa + j, none⟩) hba).trans hcell; clear T4)
            | (go_at_call 14; refine ((T5.alloc _).calls (fun G' _ O => make_on O 7 0 (xs := [(pu : Int), (d : Int), (b : Int)]) (reads_lit [(pu : Int), (d : Int), (b : Int)] rfl rfl _) (by omega) P4.out)).mono ?_; rintro ev w6 ⟨rfl, T6⟩; clear T5))
          have hW2 := HW.out.no (r := ⟨1, k, pu, d, b, a⟩) (by rw [hrl]; exact f1)
          exact ⟨⟨j + 1, L4, _, p, c, xs, false, rfl, by rw [HLA.out], rfl, rfl, by simp, by omega, by simp [hrl], T6, HN4.out, hL4, hW2⟩, by simp [intOf]; omega⟩
      · obtain ⟨a, L4, K4⟩ := mk_ex (L := L3) (t := (8, 0, [(k : Int), (b : Int)])) (sh_sig _ [(b : Int)] (by simp)) (fun z hz => by simp at hz; omega) (by omega)
        have P4 := (show Hid _ from K4.put)
        have hbt : (bt hs j = true ∧ j < n2) ∨ (bt hs j = false ∧ j < n2) ∨ (bt hs j = false ∧ ¬ j < n2) := by
          rcases Nat.lt_or_ge j n2 with h | h
          · cases h2 : bt hs j with
            | true => exact .inl ⟨rfl, h⟩
            | false => exact .inr (.inl ⟨rfl, h⟩)
          · refine .inr (.inr ⟨?_, by omega⟩)
            cases h2 : bt hs j with
            | true => have := bt_lt h2; omega
            | false => rfl
        have HK := (show Hid (Rok L4 rs.length ⟨2, k, pu, d, b, a⟩) from by
          rw [hrl]
          exact ⟨K4.keep _ _ (M3.out.keep _ _ (M2.out.keep _ _ M1.out.at')), K4.keep _ _ (M3.out.keep _ _ M2.out.at'), K4.keep _ _ M3.out.at', K4.at'⟩)
        have HN4 := (show Hid (Nest L4 0 (rs ++ [⟨2, k, pu, d, b, a⟩])) from HN.out.snoc (fun i u h => K4.keep _ _ (M3.out.keep _ _ (M2.out.keep _ _ (M1.out.keep _ _ h)))) HK.out HB.out (fun i hi => by
          rcases K4.cov i hi with h | h
          · rcases M3.out.cov i h with h | h
            · rcases M2.out.cov i h with h | h
              · rcases M1.out.cov i h with h | h
                · exact .inl h
                · exact .inr (.inl h)
              · exact .inr (.inr (.inl h))
            · exact .inr (.inr (.inr (.inl h)))
          · exact .inr (.inr (.inr (.inr h)))))
        have hL4 : L4.length ≤ 1 + 4 * (j + 1) := by have := K4.le1; omega
        have hla : lastA 0 (rs ++ [⟨2, k, pu, d, b, a⟩]) = a := lastA_snoc _ _ _
        have HLA := (show Hid _ from hla)
        clear K4 hla HK
        rcases hbt with ⟨f1, f2⟩ | ⟨f1, f2⟩ | ⟨f1, f2⟩
        · have hxl := HW.out.len
          have hfI : (j : Int) < n2 := by omega
          obtain ⟨bh, oh, rfl, hbh, hfl⟩ := rdb_pos H2.out (t := j) (by omega)
          rw [f1] at hfl
          go_wp2_with (first
            | (go_at_call 14; refine (T.calls (fun G' _ O => make_on O 1 (100 + (j : Int)) (v := .slice none 0 0) (xs := []) (.inl ⟨rfl, rfl⟩) (by omega) P1.out)).mono ?_; rintro ev w3 ⟨rfl, T3⟩; clear T)
            | (go_at_call 14; refine ((T3.alloc _).calls (fun G' _ O => make_on O 5 0 (xs := [(k : Int)]) (reads_lit [(k : Int)] rfl rfl _) (by omega) P2.out)).mono ?_; rintro ev w4 ⟨rfl, T4⟩; clear T3)
            | (go_at_call 14; refine (T4.calls (fun G' _ O => make_on O 1 (1000 + (j : Int)) (v := .slice none 0 0) (xs := []) (.inl ⟨rfl, rfl⟩) (by omega) P3.out)).mono ?_; rintro ev w5 ⟨rfl, T5⟩; have hc5 := (T5.on.below.cell (p := ⟨ba, oa + j, none⟩) hba).trans hcell; clear T4)
            | (go_at_call 14; refine ((T5.alloc _).calls (fun G' _ O => make_on O 8 0 (xs := [(k : Int), (b : Int)]) (reads_lit [(k : Int), (b : Int)] rfl rfl _) (by omega) P4.out)).mono ?_; rintro ev w6 ⟨rfl, T6⟩; have hc6 := (T6.on.below.cell (p := ⟨bh, oh + j, none⟩) hbh).trans hfl; clear T5)
            | (at_builtin; have hsz := T6.on.below.size; refine wpList_append_own_at _ rfl (.tmp 135) (.tmp 137) 22 rfl w.heap.size 3 i0 (.int .i64 0) 1 8 Try.underlying22 hi' hz0 hz1 hz2 rfl (by decide) (.slice p xs.length c) xs.length _ rfl (T6.row.alloc _) ⟨w6.heap.size, 0, none⟩ 1 1 [.int .i64 (k : Int)] rfl rfl (news1 _ _ _) (fun u hu => by simp at hu; subst hu; rfl) (by unfold maxLen; omega) (by omega) (by simp; omega) ?_; intro v7 w7 hown7 hgrow7 _ hat7; obtain ⟨p7, c7, rfl, T7⟩ := T6.append hown7 hgrow7 hat7; clear T6 hown7 hgrow7 hat7))
          have hlen : (xs ++ [(k : Int)]).length = xs.length + 1 := by simp
          exact ⟨⟨j + 1, L4, _, p7, c7, xs ++ [(k : Int)], ab, rfl, by rw [HLA.out], by rw [hlen], rfl, by simp, by omega, by simp [hrl], T7, HN4.out, hL4, HW.out.yes (r := ⟨2, k, pu, d, b, a⟩) (by rw [hrl]; exact f1)⟩, by simp [intOf]; omega⟩
        · have hxl := HW.out.len
          have hfI : (j : Int) < n2 := by omega
          obtain ⟨bh, oh, rfl, hbh, hfl⟩ := rdb_pos H2.out (t := j) (by omega)
          rw [f1] at hfl
          go_wp2_with (first
            | (go_at_call 14; refine (T.calls (fun G' _ O => make_on O 1 (100 + (j : Int)) (v := .slice none 0 0) (xs := []) (.inl ⟨rfl, rfl⟩) (by omega) P1.out)).mono ?_; rintro ev w3 ⟨rfl, T3⟩; clear T)
            | (go_at_call 14; refine ((T3.alloc _).calls (fun G' _ O => make_on O 5 0 (xs := [(k : Int)]) (reads_lit [(k : Int)] rfl rfl _) (by omega) P2.out)).mono ?_; rintro ev w4 ⟨rfl, T4⟩; clear T3)
            | (go_at_call 14; refine (T4.calls (fun G' _ O => make_on O 1 (1000 + (j : Int)) (v := .slice none 0 0) (xs := []) (.inl ⟨rfl, rfl⟩) (by omega) P3.out)).mono ?_; rintro ev w5 ⟨rfl, T5⟩; have hc5 := (T5.on.below.cell (p := ⟨ba, oa + j, none⟩) hba).trans hcell; clear T4)
            | (go_at_call 14; refine ((T5.alloc _).calls (fun G' _ O => make_on O 8 0 (xs := [(k : Int), (b : Int)]) (reads_lit [(k : Int), (b : Int)] rfl rfl _) (by omega) P4.out)).mono ?_; rintro ev w6 ⟨rfl, T6⟩; have hc6 := (T6.on.below.cell (p := ⟨bh, oh + j, none⟩) hbh).trans hfl; clear T5))
          have hW2 := HW.out.no (r := ⟨2, k, pu, d, b, a⟩) (by rw [hrl]; exact f1)
          exact ⟨⟨j + 1, L4, _, p, c, xs, ab, rfl, by rw [HLA.out], rfl, rfl, by simp, by omega, by simp [hrl], T6, HN4.out, hL4, hW2⟩, by simp [intOf]; omega⟩
        · have hfI : ¬ (j : Int) < n2 := by omega
          go_wp2_with (first
            | (go_at_call 14; refine (T.calls (fun G' _ O => make_on O 1 (100 + (j : Int)) (v := .slice none 0 0) (xs := []) (.inl ⟨rfl, rfl⟩) (by omega) P1.out)).mono ?_; rintro ev w3 ⟨rfl, T3⟩; clear T)
            | (go_at_call 14; refine ((T3.alloc _).calls (fun G' _ O => make_on O 5 0 (xs := [(k : Int)]) (reads_lit [(k : Int)] rfl rfl _) (by omega) P2.out)).mono ?_; rintro ev w4 ⟨rfl, T4⟩; clear T3)
            | (go_at_call 14; refine (T4.calls (fun G' _ O => make_on O 1 (1000 + (j : Int)) (v := .slice none 0 0) (xs := []) (.inl ⟨rfl, rfl⟩) (by omega) P3.out)).mono ?_; rintro ev w5 ⟨rfl, T5⟩; have hc5 := (T5.on.below.cell (p := ⟨ba, oa + j, none⟩) hba).trans hcell; clear T4)
            | (go_at_call 14; refine ((T5.alloc _).calls (fun G' _ O => make_on O 8 0 (xs := [(k : Int), (b : Int)]) (reads_lit [(k : Int), (b : Int)] rfl rfl _) (by omega) P4.out)).mono ?_; rintro ev w6 ⟨rfl, T6⟩; clear T5))
          have hW2 := HW.out.no (r := ⟨2, k, pu, d, b, a⟩) (by rw [hrl]; exact f1)
          exact ⟨⟨j + 1, L4, _, p, c, xs, ab, rfl, by rw [HLA.out], rfl, rfl, by simp, by omega, by simp [hrl], T6, HN4.out, hL4, hW2⟩, by simp [intOf]; omega⟩
      · obtain ⟨a, L4, K4⟩ := mk_ex (L := L3) (t := (9, 0, [(d : Int), (b : Int)])) (sh_list _ (by simp)) (fun z hz => by simp at hz; omega) (by omega)
        have P4 := (show Hid _ from K4.put)
        have hbt : (bt hs j = true ∧ j < n2) ∨ (bt hs j = false ∧ j < n2) ∨ (bt hs j = false ∧ ¬ j < n2) := by
          rcases Nat.lt_or_ge j n2 with h | h
          · cases h2 : bt hs j with
            | true => exact .inl ⟨rfl, h⟩
            | false => exact .inr (.inl ⟨rfl, h⟩)
          · refine .inr (.inr ⟨?_, by omega⟩)
            cases h2 : bt hs j with
            | true => have := bt_lt h2; omega
            | false => rfl
        have HK := (show Hid (Rok L4 rs.length ⟨3, k, pu, d, b, a⟩) from by
          rw [hrl]
          exact ⟨K4.keep _ _ (M3.out.keep _ _ (M2.out.keep _ _ M1.out.at')), K4.keep _ _ (M3.out.keep _ _ M2.out.at'), K4.keep _ _ M3.out.at', K4.at'⟩)
        have HN4 := (show Hid (Nest L4 0 (rs ++ [⟨3, k, pu, d, b, a⟩])) from HN.out.snoc (fun i u h => K4.keep _ _ (M3.out.keep _ _ (M2.out.keep _ _ (M1.out.keep _ _ h)))) HK.out HB.out (fun i hi => by
          rcases K4.cov i hi with h | h
          · rcases M3.out.cov i h with h | h
            · rcases M2.out.cov i h with h | h
              · rcases M1.out.cov i h with h | h
                · exact .inl h
                · exact .inr (.inl h)
              · exact .inr (.inr (.inl h))
            · exact .inr (.inr (.inr (.inl h)))
          · exact .inr (.inr (.inr (.inr h)))))
        have hL4 : L4.length ≤ 1 + 4 * (j + 1) := by have := K4.le1; omega
        have hla : lastA 0 (rs ++ [⟨3, k, pu, d, b, a⟩]) = a := lastA_snoc _ _ _
        have HLA := (show Hid _ from hla)
        clear K4 hla HK
        rcases hbt with ⟨f1, f2⟩ | ⟨f1, f2⟩ | ⟨f1, f2⟩
        · have hxl := HW.out.len
          have hfI : (j : Int) < n2 := by omega
          obtain ⟨bh, oh, rfl, hbh, hfl⟩ := rdb_pos H2.out (t := j) (by omega)
          rw [f1] at hfl
          go_wp2_with (first
            | (go_at_call 14; refine (T.calls (fun G' _ O => make_on O 1 (100 + (j : Int)) (v := .slice none 0 0) (xs := []) (.inl ⟨rfl, rfl⟩) (by omega) P1.out)).mono ?_; rintro ev w3 ⟨rfl, T3⟩; clear T)
            | (go_at_call 14; refine ((T3.alloc _).calls (fun G' _ O => make_on O 5 0 (xs := [(k : Int)]) (reads_lit [(k : Int)] rfl rfl _) (by omega) P2.out)).mono ?_; rintro ev w4 ⟨rfl, T4⟩; clear T3)
            | (go_at_call 14; refine (T4.calls (fun G' _ O => make_on O 1 (1000 + (j : Int)) (v := .slice none 0 0) (xs := []) (.inl ⟨rfl, rfl⟩) (by omega) P3.out)).mono ?_; rintro ev w5 ⟨rfl, T5⟩; have hc5 := (T5.on.below.cell (p := ⟨ba, oa + j, none⟩) hba).trans hcell; clear T4)
            | (go_at_call 14; refine ((T5.alloc _).calls (fun G' _ O => make_on O 9 0 (xs := [(d : Int), (b : Int)]) (reads_lit [(d : Int), (b : Int)] rfl rfl _) (by omega) P4.out)).mono ?_; rintro ev w6 ⟨rfl, T6⟩; have hc6 := (T6.on.below.cell (p := ⟨bh, oh + j, none⟩) hbh).trans hfl; clear T5)
            | (at_builtin; have hsz := T6.on.below.size; refine wpList_append_own_at _ rfl (.tmp 135) (.tmp 137) 22 rfl w.heap.size 3 i0 (.int .i64 0) 1 8 Try.underlying22 hi' hz0 hz1 hz2 rfl (by decide) (.slice p xs.length c) xs.length _ rfl (T6.row.alloc _) ⟨w6.heap.size, 0, none⟩ 1 1 [.int .i64 (k : Int)] rfl rfl (news1 _ _ _) (fun u hu => by simp at hu; subst hu; rfl) (by unfold maxLen; omega) (by omega) (by simp; omega) ?_; intro v7 w7 hown7 hgrow7 _ hat7; obtain ⟨p7, c7, rfl, T7⟩ := T6.append hown7 hgrow7 hat7; clear T6 hown7 hgrow7 hat7))
          have hlen : (xs ++ [(k : Int)]).length = xs.length + 1 := by simp
          exact ⟨⟨j + 1, L4, _, p7, c7, xs ++ [(k : Int)], ab, rfl, by rw [HLA.out], by rw [hlen], rfl, by simp, by omega, by simp [hrl], T7, HN4.out, hL4, HW.out.yes (r := ⟨3, k, pu, d, b, a⟩) (by rw [hrl]; exact f1)⟩, by simp [intOf]; omega⟩
        · have hxl := HW.out.len
          have hfI : (j : Int) < n2 := by omega
          obtain ⟨bh, oh, rfl, hbh, hfl⟩ := rdb_pos H2.out (t := j) (by omega)
          rw [f1] at hfl
          go_wp2_with (first
            | (go_at_call 14; refine (T.calls (fun G' _ O => make_on O 1 (100 + (j : Int)) (v := .slice none 0 0) (xs := []) (.inl ⟨rfl, rfl⟩) (by omega) P1.out)).mono ?_; rintro ev w3 ⟨rfl, T3⟩; clear T)
            | (go_at_call 14; refine ((T3.alloc _).calls (fun G' _ O => make_on O 5 0 (xs := [(k : Int)]) (reads_lit [(k : Int)] rfl rfl _) (by omega) P2.out)).mono ?_; rintro ev w4 ⟨rfl, T4⟩; clear T3)
            | (go_at_call 14; refine (T4.calls (fun G' _ O => make_on O 1 (1000 + (j : Int)) (v := .slice none 0 0) (xs := []) (.inl ⟨rfl, rfl⟩) (by omega) P3.out)).mono ?_; rintro ev w5 ⟨rfl, T5⟩; have hc5 := (T5.on.below.cell (p := ⟨ba, oa + j, none⟩) hba).trans hcell; clear T4)
            | (go_at_call 14; refine ((T5.alloc _).calls (fun G' _ O => make_on O 9 0 (xs := [(d : Int), (b : Int)]) (reads_lit [(d : Int), (b : Int)] rfl rfl _) (by omega) P4.out)).mono ?_; rintro ev w6 ⟨rfl, T6⟩; have hc6 := (T6.on.below.cell (p := ⟨bh, oh + j, none⟩) hbh).trans hfl; clear T5))
          have hW2 := HW.out.no (r := ⟨3, k, pu, d, b, a⟩) (by rw [hrl]; exact f1)
          exact ⟨⟨j + 1, L4, _, p, c, xs, ab, rfl, by rw [HLA.out], rfl, rfl, by simp, by omega, by simp [hrl], T6, HN4.out, hL4, hW2⟩, by simp [intOf]; omega⟩
        · have hfI : ¬ (j : Int) < n2 := by omega
          go_wp2_with (first
            | (go_at_call 14; refine (T.calls (fun G' _ O => make_on O 1 (100 + (j : Int)) (v := .slice none 0 0) (xs := []) (.inl ⟨rfl, rfl⟩) (by omega) P1.out)).mono ?_; rintro ev w3 ⟨rfl, T3⟩; clear T)
            | (go_at_call 14; refine ((T3.alloc _).calls (fun G' _ O => make_on O 5 0 (xs := [(k : Int)]) (reads_lit [(k : Int)] rfl rfl _) (by omega) P2.out)).mono ?_; rintro ev w4 ⟨rfl, T4⟩; clear T3)
            | (go_at_call 14; refine (T4.calls (fun G' _ O => make_on O 1 (1000 + (j : Int)) (v := .slice none 0 0) (xs := []) (.inl ⟨rfl, rfl⟩) (by omega) P3.out)).mono ?_; rintro ev w5 ⟨rfl, T5⟩; have hc5 := (T5.on.below.cell (p := ⟨ba, oa + j, none⟩) hba).trans hcell; clear T4)
            | (go_at_call 14; refine ((T5.alloc _).calls (fun G' _ O => make_on O 9 0 (xs := [(d : Int), (b : Int)]) (reads_lit [(d : Int), (b : Int)] rfl rfl _) (by omega) P4.out)).mono ?_; rintro ev w6 ⟨rfl, T6⟩; clear T5))
          have hW2 := HW.out.no (r := ⟨3, k, pu, d, b, a⟩) (by rw [hrl]; exact f1)
          exact ⟨⟨j + 1, L4, _, p, c, xs, ab, rfl, by rw [HLA.out], rfl, rfl, by simp, by omega, by simp [hrl], T6, HN4.out, hL4, hW2⟩, by simp [intOf]; omega⟩
    · obtain rfl : j = n1 := by omega
      have hI3 := (show Hid _ from nests_iff T.on.wf HN.out HW.out (by omega))
      have HIN := (show Hid (allIn L (xs ++ [(lastA 0 rs : Int)])) from nests_in HN.out HW.out)
      have hLp : 0 < L.length := by have := lastA_lt HN.out; omega
      have hxl := HW.out.len
      have hlen : (xs ++ [(lastA 0 rs : Int)]).length = xs.length + 1 := by simp
      generalize lastA 0 rs = z at *
      go_wp2_with (first
        | (at_builtin; have hsz := T.on.below.size; refine wpList_append_own_at _ rfl (.tmp 142) (.tmp 144) 22 rfl w.heap.size 3 i0 (.int .i64 0) 1 8 Try.underlying22 hi' hz0 hz1 hz2 rfl (by decide) (.slice p xs.length c) xs.length _ rfl (T.row.alloc _) ⟨wr.heap.size, 0, none⟩ 1 1 [.int .i64 (z : Int)] rfl rfl (news1 _ _ _) (fun u hu => by simp at hu; subst hu; rfl) (by unfold maxLen; omega) (by omega) (by simp; omega) ?_; intro v7 w7 hown7 hgrow7 _ hat7; obtain ⟨p7, c7, rfl, T7⟩ := T.append hown7 hgrow7 hat7; have O7 := (show Hid (On w w7 aa L (fun _ => False)) from T7.on); have R7 := (show Hid (RdW w7 (.slice p7 (xs ++ [(z : Int)]).length c7) (xs ++ [(z : Int)])) from T7.reads.rdw); have R7 := (show Hid (RdW w7 (.slice p7 (xs.length + 1) c7) (xs ++ [(z : Int)])) from by have := R7.out; rwa [hlen] at this); clear T T7 hown7 hgrow7 hat7)
        | (go_at_call 15; refine (know_is_n O7 hlen R7 (by omega) (by omega) HIN 0 hLp).mono ?_; rintro ev w8 ⟨b8, rfl, B8, h8⟩; obtain rfl : b8 = ab := Bool.eq_iff_iff.2 (h8.trans hI3.out); have hB8 := O7.out.below.trans (B8.mono O7.out.below.size); clear h8)
        | (go_at_call 16; refine (wakes11_ok _).mono ?_; rintro ev w10 ⟨rfl, B10⟩))
      go_ret
      exact ⟨rfl, hB8.trans (B10.mono hB8.size)⟩
end Go.Proofs.Ytikbeagcflofhaa
