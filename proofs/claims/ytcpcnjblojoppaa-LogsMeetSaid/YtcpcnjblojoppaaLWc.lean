/-
  LAYER 25: Check, has. Own work.
-/
import Derived.Test.YtcpcnjblojoppaaLWb
namespace Go.Proofs.Ytcpcnjblojoppaa
open Go.RowKit Go.Maps
set_option maxRecDepth 100000
attribute [local go_sem ↓] Go.wp_at_zero Go.wp_at_succ
theorem RdW.form {w : World} {v : Value} {xs : List Int} (h : RdW w v xs) : ∃ p c, v = .slice p xs.length c := by
  obtain ⟨p, c, rfl, _⟩ := h
  exact ⟨p, c, rfl⟩
theorem logs_at {w : World} {p : Option Addr} {n c j : Nat} {S : List Lg} (h : Logs w (.slice p n c) S) (hj : j < S.length) : ∃ b o k m q c4 xs, p = some ⟨b, o, none⟩ ∧ b < w.heap.size ∧ S[j]? = some ⟨k, m, .slice q xs.length c4, xs⟩ ∧ LgAt w b (o + j * 3) ⟨k, m, .slice q xs.length c4, xs⟩ := by
  obtain ⟨p', c', e, rfl | ⟨b, o, rfl, hb, hc⟩⟩ := h
  · cases hj
  · cases e
    have h1 := hc j hj
    obtain ⟨q, c4, hv⟩ := h1.args.form
    generalize hg : S[j] = g at h1 hv
    obtain ⟨k, m, v, xs⟩ := g
    simp only at hv
    subst hv
    exact ⟨b, o, k, m, q, c4, xs, rfl, hb, by rw [List.getElem?_eq_getElem hj, hg], h1⟩
/-- The clients' numbers rise, and all is right, as far as that. -/
structure Pre (S : List Lg) (j : Nat) (last : Int) : Prop where
  ok : ∀ i g, S[i]? = some g → i < j → okLg g
  up : ∀ i k g h, S[i]? = some g → S[k]? = some h → i < k → k < j → g.c < h.c
  le : ∀ i g, S[i]? = some g → i < j → g.c ≤ last
  top : j = 0 ∧ last = -1 ∨ ∃ g, S[j - 1]? = some g ∧ 0 < j ∧ last = g.c
theorem pre0 (S : List Lg) : Pre S 0 (-1) := ⟨fun _ _ _ h => by omega, fun _ _ _ _ _ _ _ h => by omega, fun _ _ _ h => by omega, .inl ⟨rfl, rfl⟩⟩
theorem Pre.next {S : List Lg} {j : Nat} {last : Int} (P : Pre S j last) {g : Lg} (hg : S[j]? = some g) (hok : okLg g) (hl : last < g.c) : Pre S (j + 1) g.c := by
  refine ⟨fun i x hx hi => ?_, fun i k x y hx hy hik hk => ?_, fun i x hx hi => ?_, .inr ⟨g, by simpa using hg, by omega, rfl⟩⟩
  · rcases Nat.lt_or_ge i j with h | h
    · exact P.ok i x hx h
    · obtain rfl : i = j := by omega
      rw [hg] at hx
      cases hx
      exact hok
  · rcases Nat.lt_or_ge k j with h | h
    · exact P.up i k x y hx hy hik h
    · obtain rfl : k = j := by omega
      rw [hg] at hy
      cases hy
      have := P.le i x hx hik
      omega
  · rcases Nat.lt_or_ge i j with h | h
    · have := P.le i x hx h
      omega
    · obtain rfl : i = j := by omega
      rw [hg] at hx
      cases hx
      exact Int.le_refl _
theorem Pre.right {S : List Lg} {last : Int} (P : Pre S S.length last) : Right S :=
  ⟨fun i h => P.ok i _ (List.getElem?_eq_getElem h) h, fun i j h hj => P.up i j _ _ (List.getElem?_eq_getElem (by omega)) (List.getElem?_eq_getElem hj) h hj⟩
theorem right_ok' {S : List Lg} (h : Right S) {j : Nat} {g : Lg} (hg : S[j]? = some g) : okLg g := by
  obtain ⟨hj, rfl⟩ := List.getElem?_eq_some_iff.1 hg
  exact h.1 j hj
theorem right_up {S : List Lg} (h : Right S) {i j : Nat} {g k : Lg} (hg : S[i]? = some g) (hk : S[j]? = some k) (hij : i < j) : g.c < k.c := by
  obtain ⟨hi, rfl⟩ := List.getElem?_eq_some_iff.1 hg
  obtain ⟨hj, rfl⟩ := List.getElem?_eq_some_iff.1 hk
  exact h.2 i j hij hj
theorem Pre.not_up {S : List Lg} {j : Nat} {last : Int} (P : Pre S j last) {g : Lg} (hg : S[j]? = some g) (hl : g.c ≤ last) : ¬ Right S := by
  intro hR
  rcases P.top with ⟨_, rfl⟩ | ⟨k, hk, h0, rfl⟩
  · have := (right_ok' hR hg).1
    omega
  · have := right_up hR hk hg (by omega)
    omega
set_option maxHeartbeats 1000000 in
theorem has_lg (c b : Int) (q : Option Addr) (n c4 : Nat) (hb : -4611686018427387904 ≤ b ∧ b ≤ 4611686018427387904) (hn : n ≤ 2147483648) (ws : World) : Calls Try.prog 28 #[.agg #[.int .i64 c, .int .i64 b, .slice q n c4]] ws fun e w' => e = .returned (.int .i64 (b + n)) ∧ Below ws.heap.size ws w' := by
  go_enter Try.func28, Try.ntmps28
  go_wp2
  go_ret
  exact ⟨by simp, (Below.refl _ ws).alloc (Nat.le_refl _) _⟩
set_option maxHeartbeats 8000000 in
theorem check_low (p : Option Addr) (n cc : Nat) (S : List Lg) (hn : S.length = n) (h4 : n ≤ 1000) (ws : World) (HS : Hid (Logs ws (.slice p n cc) S)) : Calls Try.prog 11 #[.slice p n cc] ws fun e w' => Below ws.heap.size ws w' ∧ ∃ r, e = .returned (.int .i64 r) ∧ ((r = 0 ∧ Right S) ∨ (r = 1 ∧ ¬ Right S)) := by
  go_enter Try.func11, Try.ntmps11
  go_wp2
  go_loopw [3, 10] (fun l i wq => ∃ (j : Nat) (last : Int), i = .int .i64 j ∧ j ≤ n ∧ l = .int .i64 last ∧ Pre S j last ∧ Below ws.heap.size ws wq) (fun _ i _ => n - (intOf i).toNat)
  case atStart => exact ⟨0, -1, rfl, by omega, rfl, pre0 S, Below.refl _ _⟩
  case round =>
    obtain ⟨j, last, rfl, hj, rfl, P, hB⟩ := hrel
    have HP := (show Hid _ from P)
    clear P
    by_cases hlt : j < n
    · obtain ⟨b, o, k, m, q, c4, xs, rfl, hb, hsj, hst⟩ := logs_at (HS.out.below hB) (j := j) (by omega)
      have x0 := hst.c
      have x1 := hst.b
      have x2 := hst.v
      have hinb : In64 m := hst.inb
      have HSJ := (show Hid _ from hsj)
      have HRD := (show Hid _ from hst.args)
      clear hst hsj
      simp only at x0 x1 x2
      by_cases h1 : k ≤ last
      · have hd1 : decide (k ≤ last) = true := decide_eq_true h1
        go_wp2
        go_ret
        exact ⟨hB.alloc hB.size _, 1, rfl, .inr ⟨rfl, HP.out.not_up HSJ.out h1⟩⟩
      have hd1 : decide (k ≤ last) = false := decide_eq_false h1
      by_cases h2 : (8 : Int) ≤ k
      · have hd2 : decide ((8 : Int) ≤ k) = true := decide_eq_true h2
        go_wp2
        go_ret
        exact ⟨hB.alloc hB.size _, 1, rfl, .inr ⟨rfl, fun hR => by have := (right_ok' hR HSJ.out).2.1; simp only at this; omega⟩⟩
      have hd2 : decide ((8 : Int) ≤ k) = false := decide_eq_false h2
      by_cases h3 : m < 0
      · have hd3 : decide (m < 0) = true := decide_eq_true h3
        go_wp2
        go_ret
        exact ⟨hB.alloc hB.size _, 1, rfl, .inr ⟨rfl, fun hR => by have := (right_ok' hR HSJ.out).2.2.1; simp only at this; omega⟩⟩
      have hd3 : decide (m < 0) = false := decide_eq_false h3
      by_cases h5 : (1073741824 : Int) < m
      · have hd5 : decide ((1073741824 : Int) < m) = true := decide_eq_true h5
        go_wp2
        go_ret
        exact ⟨hB.alloc hB.size _, 1, rfl, .inr ⟨rfl, fun hR => by have := (right_ok' hR HSJ.out).2.2.2.1; simp only at this; omega⟩⟩
      have hd5 : decide ((1073741824 : Int) < m) = false := decide_eq_false h5
      by_cases h6 : 32 < xs.length
      · have hd6 : decide ((32 : Int) < (xs.length : Int)) = true := decide_eq_true (by omega)
        go_wp2
        go_ret
        exact ⟨hB.alloc hB.size _, 1, rfl, .inr ⟨rfl, fun hR => by have := (right_ok' hR HSJ.out).2.2.2.2.1; simp only at this; omega⟩⟩
      have hd6 : decide ((32 : Int) < (xs.length : Int)) = false := decide_eq_false (by omega)
      go_wp2
      have hB2 := hB.alloc hB.size (.cells #[.int .i64 k, .int .i64 m, .slice q xs.length c4] 52)
      have hrd2 := RdW.alloc HRD.out (.cells #[.int .i64 k, .int .i64 m, .slice q xs.length c4] 52)
      have e0 : (wr.alloc (.cells #[.int .i64 k, .int .i64 m, .slice q xs.length c4] 52)).cell? ⟨wr.heap.size, 0, none⟩ = some (.int .i64 k) := by simp [go_sem]
      have HR2 := (show Hid _ from hrd2)
      clear x0 x1 x2 HRD hrd2
      generalize wr.alloc (.cells #[.int .i64 k, .int .i64 m, .slice q xs.length c4] 52) = w2 at *
      generalize wr.heap.size = h at *
      go_loopw [42] (fun i wq => ∃ t : Nat, i = .int .i64 t ∧ t ≤ xs.length ∧ (∀ z, z < t → 0 ≤ xs.getD z 0 ∧ xs.getD z 0 ≤ 1048576) ∧ wq = w2) (fun i _ => xs.length - (intOf i).toNat)
      case atStart => exact ⟨0, rfl, by omega, fun z hz => by omega, rfl⟩
      case round =>
        obtain ⟨t, rfl, ht, hall, rfl⟩ := hrel
        have HA := (show Hid _ from hall)
        clear hall
        by_cases htl : t < xs.length
        · obtain ⟨bq, oq, rfl, hbq, hcq⟩ := rdw_at HR2.out htl
          have hmem : xs.getD t 0 ∈ xs := by rw [List.getD_eq_getElem?_getD, List.getElem?_eq_getElem htl]; exact List.getElem_mem _
          generalize hx1 : xs.getD t 0 = x at hcq hmem
          have HX := (show Hid _ from hx1)
          have HM := (show Hid _ from hmem)
          clear hx1 hmem
          by_cases h7 : x < 0
          · have hd7 : decide (x < 0) = true := decide_eq_true h7
            go_wp2
            go_ret
            exact ⟨hB2, 1, rfl, .inr ⟨rfl, fun hR => by have := ((right_ok' hR HSJ.out).2.2.2.2.2 x HM.out).1; omega⟩⟩
          have hd7 : decide (x < 0) = false := decide_eq_false h7
          by_cases h8 : (1048576 : Int) < x
          · have hd8 : decide ((1048576 : Int) < x) = true := decide_eq_true h8
            go_wp2
            go_ret
            exact ⟨hB2, 1, rfl, .inr ⟨rfl, fun hR => by have := ((right_ok' hR HSJ.out).2.2.2.2.2 x HM.out).2; omega⟩⟩
          have hd8 : decide ((1048576 : Int) < x) = false := decide_eq_false h8
          go_wp2
          refine ⟨⟨t + 1, by simp, by omega, fun z hz => ?_, trivial⟩, by simp [intOf]; omega⟩
          rcases Nat.lt_or_ge z t with hz1 | hz1
          · exact HA.out z hz1
          · obtain rfl : z = t := by omega
            rw [HX.out]
            omega
        · go_wp2
          refine ⟨⟨j + 1, k, by simp, by omega, rfl, HP.out.next HSJ.out ⟨?_, by simp only; omega, by simp only; omega, by simp only; omega, by simp only; omega, fun x hx => ?_⟩ (by simp only; omega), hB2⟩, by simp [intOf]; omega⟩
          · simp only
            rcases HP.out.top with ⟨_, h⟩ | ⟨g, hg, h0, h⟩
            · omega
            · have := (HP.out.ok _ g hg (by omega)).1
              omega
          · obtain ⟨z, hz, rfl⟩ := List.getElem_of_mem hx
            have := HA.out z (by simp only at hz; omega)
            rwa [List.getD_eq_getElem?_getD, List.getElem?_eq_getElem hz] at this
    · go_wp2
      go_ret
      obtain rfl : j = n := by omega
      have hP := HP.out
      rw [← hn] at hP
      exact ⟨hB, 0, rfl, .inl ⟨rfl, hP.right⟩⟩
theorem check_ok {v : Value} {S : List Lg} {ws : World} (h : Logs ws v S) (h4 : S.length ≤ 1000) : Calls Try.prog 11 #[v] ws fun e w' => Below ws.heap.size ws w' ∧ ∃ r, e = .returned (.int .i64 r) ∧ ((r = 0 ∧ Right S) ∨ (r = 1 ∧ ¬ Right S)) := by
  have h' := h
  obtain ⟨p, c, rfl, _⟩ := h
  exact check_low p _ c S rfl h4 ws h'
end Go.Proofs.Ytcpcnjblojoppaa
