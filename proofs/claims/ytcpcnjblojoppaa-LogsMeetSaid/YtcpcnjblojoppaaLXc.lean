/-
  LAYER 25: find. Own work.
-/
import Derived.Test.YtcpcnjblojoppaaLXb
import Derived.Deep.LoopGhost
namespace Go.Proofs.Ytcpcnjblojoppaa
open Go.ChangeShapes Go.WideShapes Go.ChangeAt Go.RowKit Go.Maps
set_option maxRecDepth 100000
attribute [local go_sem ↓] Go.wp_at_zero Go.wp_at_succ
set_option maxHeartbeats 1000000 in
theorem fcmp_ok (c b client : Int) (v : Value) (h : In64 (c - client)) (ws : World) : Calls Try.prog 40 #[.agg #[.int .i64 c, .int .i64 b, v], .int .i64 client] ws fun e w' => e = .returned (.int .i64 (c - client)) ∧ Below ws.heap.size ws w' := by
  obtain ⟨h0, h1⟩ := h
  have hw : IntKind.i64.wrap (c - client) = c - client := IntWalk.i64_in _ (by omega)
  go_enter Try.func40, Try.ntmps40
  go_wp2
  go_ret
  exact ⟨rfl, (Below.refl _ ws).alloc (Nat.le_refl _) _⟩
/-- Where a client's log stands, or should. -/
structure AtL (S : List Lg) (client : Int) (a : Nat) : Prop where
  le : a ≤ S.length
  lo : ∀ (t : Nat) (g : Lg), S[t]? = some g → t < a → g.c < client
  hi : ∀ (t : Nat) (g : Lg), S[t]? = some g → a ≤ t → client ≤ g.c
def foundL (S : List Lg) (client : Int) (a : Nat) : Bool := decide (∃ g, S[a]? = some g ∧ g.c = client)
set_option maxHeartbeats 4000000 in
theorem bsearch_low (p : Option Addr) (n cc : Nat) (S : List Lg) (hn : S.length = n) (h4 : n ≤ 1000) (client : Int) (hc0 : 0 ≤ client) (hc8 : client < 8) (ws : World) (HR : Hid (Right S)) (HS : Hid (Logs ws (.slice p n cc) S)) : Calls Try.prog 39 #[.slice p n cc, .int .i64 client, .func (.func 40) #[] #[]] ws fun e w' => ∃ a : Nat, AtL S client a ∧ e = .returned (.tuple #[.int .i64 a, .bool (foundL S client a)]) ∧ Below ws.heap.size ws w' := by
  go_enter Try.func39, Try.ntmps39
  go_wp2
  go_loopg [9, 10] n (fun kx s9 s10 wr => ∃ lo hi : Nat, s9 = .int .i64 lo ∧ s10 = .int .i64 hi ∧ lo ≤ hi ∧ hi ≤ n ∧ hi - lo ≤ kx ∧ Hid (Below ws.heap.size ws wr) ∧
    Hid ((∀ (t : Nat) (g : Lg), S[t]? = some g → t < lo → g.c < client) ∧ (∀ (t : Nat) (g : Lg), S[t]? = some g → hi ≤ t → client ≤ g.c)))
  case atStart => exact ⟨0, n, rfl, rfl, Nat.zero_le _, Nat.le_refl _, by omega, Below.refl _ _, (⟨fun t g _ ht => absurd ht (Nat.not_lt_zero _), fun t g hg h1 => by have := (List.getElem?_eq_some_iff.1 hg).1; omega⟩ : (∀ (t : Nat) (g : Lg), S[t]? = some g → t < 0 → g.c < client) ∧ (∀ (t : Nat) (g : Lg), S[t]? = some g → n ≤ t → client ≤ g.c))⟩
  case round =>
    obtain ⟨lo, hi, rfl, rfl, hlh, hin, hgk, HB, I⟩ := hrel
    by_cases hlt : lo < hi
    · obtain ⟨b, o, k, m, q, c4, xs, rfl, hb0, hsj, hst0⟩ := logs_at HS.out (j := (lo + hi) / 2) (by omega)
      have hst := hst0.below hb0 HB.out
      have hb := Nat.lt_of_lt_of_le hb0 HB.out.size
      obtain ⟨k0, k8, _⟩ := right_ok' HR.out hsj
      simp only at k0 k8
      have x0 := hst.c
      have x1 := hst.b
      have x2 := hst.v
      simp only at x0 x1 x2
      have HSJ := (show Hid _ from hsj)
      clear hst hst0 hsj
      by_cases hyx : k - client < 0
      · have I2 : Hid ((∀ (t : Nat) (g : Lg), S[t]? = some g → t < (lo + hi) / 2 + 1 → g.c < client) ∧ (∀ (t : Nat) (g : Lg), S[t]? = some g → hi ≤ t → client ≤ g.c)) := ⟨fun t g hg ht => by
          rcases Nat.lt_or_ge t ((lo + hi) / 2) with h | h
          · have := right_up HR.out hg HSJ.out h
            simp only at this
            omega
          · obtain rfl : t = (lo + hi) / 2 := by omega
            rw [HSJ.out] at hg
            cases hg
            simp only
            omega, I.out.2⟩
        go_wp2_with (go_at_call 40; refine (fcmp_ok _ _ _ _ ⟨by omega, by omega⟩ _).mono ?_; rintro ev w3 ⟨rfl, B3⟩)
        go_roundg (hi - ((lo + hi) / 2 + 1))
        case measure => omega
        case rel =>
          exact ⟨(lo + hi) / 2 + 1, hi, by rw [show ((lo : Int) + (hi : Int)) / 2 + 1 = (((lo + hi) / 2 + 1 : Nat) : Int) by omega], rfl, by omega, hin, Nat.le_refl _, HB.out.trans (B3.mono HB.out.size), I2⟩
      · have I2 : Hid ((∀ (t : Nat) (g : Lg), S[t]? = some g → t < lo → g.c < client) ∧ (∀ (t : Nat) (g : Lg), S[t]? = some g → (lo + hi) / 2 ≤ t → client ≤ g.c)) := ⟨I.out.1, fun t g hg ht => by
          rcases Nat.lt_or_ge ((lo + hi) / 2) t with h | h
          · have := right_up HR.out HSJ.out hg h
            simp only at this
            omega
          · obtain rfl : t = (lo + hi) / 2 := by omega
            rw [HSJ.out] at hg
            cases hg
            simp only
            omega⟩
        go_wp2_with (go_at_call 40; refine (fcmp_ok _ _ _ _ ⟨by omega, by omega⟩ _).mono ?_; rintro ev w3 ⟨rfl, B3⟩)
        go_roundg ((lo + hi) / 2 - lo)
        case measure => omega
        case rel =>
          exact ⟨lo, (lo + hi) / 2, rfl, by rw [show ((lo : Int) + (hi : Int)) / 2 = (((lo + hi) / 2 : Nat) : Int) by omega], by omega, by omega, Nat.le_refl _, HB.out.trans (B3.mono HB.out.size), I2⟩
    · obtain rfl : hi = lo := by omega
      have hat : Hid (AtL S client hi) := ⟨by omega, I.out.1, I.out.2⟩
      by_cases hlast : hi < n
      · obtain ⟨b, o, k, m, q, c4, xs, rfl, hb0, hsj, hst0⟩ := logs_at HS.out (j := hi) (by omega)
        have hst := hst0.below hb0 HB.out
        have hb := Nat.lt_of_lt_of_le hb0 HB.out.size
        obtain ⟨k0, k8, _⟩ := right_ok' HR.out hsj
        simp only at k0 k8
        have x0 := hst.c
        have x1 := hst.b
        have x2 := hst.v
        simp only at x0 x1 x2
        have hf : foundL S client hi = decide (k - client = 0) := by
          unfold foundL
          rw [hsj]
          simp only [Option.some.injEq, exists_eq_left']
          congr 1
          exact propext ⟨fun h => by omega, fun h => by omega⟩
        have HF := (show Hid _ from hf)
        clear hst hst0 hsj hf
        by_cases hyx : k - client = 0
        · go_wp2_with (go_at_call 40; refine (fcmp_ok _ _ _ _ ⟨by omega, by omega⟩ _).mono ?_; rintro ev w3 ⟨rfl, B3⟩)
          go_ret2
          exact ⟨hi, hat.out, by rw [HF.out]; simp [hyx], HB.out.trans (B3.mono HB.out.size)⟩
        · go_wp2_with (go_at_call 40; refine (fcmp_ok _ _ _ _ ⟨by omega, by omega⟩ _).mono ?_; rintro ev w3 ⟨rfl, B3⟩)
          go_ret2
          exact ⟨hi, hat.out, by rw [HF.out]; simp [hyx], HB.out.trans (B3.mono HB.out.size)⟩
      · have hf : foundL S client hi = false := by
          unfold foundL
          rw [List.getElem?_eq_none (by omega)]
          simp
        have HF := (show Hid _ from hf)
        clear hf
        go_wp2
        go_ret2
        exact ⟨hi, hat.out, by rw [HF.out]; rfl, HB.out⟩
set_option maxHeartbeats 1000000 in
theorem find_low (p : Option Addr) (n cc : Nat) (S : List Lg) (hn : S.length = n) (h4 : n ≤ 1000) (client : Int) (hc0 : 0 ≤ client) (hc8 : client < 8) (ws : World) (HR : Hid (Right S)) (HS : Hid (Logs ws (.slice p n cc) S)) : Calls Try.prog 35 #[.slice p n cc, .int .i64 client] ws fun e w' => ∃ a : Nat, AtL S client a ∧ e = .returned (.tuple #[.int .i64 a, .bool (foundL S client a)]) ∧ Below ws.heap.size ws w' := by
  go_enter Try.func35, Try.ntmps35
  go_wp2_with (go_at_call 39; refine (bsearch_low p n cc S hn h4 client hc0 hc8 _ HR HS).mono ?_; rintro ev w3 ⟨a, hat, rfl, B3⟩; have HAT := (show Hid _ from hat); clear hat)
  go_ret2
  exact ⟨a, HAT.out, rfl, B3⟩
end Go.Proofs.Ytcpcnjblojoppaa
