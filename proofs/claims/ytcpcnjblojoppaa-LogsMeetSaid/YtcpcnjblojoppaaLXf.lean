/-
  LAYER 25: put. Own work.
-/
import Derived.Test.YtcpcnjblojoppaaLXe
namespace Go.Proofs.Ytcpcnjblojoppaa
open Go.ChangeShapes Go.WideShapes Go.ChangeAt Go.RowKit Go.Maps
set_option maxRecDepth 100000
attribute [local go_sem ↓] Go.wp_at_zero Go.wp_at_succ
/-- The logs with a body behind one's. -/
def appL (S : List Lg) (a : Nat) (x : Int) (T : List Lg) : Prop := T.length = S.length ∧ ∀ i (h : i < S.length) (h' : i < T.length), T[i].c = S[i].c ∧ T[i].b = S[i].b ∧ T[i].xs = if i = a then S[i].xs ++ [x] else S[i].xs
theorem Alike.app {S T : List Lg} (h : Alike S T) {a : Nat} (ha : a < T.length) (v' : Value) (x : Int) : appL S a x (T.set a ⟨T[a].c, T[a].b, v', T[a].xs ++ [x]⟩) := by
  refine ⟨by rw [List.length_set]; exact h.1, fun i hi hi' => ?_⟩
  have h1 : i < T.length := by simpa using hi'
  obtain ⟨e0, e1, e2⟩ := h.2 i hi h1
  by_cases he : i = a
  · subst he
    rw [List.getElem_set_self, if_pos rfl]
    exact ⟨e0, e1, by rw [e2]⟩
  · rw [List.getElem_set_ne (by omega), if_neg he]
    exact ⟨e0, e1, e2⟩
theorem appL.in3 {S T : List Lg} {a : Nat} {x : Int} (h : appL S a x T) (hx : In64 x) (hin : ∀ i (h : i < S.length), In3 S[i]) : ∀ i (h : i < T.length), In3 T[i] := by
  intro i hi
  have hi' : i < S.length := by rw [← h.1]; exact hi
  obtain ⟨e0, e1, e2⟩ := h.2 i hi' hi
  obtain ⟨a, b, c⟩ := hin i hi'
  unfold In3
  rw [e0, e1, e2]
  refine ⟨a, b, fun z hz => ?_⟩
  split at hz
  · rcases List.mem_append.1 hz with h | h
    · exact c z h
    · rw [List.mem_singleton.1 h]
      exact hx
  · exact c z hz
theorem AtL.same {S : List Lg} {client : Int} {a b : Nat} (h : AtL S client a) (h' : AtL S client b) : a = b := by
  rcases Nat.lt_trichotomy a b with h1 | h1 | h1
  · have hb := h'.le
    have h2 := h'.lo a _ (List.getElem?_eq_getElem (by omega)) h1
    have h3 := h.hi a _ (List.getElem?_eq_getElem (by omega)) (Nat.le_refl _)
    omega
  · exact h1
  · have hb := h.le
    have h2 := h.lo b _ (List.getElem?_eq_getElem (by omega)) h1
    have h3 := h'.hi b _ (List.getElem?_eq_getElem (by omega)) (Nat.le_refl _)
    omega
set_option maxHeartbeats 4000000 in
/-- put where the client's log is full. -/
theorem put_full (p : Option Addr) (n cc a : Nat) (S : List Lg) (hn : S.length = n) (h4 : n ≤ 1000) (client body : Int) (hc0 : 0 ≤ client) (hc8 : client < 8) (ws : World) (HR : Hid (Right S)) (HS : Hid (Logs ws (.slice p n cc) S)) (HA : Hid (AtL S client a)) (HF : Hid (foundL S client a = true)) (ha : a < n) (h32 : Hid (S[a].xs.length = 32)) : Calls Try.prog 30 #[.slice p n cc, .int .i64 client, .int .i64 body] ws fun e w' => e = .returned (.tuple #[.slice none 0 0, .int .i64 0, .int .i64 20]) ∧ Below ws.heap.size ws w' := by
  obtain ⟨b, o, k, m, q, c4, xs, rfl, hb0, hsj, hst0⟩ := logs_at HS.out (j := a) (by omega)
  have hxl : xs.length = 32 := by
    have := (List.getElem?_eq_some_iff.1 hsj).2
    have h := h32.out
    rw [this] at h
    exact h
  rw [hxl] at hst0
  have HST := (show Hid _ from hst0)
  clear hst0 hsj
  go_enter Try.func30, Try.ntmps30
  go_wp2_with (go_at_call 35; refine (find_low _ n cc S hn h4 client hc0 hc8 _ HR HS).mono ?_; rintro ev w1 ⟨a', hat, rfl, B1⟩; obtain rfl : a = a' := HA.out.same hat; rw [HF.out]; have x2 := (B1.cell (p := ⟨b, o + a * 3 + 2, none⟩) hb0).trans HST.out.v; simp only at x2; clear hat)
  go_ret3
  exact ⟨rfl, B1⟩
end Go.Proofs.Ytcpcnjblojoppaa
