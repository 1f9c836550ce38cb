/-
  KNOW: what can be known lies in each set that is closed; of all atoms all is known, of nothing just what is made of words alone. Own work.
-/
import Derived.Test.YtikbeagcflofhaaKNs
namespace Go.Proofs.Ytikbeagcflofhaa
open Go.RowKit Go.Maps
set_option maxRecDepth 100000
theorem Kn.closed {L : List Tm} {S K : Nat → Prop} (h0 : ∀ i, S i → i < L.length → K i) (h1 : ∀ i, i < L.length → kd L i ≠ 1 → (∀ x ∈ ar L i, K x) → K i)
    (h9 : ∀ i x, K i → kd L i = 9 → x ∈ ar L i → K x) (h8 : ∀ i x, K i → kd L i = 8 → x ∈ (ar L i).drop 1 → K x)
    (h6 : ∀ i x, K i → kd L i = 6 → K ((ar L i).getD 0 0) → x ∈ (ar L i).drop 1 → K x)
    (h7 : ∀ i x, K i → kd L i = 7 → K ((ar L i).getD 1 0) → x ∈ (ar L i).drop 2 → K x)
    (h5 : ∀ i x, K i → kd L i = 7 → kd L ((ar L i).getD 0 0) = 5 → K ((ar L ((ar L i).getD 0 0)).getD 0 0) → x ∈ (ar L i).drop 2 → K x)
    {i : Nat} (h : Kn L S i) : K i := by
  induction h with
  | given i hs hl => exact h0 i hs hl
  | make i hl hk _ ih => exact h1 i hl hk ih
  | list i x _ h9' hx ih => exact h9 i x ih h9' hx
  | sig i x _ h8' hx ih => exact h8 i x ih h8' hx
  | sealed i x _ h6' _ hx ih ih2 => exact h6 i x ih h6' ih2 hx
  | box1 i x _ h7' _ hx ih ih2 => exact h7 i x ih h7' ih2 hx
  | box2 i x _ h7' h5' _ hx ih ih2 => exact h5 i x ih h7' h5' ih2 hx
/-- A set from which each argument of what is in it is in it. -/
theorem Kn.closed' {L : List Tm} {S K : Nat → Prop} (h0 : ∀ i, S i → i < L.length → K i) (h1 : ∀ i, i < L.length → kd L i ≠ 1 → (∀ x ∈ ar L i, K x) → K i) (h : ∀ i x, K i → x ∈ ar L i → K x) {i : Nat} (hk : Kn L S i) : K i :=
  Kn.closed h0 h1 (fun i x hi _ hx => h i x hi hx) (fun i x hi _ hx => h i x hi (List.mem_of_mem_drop hx)) (fun i x hi _ _ hx => h i x hi (List.mem_of_mem_drop hx)) (fun i x hi _ _ hx => h i x hi (List.mem_of_mem_drop hx)) (fun i x hi _ _ _ hx => h i x hi (List.mem_of_mem_drop hx)) hk
theorem at_kd {L : List Tm} {i : Nat} {k n : Int} {xs : List Int} (h : L[i]? = some (k, n, xs)) : kd L i = k ∧ ar L i = xs.map Int.toNat := by
  unfold kd ar tmAt
  rw [List.getD_eq_getElem?_getD, h]
  exact ⟨rfl, rfl⟩
theorem ar_lt {L : List Tm} (h : Wf L) {i : Nat} (hi : i < L.length) : ∀ x ∈ ar L i, x < i := by
  intro x hx
  obtain ⟨⟨k, n, xs⟩, hat⟩ : ∃ t, L[i]? = some t := ⟨_, List.getElem?_eq_getElem hi⟩
  rw [(at_kd hat).2] at hx
  obtain ⟨z, hz, rfl⟩ := List.mem_map.1 hx
  have hf := (h.good i hi).2.2
  obtain ⟨_, hge⟩ := List.getElem?_eq_some_iff.1 hat
  rw [hge] at hf
  have := hf z hz
  omega
theorem kn_atoms {L : List Tm} {S : Nat → Prop} (h : Wf L) (hS : ∀ i, i < L.length → kd L i = 1 → S i) : ∀ n i, i < n → i < L.length → Kn L S i := by
  intro n
  induction n with
  | zero => intro i hi; omega
  | succ n ih =>
    intro i hi hl
    by_cases hk : kd L i = 1
    · exact .given i (hS i hl hk) hl
    · exact .make i hl hk (fun x hx => by have := ar_lt h hl x hx; exact ih x (by omega) (by omega))
/-! made of words alone -/
def plx (L : List Tm) (s : List Bool) (j : Nat) (xs : List Int) : Bool := decide (kd L j ≠ 1) && xs.all (fun x => bt s x.toNat)
def plS (L : List Tm) (s : List Bool) (j : Nat) : Bool := decide (kd L j ≠ 1) && (ar L j).all (bt s)
def plL (L : List Tm) : Nat → List Bool
  | 0 => []
  | j + 1 => plL L j ++ [plS L (plL L j) j]
theorem plL_len (L : List Tm) : ∀ n, (plL L n).length = n := by
  intro n
  induction n with
  | zero => rfl
  | succ n ih => simp [plL, ih]
theorem bt_app {s t : List Bool} {i : Nat} (h : i < s.length) : bt (s ++ t) i = bt s i := by
  unfold bt
  rw [List.getD_eq_getElem?_getD, List.getD_eq_getElem?_getD, List.getElem?_append_left h]
theorem bt_end (s t : List Bool) (b : Bool) : bt (s ++ b :: t) s.length = b := by
  unfold bt
  rw [List.getD_eq_getElem?_getD, List.getElem?_append_right (Nat.le_refl _)]
  simp
theorem plL_at (L : List Tm) {i : Nat} : ∀ n, i < n → bt (plL L n) i = plS L (plL L i) i := by
  intro n
  induction n with
  | zero => intro h; omega
  | succ n ih =>
    intro h
    rcases Nat.lt_or_ge i n with h1 | h1
    · rw [plL, bt_app (by rw [plL_len]; exact h1)]
      exact ih h1
    · obtain rfl : i = n := by omega
      have := bt_end (plL L i) [] (plS L (plL L i) i)
      rwa [plL_len] at this
theorem plS_true {L : List Tm} {s : List Bool} {i : Nat} (h : plS L s i = true) : kd L i ≠ 1 ∧ ∀ x ∈ ar L i, bt s x = true := by
  unfold plS at h
  rw [Bool.and_eq_true, decide_eq_true_eq, List.all_eq_true] at h
  exact h
theorem pl_stable {L : List Tm} {x n m : Nat} (h : x < n) (h' : x < m) : bt (plL L n) x = bt (plL L m) x := by rw [plL_at L n h, plL_at L m h']
theorem pl_kn {L : List Tm} (hW : Wf L) : ∀ n i, i < n → i < L.length → bt (plL L (i + 1)) i = true → Kn L (fun _ => False) i := by
  intro n
  induction n with
  | zero => intro i hi; omega
  | succ n ih =>
    intro i hi hl hb
    rw [plL_at L _ (Nat.lt_succ_self i)] at hb
    obtain ⟨h1, h2⟩ := plS_true hb
    exact .make i hl h1 (fun x hx => by
      have hlt := ar_lt hW hl x hx
      exact ih x (by omega) (by omega) (by rw [pl_stable (m := i) (Nat.lt_succ_self x) hlt]; exact h2 x hx))
theorem pl_spec {L : List Tm} (hW : Wf L) {i n : Nat} (hi : i < L.length) (hn : i < n) : bt (plL L n) i = true ↔ Kn L (fun _ => False) i := by
  constructor
  · intro h
    exact pl_kn hW (i + 1) i (Nat.lt_succ_self i) hi (by rw [pl_stable (m := n) (Nat.lt_succ_self i) hn]; exact h)
  · intro h
    have := Kn.closed' (K := fun i => i < L.length ∧ bt (plL L L.length) i = true) (fun _ h _ => h.elim) (fun i hl hk h => ⟨hl, by
      rw [plL_at L _ hl]
      unfold plS
      rw [Bool.and_eq_true, decide_eq_true_eq, List.all_eq_true]
      exact ⟨hk, fun x hx => by
        have hlt := ar_lt hW hl x hx
        rw [pl_stable (m := L.length) hlt (by omega)]
        exact (h x hx).2⟩⟩) (fun i x hi hx => by
      have hlt := ar_lt hW hi.1 x hx
      have h2 := hi.2
      rw [plL_at L _ hi.1] at h2
      have := (plS_true h2).2 x hx
      exact ⟨by omega, by rw [pl_stable (m := i) (by omega) hlt]; exact this⟩) h
    rw [pl_stable (m := L.length) hn hi]
    exact this.2
/-! the rounds of the law: the row of what is plain -/
def plR (L : List Tm) (i : Nat) (b : Bool) (n : Nat) : List Bool := plL L i ++ b :: List.replicate (n - (i + 1)) false
theorem plR_len (L : List Tm) {i n : Nat} (b : Bool) (h : i < n) : (plR L i b n).length = n := by simp [plR, plL_len]; omega
theorem plR_self (L : List Tm) (i : Nat) (b : Bool) (n : Nat) : bt (plR L i b n) i = b := by
  have := bt_end (plL L i) (List.replicate (n - (i + 1)) false) b
  rwa [plL_len] at this
theorem plR_low (L : List Tm) {i x : Nat} (b : Bool) (n : Nat) (h : x < i) : bt (plR L i b n) x = bt (plL L i) x := bt_app (by rw [plL_len]; exact h)
theorem plR_set (L : List Tm) (i : Nat) (b c : Bool) (n : Nat) : (plR L i b n).set i c = plR L i c n := by
  unfold plR
  rw [List.set_append, if_neg (by rw [plL_len]; omega), plL_len, Nat.sub_self]
  rfl
theorem pl0_set (L : List Tm) {i n : Nat} (c : Bool) (h : i < n) : (plL L i ++ List.replicate (n - i) false).set i c = plR L i c n := by
  have e : n - i = (n - (i + 1)) + 1 := by omega
  unfold plR
  rw [List.set_append, if_neg (by rw [plL_len]; omega), plL_len, Nat.sub_self, e, List.replicate_succ]
  rfl
theorem pl0_at (L : List Tm) {i n : Nat} (h : i < n) : ((plL L i ++ List.replicate (n - i) false).map Value.bool)[i]? = some (.bool false) := by
  rw [List.getElem?_map, List.getElem?_append_right (by rw [plL_len]; omega), plL_len, Nat.sub_self, List.getElem?_replicate, if_pos (by omega)]
  rfl
theorem plR_next (L : List Tm) {i n : Nat} (h : i < n) : plR L i (plS L (plL L i) i) n = plL L (i + 1) ++ List.replicate (n - (i + 1)) false := by
  rw [plL, List.append_assoc]
  rfl
theorem plx_ar (L : List Tm) (s : List Bool) {j : Nat} {k n : Int} {xs : List Int} (h : L[j]? = some (k, n, xs)) : plx L s j xs = plS L s j := by
  unfold plx plS
  rw [(at_kd h).2, List.all_map]
  rfl
theorem plx_snoc (L : List Tm) (s : List Bool) (j : Nat) (xs : List Int) {t : Nat} (ht : t < xs.length) : plx L s j (xs.take (t + 1)) = (plx L s j (xs.take t) && bt s (xs.getD t 0).toNat) := by
  unfold plx
  rw [List.take_add_one, List.getElem?_eq_getElem ht, List.all_append, List.getD_eq_getElem?_getD, List.getElem?_eq_getElem ht]
  simp [Bool.and_assoc]
end Go.Proofs.Ytikbeagcflofhaa
namespace Go.Proofs.Ytikbeagcflofhaa
open Go.RowKit Go.Maps
set_option maxRecDepth 100000
attribute [local go_sem ↓] Go.wp_at_zero Go.wp_at_succ
theorem on_fresh {w w' : World} {aa : Nat} {Fa : Nat → Prop} (A : Ar w' aa [] Fa) (h : ∀ k, Fa k → w.heap.size ≤ k) (hB : Below w.heap.size w w') : On w w' aa [] (fun _ => False) := ⟨⟨Fa, A, h, fun _ h => h.elim⟩, fun _ h => h.elim, hB⟩
def kwL : List Tm := [(1, 1, []), (1, 2, []), (6, 0, [0, 1])]
theorem kw_no : ¬ Kn kwL (· ∈ [(2 : Int)].map Int.toNat) 1 := by
  intro h
  have := Kn.closed (K := fun i => i = 2) (fun i hs _ => by simpa using hs) (fun i hl hk ha => by
    have : i = 0 ∨ i = 1 ∨ i = 2 := by simp [kwL] at hl; omega
    rcases this with rfl | rfl | rfl
    · exact absurd rfl hk
    · exact absurd rfl hk
    · rfl) (fun i x h h9 _ => by subst h; cases h9) (fun i x h h9 _ => by subst h; cases h9) (fun i x h _ h0 _ => by subst h; exact absurd h0 (by decide)) (fun i x h h9 _ _ => by subst h; cases h9) (fun i x h h9 _ _ _ => by subst h; cases h9) h
  omega
theorem kw_yes : Kn kwL (· ∈ [(2 : Int), 0].map Int.toNat) 1 := .sealed 2 1 (.given 2 (by simp) (by simp [kwL])) rfl (.given 0 (by simp) (by simp [kwL])) (by simp [ar, Proofs.Ytikbeagcflofhaa.tmAt, kwL])
theorem put_k0 : put ([] : List Tm) (1, 1, []) = (0, 0, [(1, 1, [])]) := by decide +kernel
theorem put_k1 : put [(1, 1, [])] (1, 2, []) = (1, 0, [(1, 1, []), (1, 2, [])]) := by decide +kernel
theorem put_k2 : put [(1, 1, []), (1, 2, [])] (6, 0, [0, 1]) = (2, 0, kwL) := by decide +kernel
set_option maxHeartbeats 4000000 in
theorem wakes11_ok (ws : World) : Calls Try.prog 16 #[] ws fun e w' => e = .returned (.bool true) ∧ Below ws.heap.size ws w' := by
  have HI2 := (show Hid (allIn kwL [(2 : Int)]) from by intro x hx; simp [kwL] at hx ⊢; omega)
  have HI20 := (show Hid (allIn kwL [(2 : Int), 0]) from by intro x hx; simp [kwL] at hx ⊢; omega)
  go_enter Try.func16, Try.ntmps16
  go_wp2_with (first
    | (go_at_call 13; refine (new_ar _).mono ?_; rintro ev w1 ⟨ab, F0, rfl, A0, hF0, B0⟩; have T0 := on_fresh A0 hF0 B0; clear A0 hF0 B0)
    | (go_at_call 14; refine (make_on T0 1 1 (v := .slice none 0 0) (xs := []) (.inl ⟨rfl, rfl⟩) (by omega) put_k0).mono ?_; rintro ev w2 ⟨rfl, T1, _⟩; clear T0)
    | (go_at_call 14; refine (make_on T1 1 2 (v := .slice none 0 0) (xs := []) (.inl ⟨rfl, rfl⟩) (by omega) put_k1).mono ?_; rintro ev w3 ⟨rfl, T2, _⟩; clear T1)
    | (go_at_call 14; refine (make_on (T2.alloc _) 6 0 (xs := [0, 1]) (reads_lit [0, 1] rfl rfl _) (by omega) put_k2).mono ?_; rintro ev w4 ⟨rfl, T3, _⟩; clear T2)
    | (go_at_call 15; refine (know_is (show Hid _ from T3.alloc _) (xs := [(2 : Int)]) (show Hid _ from (reads_lit [(2 : Int)] rfl rfl _).rdw) (by simp) (by simp [kwL]) HI2 1 (by simp [kwL])).mono ?_; rintro ev w5 ⟨b5, rfl, B5, h5⟩; have T4 := (T3.alloc _).step B5; obtain rfl : b5 = false := Bool.eq_false_iff.2 (fun e => kw_no (h5.1 e)); clear T3 h5)
    | (go_at_call 15; refine (know_is (show Hid _ from T4.alloc _) (xs := [(2 : Int), 0]) (show Hid _ from (reads_lit [(2 : Int), 0] rfl rfl _).rdw) (by simp) (by simp [kwL]) HI20 1 (by simp [kwL])).mono ?_; rintro ev w6 ⟨b6, rfl, B6, h6⟩; have T5 := (T4.alloc _).step B6; obtain rfl := h6.2 kw_yes; clear T4 h6))
  go_ret
  exact ⟨rfl, T5.below⟩
end Go.Proofs.Ytikbeagcflofhaa
