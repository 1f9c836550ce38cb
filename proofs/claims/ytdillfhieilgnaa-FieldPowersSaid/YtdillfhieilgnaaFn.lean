/-
  THE PAGE's INVERSE AND ROOT: what trystref06's Inv and Root answer. Own work.
-/
import Derived.Test.YtdillfhieilgnaaFm
namespace Go.Proofs.Ytdillfhieilgnaa
open Go.Sh
set_option maxRecDepth 100000

def inC : AV := .ag [cK 18446744073709551595, cK 18446744073709551615, cK 18446744073709551615, cK 9223372036854775807]
def p3C : AV := .ag [cK 18446744073709551600, cK 18446744073709551615, cK 18446744073709551615, cK 9223372036854775807]
def p1C : AV := .ag [cK 18446744073709551596, cK 18446744073709551615, cK 18446744073709551615, cK 9223372036854775807]
def smC (n : Nat) : AV := .ag [cK n, c0, c0, c0]

theorem smC_conc (ν : Nat → Int) (n : Nat) (h : n < 1000) : conc2 ν (smC n) = some (num n) := by
  rw [small_num n h]
  rfl
theorem cK4_conc {ν : Nat → Int} {a b c d n : Nat} (h : num n = n4 a b c d) : conc2 ν (.ag [cK a, cK b, cK c, cK d]) = some (num n) := by
  rw [h]
  rfl
theorem in_num : num expInv = n4 18446744073709551595 18446744073709551615 18446744073709551615 9223372036854775807 := by
  unfold num
  rw [show Sh.w0 expInv = 18446744073709551595 by decide, show w1 expInv = 18446744073709551615 by decide, show w2 expInv = 18446744073709551615 by decide, show w3 expInv = 9223372036854775807 by decide]
theorem p3_num : num (prime + 3) = n4 18446744073709551600 18446744073709551615 18446744073709551615 9223372036854775807 := by
  unfold num
  rw [show Sh.w0 (prime + 3) = 18446744073709551600 by decide, show w1 (prime + 3) = 18446744073709551615 by decide, show w2 (prime + 3) = 18446744073709551615 by decide, show w3 (prime + 3) = 9223372036854775807 by decide]
theorem p1_num : num (prime - 1) = n4 18446744073709551596 18446744073709551615 18446744073709551615 9223372036854775807 := by
  unfold num
  rw [show Sh.w0 (prime - 1) = 18446744073709551596 by decide, show w1 (prime - 1) = 18446744073709551615 by decide, show w2 (prime - 1) = 18446744073709551615 by decide, show w3 (prime - 1) = 9223372036854775807 by decide]

theorem rowPowP {ν : Nat → Int} {p q r : AV} {x y : Nat} (hx : x < B4) (hy : y < B4) (h1 : conc2 ν p = some (num x)) (h2 : conc2 ν q = some (num y)) (h3 : conc ν r = some (num (x ^ y % prime))) : Row.Ok ν Try.prog ⟨26, [p, q], r⟩ := ⟨[num x, num y], _, by simp [concT, h1, h2], h3, rPow_ok x y hx hy⟩
theorem rowSubP' {ν : Nat → Int} {p q r : AV} {x y : Nat} (hx : x < B4) (hy : y < B4) (h1 : conc2 ν p = some (num x)) (h2 : conc2 ν q = some (num y)) (h3 : conc ν r = some (num ((x + (prime - y % prime)) % prime))) : Row.Ok ν Try.prog ⟨19, [p, q], r⟩ := ⟨[num x, num y], _, by simp [concT, h1, h2], h3, rSub_ok x y hx hy⟩

def rInvT : List Row := [⟨35, [prC, smC 2], .tp [inC, cK 0]⟩, ⟨26, [ns 0, inC], ns 4⟩]
theorem rInv_says : says noFacts tree rInvT 300 5 28 [ns 0] (heap0 [] gmax) (ns 4) = true := by kernel_rfl
theorem rInv_core (x e r : Nat) (hx : x < B4) (he : e < B4) (hp : prime - 2 = e) (hn : num e = n4 18446744073709551595 18446744073709551615 18446744073709551615 9223372036854775807) (hr : r = x ^ e % prime) : Pure Try.prog 28 [num x] (num r) := by
  refine pure_of (ν := nu (numL x ++ numL r)) (noFacts_hold _) mixed tab_ok (fun q hq => ?_) rInv_says (by kernel_rfl) (by kernel_rfl)
  simp only [rInvT, List.mem_cons, List.not_mem_nil, or_false] at hq
  rcases hq with rfl | rfl
  · exact rowSubGe (x := prime) (y := 2) (by decide) (by decide) (prC_conc _) (smC_conc _ 2 (by decide)) (by rw [hp]; exact cK4_conc hn)
  · exact rowPowP (x := x) (y := e) hx he (by kernel_rfl) (cK4_conc hn) (by rw [← hr]; kernel_rfl)
theorem rInv_ok (x : Nat) (hx : x < B4) : Pure Try.prog 28 [num x] (num (x ^ expInv % prime)) := rInv_core x expInv _ hx (by decide) (by decide) in_num rfl

/-! Root -/

def rtT0 : List Row := [⟨15, [ns 0], ns 4⟩, ⟨37, [prC, smC 3], .tp [p3C, cK 0]⟩, ⟨26, [ns 4, e8C], ns 8⟩]
def rtTA : List Row := rtT0 ++ [⟨21, [ns 8, ns 8], ns 4⟩, ⟨19, [smC 0, ns 8], ns 12⟩]
def rtT1 : List Row := rtT0 ++ [⟨21, [ns 8, ns 8], ns 12⟩, ⟨35, [prC, smC 1], .tp [p1C, cK 0]⟩, ⟨26, [smC 2, e4C], ns 16⟩, ⟨21, [ns 8, ns 16], ns 20⟩]
def rtTB : List Row := rtT1 ++ [⟨21, [ns 20, ns 20], ns 4⟩, ⟨19, [smC 0, ns 20], ns 24⟩]
def rtTC : List Row := rtT1 ++ [⟨21, [ns 20, ns 20], ns 24⟩]
def neG (k : Nat) (i : Nat) : List (BinOp × AI × AI × Bool) := [(.eql, .s (k + i), .s (4 + i), false)]
theorem rtA_says : says ⟨[], oddF 8 true⟩ tree rtTA 600 5 24 [ns 0] (heap0 [] gmax) (.tp [ns 12, .b true]) = true ∧ says ⟨[], oddF 8 false⟩ tree rtTA 600 5 24 [ns 0] (heap0 [] gmax) (.tp [ns 8, .b true]) = true := ⟨by kernel_rfl, by kernel_rfl⟩
noncomputable def rsayB (i : Nat) : Bool := says ⟨[], oddF 20 true ++ neG 12 i⟩ tree rtTB 600 5 24 [ns 0] (heap0 [] gmax) (.tp [ns 24, .b true]) && says ⟨[], oddF 20 false ++ neG 12 i⟩ tree rtTB 600 5 24 [ns 0] (heap0 [] gmax) (.tp [ns 20, .b true])
theorem rtB_says : (List.range 4).all rsayB = true := by kernel_rfl
noncomputable def rsayC (i j : Nat) : Bool := says ⟨[], neG 12 i ++ neG 24 j⟩ tree rtTC 600 5 24 [ns 0] (heap0 [] gmax) (.tp [smC 0, .b false])
theorem rtC_says : (List.range 4).all (fun i => (List.range 4).all fun j => rsayC i j) = true := by kernel_rfl

theorem ne_word4 {ν : Nat → Int} {k i a b : Nat} (h1 : ν (k + i) = (a : Int)) (h2 : ν (4 + i) = (b : Int)) (h : a ≠ b) : compare .eql ((AI.s (k + i)).val ν) ((AI.s (4 + i)).val ν) = false := by
  show (ν (k + i) == ν (4 + i)) = false
  rw [h1, h2]
  simp; omega

def rootN : Option Nat → Value
  | some z => .tuple #[num z, .bool true]
  | none => .tuple #[num 0, .bool false]

theorem rtA_core (x e q r n : Nat) (hx : x < B4) (he : e < B4) (h8 : num e = n4 18446744073709551614 18446744073709551615 18446744073709551615 1152921504606846975) (hq : q = x % prime) (hr : r = q ^ e % prime) (hs : r * r % prime = q) (hn : n = (0 + (prime - r % prime)) % prime) :
    Pure Try.prog 24 [num x] (.tuple #[num (if r % 2 = 1 then n else r), .bool true]) := by
  have hqb : q < B4 := by rw [hq]; exact prime_lt x
  have hrb : r < B4 := by rw [hr]; exact prime_lt _
  have hT : ∀ t ∈ rtTA, t.Ok (nu (numL x ++ (numL q ++ (numL r ++ (numL n))))) Try.prog := by
    intro t ht
    simp only [rtTA, rtT0, List.cons_append, List.nil_append, List.mem_cons, List.not_mem_nil, or_false] at ht
    rcases ht with rfl | rfl | rfl | rfl | rfl
    · exact rowModR hx (by kernel_rfl) (by rw [← hq]; kernel_rfl)
    · exact rowAddR (x := prime) (y := 3) (by decide) (by decide) (by decide) (prC_conc _) (smC_conc _ 3 (by decide)) (cK4_conc p3_num)
    · exact rowPowP (x := q) (y := e) hqb he (by kernel_rfl) (cK4_conc h8) (by rw [← hr]; kernel_rfl)
    · exact rowMulP (x := r) (y := r) hrb hrb (by kernel_rfl) (by kernel_rfl) (by rw [hs]; kernel_rfl)
    · exact rowSubP' (x := 0) (y := r) (by decide) hrb (smC_conc _ 0 (by decide)) (by kernel_rfl) (by rw [← hn]; kernel_rfl)
  have hF : ∀ b, decide (r % 2 = 1) = b → (Facts.mk [] (oddF 8 b)).Hold (nu (numL x ++ (numL q ++ (numL r ++ (numL n))))) := by
    intro b hb
    refine ⟨fun p hp => (by cases hp), fun p hp => ?_⟩
    simp only [oddF, List.mem_cons, List.not_mem_nil, or_false] at hp
    subst hp
    rw [← hb]
    exact odd_word r
  by_cases ho : r % 2 = 1
  · rw [if_pos ho]
    exact pure_of (hF true (by simp [ho])) mixed tab_ok hT rtA_says.1 (by kernel_rfl) (by kernel_rfl)
  · rw [if_neg ho]
    exact pure_of (hF false (by simp [ho])) mixed tab_ok hT rtA_says.2 (by kernel_rfl) (by kernel_rfl)

theorem rtB_core (x e f q r r2 s r' n : Nat) (hx : x < B4) (he : e < B4) (hf : f < B4) (h8 : num e = n4 18446744073709551614 18446744073709551615 18446744073709551615 1152921504606846975) (h4 : num f = n4 18446744073709551611 18446744073709551615 18446744073709551615 2305843009213693951)
    (hq : q = x % prime) (hr : r = q ^ e % prime) (hr2 : r2 = r * r % prime) (hne : r2 ≠ q) (hs : s = 2 ^ f % prime) (hr' : r' = r * s % prime) (hsq : r' * r' % prime = q) (hn : n = (0 + (prime - r' % prime)) % prime) :
    Pure Try.prog 24 [num x] (.tuple #[num (if r' % 2 = 1 then n else r'), .bool true]) := by
  have hqb : q < B4 := by rw [hq]; exact prime_lt x
  have hrb : r < B4 := by rw [hr]; exact prime_lt _
  have hsb : s < B4 := by rw [hs]; exact prime_lt _
  have h2b : r2 < B4 := by rw [hr2]; exact prime_lt _
  have hrb' : r' < B4 := by rw [hr']; exact prime_lt _
  have hT : ∀ t ∈ rtTB, t.Ok (nu (numL x ++ (numL q ++ (numL r ++ (numL r2 ++ (numL s ++ (numL r' ++ (numL n)))))))) Try.prog := by
    intro t ht
    simp only [rtTB, rtT1, rtT0, List.cons_append, List.nil_append, List.mem_cons, List.not_mem_nil, or_false] at ht
    rcases ht with rfl | rfl | rfl | rfl | rfl | rfl | rfl | rfl | rfl
    · exact rowModR hx (by kernel_rfl) (by rw [← hq]; kernel_rfl)
    · exact rowAddR (x := prime) (y := 3) (by decide) (by decide) (by decide) (prC_conc _) (smC_conc _ 3 (by decide)) (cK4_conc p3_num)
    · exact rowPowP (x := q) (y := e) hqb he (by kernel_rfl) (cK4_conc h8) (by rw [← hr]; kernel_rfl)
    · exact rowMulP (x := r) (y := r) hrb hrb (by kernel_rfl) (by kernel_rfl) (by rw [← hr2]; kernel_rfl)
    · exact rowSubGe (x := prime) (y := 1) (by decide) (by decide) (prC_conc _) (smC_conc _ 1 (by decide)) (cK4_conc p1_num)
    · exact rowPowP (x := 2) (y := f) (by decide) hf (smC_conc _ 2 (by decide)) (cK4_conc h4) (by rw [← hs]; kernel_rfl)
    · exact rowMulP (x := r) (y := s) hrb hsb (by kernel_rfl) (by kernel_rfl) (by rw [← hr']; kernel_rfl)
    · exact rowMulP (x := r') (y := r') hrb' hrb' (by kernel_rfl) (by kernel_rfl) (by rw [hsq]; kernel_rfl)
    · exact rowSubP' (x := 0) (y := r') (by decide) hrb' (smC_conc _ 0 (by decide)) (by kernel_rfl) (by rw [← hn]; kernel_rfl)
  obtain ⟨i, hi, hw⟩ := unlike_word h2b hqb hne
  have hF : ∀ b, decide (r' % 2 = 1) = b → (Facts.mk [] (oddF 20 b ++ neG 12 i)).Hold (nu (numL x ++ (numL q ++ (numL r ++ (numL r2 ++ (numL s ++ (numL r' ++ (numL n)))))))) := by
    intro b hb
    refine ⟨fun p hp => (by cases hp), fun p hp => ?_⟩
    simp only [oddF, neG, List.cons_append, List.nil_append, List.mem_cons, List.not_mem_nil, or_false] at hp
    rcases hp with rfl | rfl
    · rw [← hb]
      exact odd_word r'
    · match i, hi, hw with
      | 0, _, hw => exact ne_word4 (a := Sh.w0 r2) (b := Sh.w0 q) rfl rfl hw
      | 1, _, hw => exact ne_word4 (a := w1 r2) (b := w1 q) rfl rfl hw
      | 2, _, hw => exact ne_word4 (a := w2 r2) (b := w2 q) rfl rfl hw
      | 3, _, hw => exact ne_word4 (a := w3 r2) (b := w3 q) rfl rfl hw
  have hsay := List.all_eq_true.1 rtB_says i (List.mem_range.2 hi)
  simp only [rsayB, Bool.and_eq_true] at hsay
  by_cases ho : r' % 2 = 1
  · rw [if_pos ho]
    exact pure_of (hF true (by simp [ho])) mixed tab_ok hT hsay.1 (by kernel_rfl) (by kernel_rfl)
  · rw [if_neg ho]
    exact pure_of (hF false (by simp [ho])) mixed tab_ok hT hsay.2 (by kernel_rfl) (by kernel_rfl)

theorem rtC_core (x e f q r r2 s r' r3 : Nat) (hx : x < B4) (he : e < B4) (hf : f < B4) (h8 : num e = n4 18446744073709551614 18446744073709551615 18446744073709551615 1152921504606846975) (h4 : num f = n4 18446744073709551611 18446744073709551615 18446744073709551615 2305843009213693951)
    (hq : q = x % prime) (hr : r = q ^ e % prime) (hr2 : r2 = r * r % prime) (hne : r2 ≠ q) (hs : s = 2 ^ f % prime) (hr' : r' = r * s % prime) (hr3 : r3 = r' * r' % prime) (hne3 : r3 ≠ q) : Pure Try.prog 24 [num x] (.tuple #[num 0, .bool false]) := by
  have hqb : q < B4 := by rw [hq]; exact prime_lt x
  have hrb : r < B4 := by rw [hr]; exact prime_lt _
  have hsb : s < B4 := by rw [hs]; exact prime_lt _
  have h2b : r2 < B4 := by rw [hr2]; exact prime_lt _
  have hrb' : r' < B4 := by rw [hr']; exact prime_lt _
  have h3b : r3 < B4 := by rw [hr3]; exact prime_lt _
  have hT : ∀ t ∈ rtTC, t.Ok (nu (numL x ++ (numL q ++ (numL r ++ (numL r2 ++ (numL s ++ (numL r' ++ (numL r3)))))))) Try.prog := by
    intro t ht
    simp only [rtTC, rtT1, rtT0, List.cons_append, List.nil_append, List.mem_cons, List.not_mem_nil, or_false] at ht
    rcases ht with rfl | rfl | rfl | rfl | rfl | rfl | rfl | rfl
    · exact rowModR hx (by kernel_rfl) (by rw [← hq]; kernel_rfl)
    · exact rowAddR (x := prime) (y := 3) (by decide) (by decide) (by decide) (prC_conc _) (smC_conc _ 3 (by decide)) (cK4_conc p3_num)
    · exact rowPowP (x := q) (y := e) hqb he (by kernel_rfl) (cK4_conc h8) (by rw [← hr]; kernel_rfl)
    · exact rowMulP (x := r) (y := r) hrb hrb (by kernel_rfl) (by kernel_rfl) (by rw [← hr2]; kernel_rfl)
    · exact rowSubGe (x := prime) (y := 1) (by decide) (by decide) (prC_conc _) (smC_conc _ 1 (by decide)) (cK4_conc p1_num)
    · exact rowPowP (x := 2) (y := f) (by decide) hf (smC_conc _ 2 (by decide)) (cK4_conc h4) (by rw [← hs]; kernel_rfl)
    · exact rowMulP (x := r) (y := s) hrb hsb (by kernel_rfl) (by kernel_rfl) (by rw [← hr']; kernel_rfl)
    · exact rowMulP (x := r') (y := r') hrb' hrb' (by kernel_rfl) (by kernel_rfl) (by rw [← hr3]; kernel_rfl)
  obtain ⟨i, hi, hw⟩ := unlike_word h2b hqb hne
  obtain ⟨j, hj, hv⟩ := unlike_word h3b hqb hne3
  have hF : (Facts.mk [] (neG 12 i ++ neG 24 j)).Hold (nu (numL x ++ (numL q ++ (numL r ++ (numL r2 ++ (numL s ++ (numL r' ++ (numL r3)))))))) := by
    refine ⟨fun p hp => (by cases hp), fun p hp => ?_⟩
    simp only [neG, List.cons_append, List.nil_append, List.mem_cons, List.not_mem_nil, or_false] at hp
    rcases hp with rfl | rfl
    · match i, hi, hw with
      | 0, _, hw => exact ne_word4 (a := Sh.w0 r2) (b := Sh.w0 q) rfl rfl hw
      | 1, _, hw => exact ne_word4 (a := w1 r2) (b := w1 q) rfl rfl hw
      | 2, _, hw => exact ne_word4 (a := w2 r2) (b := w2 q) rfl rfl hw
      | 3, _, hw => exact ne_word4 (a := w3 r2) (b := w3 q) rfl rfl hw
    · match j, hj, hv with
      | 0, _, hw => exact ne_word4 (a := Sh.w0 r3) (b := Sh.w0 q) rfl rfl hw
      | 1, _, hw => exact ne_word4 (a := w1 r3) (b := w1 q) rfl rfl hw
      | 2, _, hw => exact ne_word4 (a := w2 r3) (b := w2 q) rfl rfl hw
      | 3, _, hw => exact ne_word4 (a := w3 r3) (b := w3 q) rfl rfl hw
  have hsay := List.all_eq_true.1 (List.all_eq_true.1 rtC_says i (List.mem_range.2 hi)) j (List.mem_range.2 hj)
  exact pure_of hF mixed tab_ok hT hsay (by kernel_rfl) (by kernel_rfl)

theorem turned (r : Nat) (h : r < prime) : (0 + (prime - r % prime)) % prime = (prime - r) % prime := by
  rw [Nat.zero_add, Nat.mod_eq_of_lt h]

theorem rRoot_by (x e f : Nat) (hx : x < B4) (he : e < B4) (hf : f < B4) (h8 : num e = n4 18446744073709551614 18446744073709551615 18446744073709551615 1152921504606846975) (h4 : num f = n4 18446744073709551611 18446744073709551615 18446744073709551615 2305843009213693951) :
    Pure Try.prog 24 [num x] (rootN (rootBy e f x)) := by
  unfold rootBy
  by_cases c1 : (x % prime) ^ e % prime * ((x % prime) ^ e % prime) % prime = x % prime
  · rw [if_pos c1]
    have h := rtA_core x e _ _ _ hx he h8 rfl rfl c1 rfl
    rw [turned _ (lt_prime _)] at h
    exact h
  · rw [if_neg c1]
    by_cases c2 : (x % prime) ^ e % prime * (2 ^ f % prime) % prime * ((x % prime) ^ e % prime * (2 ^ f % prime) % prime) % prime = x % prime
    · rw [if_pos c2]
      have h := rtB_core x e f _ _ _ _ _ _ hx he hf h8 h4 rfl rfl rfl c1 rfl rfl c2 rfl
      rw [turned _ (lt_prime _)] at h
      exact h
    · rw [if_neg c2]
      exact rtC_core x e f _ _ _ _ _ _ hx he hf h8 h4 rfl rfl rfl c1 rfl rfl rfl c2
theorem rRoot_ok (x : Nat) (hx : x < B4) : Pure Try.prog 24 [num x] (rootN (rootBy e8 e4 x)) := rRoot_by x e8 e4 hx (by decide) (by decide) e8_num e4_num

end Go.Proofs.Ytdillfhieilgnaa
