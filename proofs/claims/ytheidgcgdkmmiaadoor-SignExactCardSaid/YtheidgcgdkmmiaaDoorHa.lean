/-
 THE FIELD's Mod, Add, Sub, Mul, Inv, Root; how a law over thirty-two bytes is told. Own work.
-/
import Derived.Test.YtheidgcgdkmmiaaDoorIb
import Derived.Test.YtheidgcgdkmmiaaDoorSh0
namespace Go.Proofs.YtheidgcgdkmmiaaDoor
open Go.Sh
open Go.ChangeShapes Go.WideShapes Go.ChangeAt Go.RowKit
set_option maxRecDepth 100000
theorem rowRead {ν : Nat → Int} {p r : AV} {x : Nat} (h1 : conc2 ν p = some (byt x)) (h2 : conc ν r = some (num x)) : Row.Ok ν Tryd.prog ⟨93, [p], r⟩ := ⟨[byt x], num x, by simp [concT, h1], h2, read_ok x⟩
theorem rowLay {ν : Nat → Int} {p r : AV} {x : Nat} (h1 : conc2 ν p = some (num x)) (h2 : conc ν r = some (byt x)) : Row.Ok ν Tryd.prog ⟨91, [p], r⟩ := ⟨[num x], byt x, by simp [concT, h1], h2, lay_ok x⟩
theorem rowAddN {ν : Nat → Int} {p q r : AV} {x y : Nat} (hx : x < prime) (hy : y < prime) (h1 : conc2 ν p = some (num x)) (h2 : conc2 ν q = some (num y)) (h3 : conc ν r = some (num ((x + y) % prime))) : Row.Ok ν Tryd.prog ⟨95, [p, q], r⟩ :=
 ⟨[num x, num y], num ((x + y) % prime), by simp [concT, h1, h2], h3, add_ok x y hx hy⟩
theorem rowNeg {ν : Nat → Int} {p r : AV} {x : Nat} (hx : x < prime) (h1 : conc2 ν p = some (num x)) (h3 : conc ν r = some (num ((prime - x) % prime))) : Row.Ok ν Tryd.prog ⟨96, [p], r⟩ :=
 ⟨[num x], num ((prime - x) % prime), by simp [concT, h1], h3, neg_ok x hx⟩
theorem rowPow {ν : Nat → Int} {p q r : AV} {x y : Nat} (hx : x < B4) (hy : y < B4) (h1 : conc2 ν p = some (num x)) (h2 : conc2 ν q = some (num y)) (h3 : conc ν r = some (num (x ^ y % prime))) : Row.Ok ν Tryd.prog ⟨97, [p, q], r⟩ :=
 ⟨[num x, num y], num (x ^ y % prime), by simp [concT, h1, h2], h3, pow_ok x y hx hy⟩
theorem lt_prime (x : Nat) : x % prime < prime := Nat.mod_lt _ prime_pos
def addBT : List Row := [⟨93, [bs 0], ns 64⟩, ⟨92, [ns 64], ns 68⟩, ⟨93, [bs 32], ns 72⟩, ⟨92, [ns 72], ns 76⟩, ⟨95, [ns 68, ns 76], ns 80⟩, ⟨91, [ns 80], bs 84⟩]
theorem addB_says : says noFacts tree addBT 100 3 75 [bs 0, bs 32] (heap0 [] gmax) (bs 84) = true := by kernel_rfl
theorem addB_core (x y x' y' z : Nat) (hx : x < B4) (hy : y < B4) (ex : x' = x % prime) (ey : y' = y % prime) (ez : z = (x' + y') % prime) : Pure Tryd.prog 75 [byt x, byt y] (byt z) := by
 refine pure_of (ν := nu (byL x ++ (byL y ++ (numL x ++ (numL x' ++ (numL y ++ (numL y' ++ (numL z ++ byL z)))))))) (noFacts_hold _) mixed tab_ok (fun r hr => ?_) addB_says (by kernel_rfl) (by kernel_rfl)
 simp only [addBT, List.mem_cons, List.not_mem_nil, or_false] at hr
 rcases hr with rfl | rfl | rfl | rfl | rfl | rfl
 ·exact rowRead (x := x) (by kernel_rfl) (by kernel_rfl)
 ·exact rowLeast hx (by kernel_rfl) (by rw [← ex]; kernel_rfl)
 ·exact rowRead (x := y) (by kernel_rfl) (by kernel_rfl)
 ·exact rowLeast hy (by kernel_rfl) (by rw [← ey]; kernel_rfl)
 ·exact rowAddN (x := x') (y := y') (by rw [ex]; exact lt_prime x) (by rw [ey]; exact lt_prime y) (by kernel_rfl) (by kernel_rfl) (by rw [← ez]; kernel_rfl)
 ·exact rowLay (x := z) (by kernel_rfl) (by kernel_rfl)
theorem Add_ok (x y : Nat) (hx : x < B4) (hy : y < B4) : Pure Tryd.prog 75 [byt x, byt y] (byt ((x + y) % prime)) := addB_core x y _ _ _ hx hy rfl rfl (Nat.add_mod x y prime)
def subBT : List Row := [⟨93, [bs 0], ns 64⟩, ⟨92, [ns 64], ns 68⟩, ⟨93, [bs 32], ns 72⟩, ⟨92, [ns 72], ns 76⟩, ⟨96, [ns 76], ns 80⟩, ⟨95, [ns 68, ns 80], ns 84⟩, ⟨91, [ns 84], bs 88⟩]
theorem subB_says : says noFacts tree subBT 100 3 73 [bs 0, bs 32] (heap0 [] gmax) (bs 88) = true := by kernel_rfl
theorem subB_core (x y x' y' u z : Nat) (hx : x < B4) (hy : y < B4) (ex : x' = x % prime) (ey : y' = y % prime) (eu : u = (prime - y') % prime) (ez : z = (x' + u) % prime) : Pure Tryd.prog 73 [byt x, byt y] (byt z) := by
 refine pure_of (ν := nu (byL x ++ (byL y ++ (numL x ++ (numL x' ++ (numL y ++ (numL y' ++ (numL u ++ (numL z ++ byL z))))))))) (noFacts_hold _) mixed tab_ok (fun r hr => ?_) subB_says (by kernel_rfl) (by kernel_rfl)
 simp only [subBT, List.mem_cons, List.not_mem_nil, or_false] at hr
 rcases hr with rfl | rfl | rfl | rfl | rfl | rfl | rfl
 ·exact rowRead (x := x) (by kernel_rfl) (by kernel_rfl)
 ·exact rowLeast hx (by kernel_rfl) (by rw [← ex]; kernel_rfl)
 ·exact rowRead (x := y) (by kernel_rfl) (by kernel_rfl)
 ·exact rowLeast hy (by kernel_rfl) (by rw [← ey]; kernel_rfl)
 ·exact rowNeg (x := y') (by rw [ey]; exact lt_prime y) (by kernel_rfl) (by rw [← eu]; kernel_rfl)
 ·exact rowAddN (x := x') (y := u) (by rw [ex]; exact lt_prime x) (by rw [eu]; exact lt_prime _) (by kernel_rfl) (by kernel_rfl) (by rw [← ez]; kernel_rfl)
 ·exact rowLay (x := z) (by kernel_rfl) (by kernel_rfl)
theorem Sub_ok (x y : Nat) (hx : x < B4) (hy : y < B4) : Pure Tryd.prog 73 [byt x, byt y] (byt ((x + (prime - y % prime)) % prime)) := subB_core x y _ _ _ _ hx hy rfl rfl rfl (Nat.add_mod x _ prime)
def mulBT : List Row := [⟨93, [bs 0], ns 64⟩, ⟨93, [bs 32], ns 68⟩, ⟨94, [ns 64, ns 68], ns 72⟩, ⟨91, [ns 72], bs 76⟩]
theorem mulB_says : says noFacts tree mulBT 100 3 72 [bs 0, bs 32] (heap0 [] gmax) (bs 76) = true := by kernel_rfl
theorem mulB_core (x y z : Nat) (hx : x < B4) (hy : y < B4) (ez : z = x * y % prime) : Pure Tryd.prog 72 [byt x, byt y] (byt z) := by
 refine pure_of (ν := nu (byL x ++ (byL y ++ (numL x ++ (numL y ++ (numL z ++ byL z)))))) (noFacts_hold _) mixed tab_ok (fun r hr => ?_) mulB_says (by kernel_rfl) (by kernel_rfl)
 simp only [mulBT, List.mem_cons, List.not_mem_nil, or_false] at hr
 rcases hr with rfl | rfl | rfl | rfl
 ·exact rowRead (x := x) (by kernel_rfl) (by kernel_rfl)
 ·exact rowRead (x := y) (by kernel_rfl) (by kernel_rfl)
 ·exact rowMul hx hy (by kernel_rfl) (by kernel_rfl) (by rw [← ez]; kernel_rfl)
 ·exact rowLay (x := z) (by kernel_rfl) (by kernel_rfl)
theorem Mul_ok (x y : Nat) (hx : x < B4) (hy : y < B4) : Pure Tryd.prog 72 [byt x, byt y] (byt (x * y % prime)) := mulB_core x y _ hx hy rfl
def expInv : Nat := 57896044618658097711785492504343953926634992332820282019728792003956564819947
def invBT : List Row := [⟨93, [bs 0], ns 32⟩, ⟨97, [ns 32, .ag [cK 18446744073709551595, cK 18446744073709551615, cK 18446744073709551615, cK 9223372036854775807]], ns 36⟩, ⟨91, [ns 36], bs 40⟩]
theorem invB_says : says noFacts tree invBT 100 3 77 [bs 0] (heap0 [] gmax) (bs 40) = true := by kernel_rfl
theorem invB_core (x e z : Nat) (hx : x < B4) (he : e < B4) (h0 : Sh.w0 e = 18446744073709551595) (h1 : w1 e = 18446744073709551615) (h2 : w2 e = 18446744073709551615) (h3 : w3 e = 9223372036854775807) (ez : z = x ^ e % prime) : Pure Tryd.prog 77 [byt x] (byt z) := by
 refine pure_of (ν := nu (byL x ++ (numL x ++ (numL z ++ byL z)))) (noFacts_hold _) mixed tab_ok (fun r hr => ?_) invB_says (by kernel_rfl) (by kernel_rfl)
 simp only [invBT, List.mem_cons, List.not_mem_nil, or_false] at hr
 rcases hr with rfl | rfl | rfl
 ·exact rowRead (x := x) (by kernel_rfl) (by kernel_rfl)
 ·exact rowPow (y := e) hx he (by kernel_rfl) (by unfold num; rw [h0, h1, h2, h3]; rfl) (by rw [← ez]; kernel_rfl)
 ·exact rowLay (x := z) (by kernel_rfl) (by kernel_rfl)
theorem Inv_ok (x : Nat) (hx : x < B4) : Pure Tryd.prog 77 [byt x] (byt (x ^ expInv % prime)) := invB_core x expInv _ hx (by decide) (by decide) (by decide) (by decide) (by decide) rfl
theorem rowAddB {ν : Nat → Int} {p q r : AV} {x y : Nat} (hx : x < B4) (hy : y < B4) (h1 : conc2 ν p = some (byt x)) (h2 : conc2 ν q = some (byt y)) (h3 : conc ν r = some (byt ((x + y) % prime))) : Row.Ok ν Tryd.prog ⟨75, [p, q], r⟩ := ⟨[byt x, byt y], _, by simp [concT, h1, h2], h3, Add_ok x y hx hy⟩
theorem rowSubB {ν : Nat → Int} {p q r : AV} {x y : Nat} (hx : x < B4) (hy : y < B4) (h1 : conc2 ν p = some (byt x)) (h2 : conc2 ν q = some (byt y)) (h3 : conc ν r = some (byt ((x + (prime - y % prime)) % prime))) : Row.Ok ν Tryd.prog ⟨73, [p, q], r⟩ := ⟨[byt x, byt y], _, by simp [concT, h1, h2], h3, Sub_ok x y hx hy⟩
theorem rowMulB {ν : Nat → Int} {p q r : AV} {x y : Nat} (hx : x < B4) (hy : y < B4) (h1 : conc2 ν p = some (byt x)) (h2 : conc2 ν q = some (byt y)) (h3 : conc ν r = some (byt (x * y % prime))) : Row.Ok ν Tryd.prog ⟨72, [p, q], r⟩ := ⟨[byt x, byt y], _, by simp [concT, h1, h2], h3, Mul_ok x y hx hy⟩
theorem rowInvB {ν : Nat → Int} {p r : AV} {x : Nat} (hx : x < B4) (h1 : conc2 ν p = some (byt x)) (h3 : conc ν r = some (byt (x ^ expInv % prime))) : Row.Ok ν Tryd.prog ⟨77, [p], r⟩ := ⟨[byt x], _, by simp [concT, h1], h3, Inv_ok x hx⟩
def e8 : Nat := 7237005577332262213973186563042994240829374041602535252466099000494570602494
def e4 : Nat := 14474011154664524427946373126085988481658748083205070504932198000989141204987
def e8C : AV := .ag [cK 18446744073709551614, cK 18446744073709551615, cK 18446744073709551615, cK 1152921504606846975]
def e4C : AV := .ag [cK 18446744073709551611, cK 18446744073709551615, cK 18446744073709551615, cK 2305843009213693951]
def oddF (k : Nat) (b : Bool) : List (BinOp × AI × AI × Bool) := [(.eql, .e .and .u64 (.s k) (.c (.ofNat 1)), .c (.ofNat 1), b)]
theorem unlike_word {x y : Nat} (hx : x < B4) (hy : y < B4) (h : x ≠ y) : ∃ i, i < 4 ∧ (numL x).getD i 0 ≠ (numL y).getD i 0 := by
 have h1 := split4 x
 have h2 := split4 y
 rw [Nat.div_eq_of_lt hx] at h1
 rw [Nat.div_eq_of_lt hy] at h2
 by_cases e0 : Sh.w0 x = Sh.w0 y
 ·by_cases e1 : w1 x = w1 y
  ·by_cases e2 : w2 x = w2 y
   ·by_cases e3 : w3 x = w3 y
    ·exact (h (by rw [h1, h2, e0, e1, e2, e3])).elim
    ·exact ⟨3, by decide, e3⟩
   ·exact ⟨2, by decide, e2⟩
  ·exact ⟨1, by decide, e1⟩
 ·exact ⟨0, by decide, e0⟩
theorem odd_word (x : Nat) : (arith .and .u64 ((Sh.w0 x : Nat) : Int) ((1 : Nat) : Int) == ((1 : Nat) : Int)) = decide (x % 2 = 1) := by
 rw [a_mask _ 1 1 rfl (by decide)]
 have : Sh.w0 x % 2 ^ 1 = x % 2 := by unfold Sh.w0; omega
 rw [this]
 by_cases h : x % 2 = 1
 ·rw [h]; rfl
 ·have h0 : x % 2 = 0 := by omega
  rw [h0]; rfl
def rootBy (e f x : Nat) : Option Nat :=
 if (x % prime) ^ e % prime * ((x % prime) ^ e % prime) % prime = x % prime then some (if (x % prime) ^ e % prime % 2 = 1 then (prime - (x % prime) ^ e % prime) % prime else (x % prime) ^ e % prime)
 else if (x % prime) ^ e % prime * (2 ^ f % prime) % prime * ((x % prime) ^ e % prime * (2 ^ f % prime) % prime) % prime = x % prime then
  some (if (x % prime) ^ e % prime * (2 ^ f % prime) % prime % 2 = 1 then (prime - (x % prime) ^ e % prime * (2 ^ f % prime) % prime) % prime else (x % prime) ^ e % prime * (2 ^ f % prime) % prime)
 else none
theorem e8_num : num e8 = n4 18446744073709551614 18446744073709551615 18446744073709551615 1152921504606846975 := by
 unfold num
 rw [show Sh.w0 e8 = 18446744073709551614 by decide, show w1 e8 = 18446744073709551615 by decide, show w2 e8 = 18446744073709551615 by decide, show w3 e8 = 1152921504606846975 by decide]
theorem e4_num : num e4 = n4 18446744073709551611 18446744073709551615 18446744073709551615 2305843009213693951 := by
 unfold num
 rw [show Sh.w0 e4 = 18446744073709551611 by decide, show w1 e4 = 18446744073709551615 by decide, show w2 e4 = 18446744073709551615 by decide, show w3 e4 = 2305843009213693951 by decide]
def kB (x : Nat) : AV := .ag ((byL x).map fun n => .i .u8 (.c (.ofNat n)))
theorem own : ownKnob Tryd.prog.godebug = none := by kernel_rfl
theorem cells1 : Tryd.prog.cellsOf 5 = 1 := by kernel_rfl
/-! What rootBy tells. -/
theorem s_sq : Eq' ((2 ^ e4 % prime) * (2 ^ e4 % prime) + 1) 0 := by
 rw [← pm_eq 256 2 e4 (by decide)]
 unfold Eq'
 decide +kernel
def evenOf (r : Nat) : Nat := if r % 2 = 1 then (prime - r) % prime else r
theorem evenOf_spec {r : Nat} (h : r < prime) : evenOf r < prime ∧ evenOf r % 2 = 0 ∧ evenOf r * evenOf r % prime = r * r % prime := by
 unfold evenOf
 split
 ·rename_i ho
  have h1 : (prime - r) % prime = prime - r := Nat.mod_eq_of_lt (by have : 0 < r := (by omega); unfold prime at *; omega)
  rw [h1]
  refine ⟨by have : 0 < r := (by omega); unfold prime at *; omega, by unfold prime at *; omega, ?_⟩
  have h2 := sign_sq r
  rwa [Nat.zero_add, Nat.mod_eq_of_lt h, h1] at h2
 ·rename_i ho
  exact ⟨h, by omega, rfl⟩
theorem root_some {x y : Nat} (h : rootBy e8 e4 x = some y) : y < prime ∧ y % 2 = 0 ∧ y * y % prime = x % prime := by
 unfold rootBy at h
 split at h
 ·rename_i c
  simp only [Option.some.injEq] at h
  obtain ⟨s1, s2, s3⟩ := evenOf_spec (lt_prime ((x % prime) ^ e8))
  have : evenOf ((x % prime) ^ e8 % prime) = y := h
  rw [this] at s1 s2 s3
  exact ⟨s1, s2, s3.trans c⟩
 ·split at h
  ·rename_i c
   simp only [Option.some.injEq] at h
   obtain ⟨s1, s2, s3⟩ := evenOf_spec (lt_prime ((x % prime) ^ e8 % prime * (2 ^ e4 % prime)))
   have : evenOf ((x % prime) ^ e8 % prime * (2 ^ e4 % prime) % prime) = y := h
   rw [this] at s1 s2 s3
   exact ⟨s1, s2, s3.trans c⟩
  ·cases h
theorem root_there {x : Nat} (h : x ^ half' % prime = 1) : ∃ y, rootBy e8 e4 x = some y := by
 have hq : (x % prime) ^ half' % prime = 1 := by rw [← Nat.pow_mod]; exact h
 rcases root_found e8 (2 ^ e4 % prime) (by decide) s_sq hq with h1 | h1
 ·unfold rootBy
  rw [if_pos]
  ·exact ⟨_, rfl⟩
  ·have h2 : Eq' ((x % prime) ^ e8 % prime * ((x % prime) ^ e8 % prime)) ((x % prime) ^ e8 * (x % prime) ^ e8) := Eq'.mul (Eq'.mod _) (Eq'.mod _)
   have h3 := Eq'.trans' h2 h1
   unfold Eq' at h3
   rwa [Nat.mod_mod] at h3
 ·unfold rootBy
  split
  ·exact ⟨_, rfl⟩
  ·rw [if_pos]
   ·exact ⟨_, rfl⟩
   ·have h0 : Eq' ((x % prime) ^ e8 % prime * (2 ^ e4 % prime) % prime) ((x % prime) ^ e8 * (2 ^ e4 % prime)) := Eq'.trans' (Eq'.mod _) (Eq'.mul (Eq'.mod _) (Eq'.rfl' _))
    have h3 := Eq'.trans' (Eq'.mul h0 h0) h1
    unfold Eq' at h3
    rwa [Nat.mod_mod] at h3
theorem root_zero {x : Nat} (h : x % prime = 0) : rootBy e8 e4 x = some 0 := by
 have h0 : 0 ^ e8 % prime = 0 := by rw [Nat.zero_pow (by decide)]; rfl
 unfold rootBy
 rw [h, h0]
 rfl
end Go.Proofs.YtheidgcgdkmmiaaDoor
