/-
 THE FIELD's Mod, Add, Sub, Mul, Inv, Root; how a law over thirty-two bytes is told. Own work.
-/
import Derived.Test.YtheidgcgdkmmiaaDoorIb
import Derived.Test.YtheidgcgdkmmiaaDoorSh0
namespace Go.Proofs.YtheidgcgdkmmiaaDoor
open Go.Sh
open Go.ChangeShapes Go.WideShapes Go.ChangeAt Go.RowKit
set_option maxRecDepth 100000
theorem rowRead {ν : Nat → Int} {p r : AV} {x : Nat} (h1 : qag ν p = some (byt x)) (h2 : conc ν r = some (num x)) : Row.Ok ν Tryd.prog ⟨93, [p], r⟩ := ⟨[byt x], num x, by simp [qai, h1], h2, read_ok x⟩
theorem rowLay {ν : Nat → Int} {p r : AV} {x : Nat} (h1 : qag ν p = some (num x)) (h2 : conc ν r = some (byt x)) : Row.Ok ν Tryd.prog ⟨91, [p], r⟩ := ⟨[num x], byt x, by simp [qai, h1], h2, lay_ok x⟩
theorem rowAddN {ν : Nat → Int} {p q r : AV} {x y : Nat} (hx : x < qaa) (hy : y < qaa) (h1 : qag ν p = some (num x)) (h2 : qag ν q = some (num y)) (h3 : conc ν r = some (num ((x + y) % qaa))) : Row.Ok ν Tryd.prog ⟨95, [p, q], r⟩ :=
 ⟨[num x, num y], num ((x + y) % qaa), by simp [qai, h1, h2], h3, add_ok x y hx hy⟩
theorem rowNeg {ν : Nat → Int} {p r : AV} {x : Nat} (hx : x < qaa) (h1 : qag ν p = some (num x)) (h3 : conc ν r = some (num ((qaa - x) % qaa))) : Row.Ok ν Tryd.prog ⟨96, [p], r⟩ :=
 ⟨[num x], num ((qaa - x) % qaa), by simp [qai, h1], h3, neg_ok x hx⟩
theorem rowPow {ν : Nat → Int} {p q r : AV} {x y : Nat} (hx : x < B4) (hy : y < B4) (h1 : qag ν p = some (num x)) (h2 : qag ν q = some (num y)) (h3 : conc ν r = some (num (x ^ y % qaa))) : Row.Ok ν Tryd.prog ⟨97, [p, q], r⟩ :=
 ⟨[num x, num y], num (x ^ y % qaa), by simp [qai, h1, h2], h3, pow_ok x y hx hy⟩
theorem qar (x : Nat) : x % qaa < qaa := Nat.mod_lt _ prime_pos
def modT : List Row := [⟨93, [bs 0], ns 32⟩, ⟨92, [ns 32], ns 36⟩, ⟨91, [ns 36], bs 40⟩]
theorem mod_says : says qae tree modT 100 3 71 [bs 0] (qaA [] gmax) (bs 40) = true := by kernel_rfl
theorem mod_core (x y : Nat) (hx : x < B4) (hy : y = x % qaa) : Pure Tryd.prog 71 [byt x] (byt y) := by
 refine qan (ν := nu (byL x ++ (numL x ++ (numL y ++ byL y)))) (qab _) qak qaf (fun r hr => ?_) mod_says (by kernel_rfl) (by kernel_rfl)
 simp only [modT, List.mem_cons, List.not_mem_nil, or_false] at hr
 rcases hr with rfl | rfl | rfl
 ·exact rowRead (x := x) (by kernel_rfl) (by kernel_rfl)
 ·exact qbD hx (by kernel_rfl) (by rw [← hy]; kernel_rfl)
 ·exact rowLay (x := y) (by kernel_rfl) (by kernel_rfl)
theorem Mod_ok (x : Nat) (hx : x < B4) : Pure Tryd.prog 71 [byt x] (byt (x % qaa)) := mod_core x _ hx rfl
def addBT : List Row := [⟨93, [bs 0], ns 64⟩, ⟨92, [ns 64], ns 68⟩, ⟨93, [bs 32], ns 72⟩, ⟨92, [ns 72], ns 76⟩, ⟨95, [ns 68, ns 76], ns 80⟩, ⟨91, [ns 80], bs 84⟩]
theorem addB_says : says qae tree addBT 100 3 75 [bs 0, bs 32] (qaA [] gmax) (bs 84) = true := by kernel_rfl
theorem addB_core (x y x' y' z : Nat) (hx : x < B4) (hy : y < B4) (ex : x' = x % qaa) (ey : y' = y % qaa) (ez : z = (x' + y') % qaa) : Pure Tryd.prog 75 [byt x, byt y] (byt z) := by
 refine qan (ν := nu (byL x ++ (byL y ++ (numL x ++ (numL x' ++ (numL y ++ (numL y' ++ (numL z ++ byL z)))))))) (qab _) qak qaf (fun r hr => ?_) addB_says (by kernel_rfl) (by kernel_rfl)
 simp only [addBT, List.mem_cons, List.not_mem_nil, or_false] at hr
 rcases hr with rfl | rfl | rfl | rfl | rfl | rfl
 ·exact rowRead (x := x) (by kernel_rfl) (by kernel_rfl)
 ·exact qbD hx (by kernel_rfl) (by rw [← ex]; kernel_rfl)
 ·exact rowRead (x := y) (by kernel_rfl) (by kernel_rfl)
 ·exact qbD hy (by kernel_rfl) (by rw [← ey]; kernel_rfl)
 ·exact rowAddN (x := x') (y := y') (by rw [ex]; exact qar x) (by rw [ey]; exact qar y) (by kernel_rfl) (by kernel_rfl) (by rw [← ez]; kernel_rfl)
 ·exact rowLay (x := z) (by kernel_rfl) (by kernel_rfl)
theorem Add_ok (x y : Nat) (hx : x < B4) (hy : y < B4) : Pure Tryd.prog 75 [byt x, byt y] (byt ((x + y) % qaa)) := addB_core x y _ _ _ hx hy rfl rfl (Nat.add_mod x y qaa)
def subBT : List Row := [⟨93, [bs 0], ns 64⟩, ⟨92, [ns 64], ns 68⟩, ⟨93, [bs 32], ns 72⟩, ⟨92, [ns 72], ns 76⟩, ⟨96, [ns 76], ns 80⟩, ⟨95, [ns 68, ns 80], ns 84⟩, ⟨91, [ns 84], bs 88⟩]
theorem subB_says : says qae tree subBT 100 3 73 [bs 0, bs 32] (qaA [] gmax) (bs 88) = true := by kernel_rfl
theorem subB_core (x y x' y' u z : Nat) (hx : x < B4) (hy : y < B4) (ex : x' = x % qaa) (ey : y' = y % qaa) (eu : u = (qaa - y') % qaa) (ez : z = (x' + u) % qaa) : Pure Tryd.prog 73 [byt x, byt y] (byt z) := by
 refine qan (ν := nu (byL x ++ (byL y ++ (numL x ++ (numL x' ++ (numL y ++ (numL y' ++ (numL u ++ (numL z ++ byL z))))))))) (qab _) qak qaf (fun r hr => ?_) subB_says (by kernel_rfl) (by kernel_rfl)
 simp only [subBT, List.mem_cons, List.not_mem_nil, or_false] at hr
 rcases hr with rfl | rfl | rfl | rfl | rfl | rfl | rfl
 ·exact rowRead (x := x) (by kernel_rfl) (by kernel_rfl)
 ·exact qbD hx (by kernel_rfl) (by rw [← ex]; kernel_rfl)
 ·exact rowRead (x := y) (by kernel_rfl) (by kernel_rfl)
 ·exact qbD hy (by kernel_rfl) (by rw [← ey]; kernel_rfl)
 ·exact rowNeg (x := y') (by rw [ey]; exact qar y) (by kernel_rfl) (by rw [← eu]; kernel_rfl)
 ·exact rowAddN (x := x') (y := u) (by rw [ex]; exact qar x) (by rw [eu]; exact qar _) (by kernel_rfl) (by kernel_rfl) (by rw [← ez]; kernel_rfl)
 ·exact rowLay (x := z) (by kernel_rfl) (by kernel_rfl)
theorem Sub_ok (x y : Nat) (hx : x < B4) (hy : y < B4) : Pure Tryd.prog 73 [byt x, byt y] (byt ((x + (qaa - y % qaa)) % qaa)) := subB_core x y _ _ _ _ hx hy rfl rfl rfl (Nat.add_mod x _ qaa)
def mulBT : List Row := [⟨93, [bs 0], ns 64⟩, ⟨93, [bs 32], ns 68⟩, ⟨94, [ns 64, ns 68], ns 72⟩, ⟨91, [ns 72], bs 76⟩]
theorem mulB_says : says qae tree mulBT 100 3 72 [bs 0, bs 32] (qaA [] gmax) (bs 76) = true := by kernel_rfl
theorem mulB_core (x y z : Nat) (hx : x < B4) (hy : y < B4) (ez : z = x * y % qaa) : Pure Tryd.prog 72 [byt x, byt y] (byt z) := by
 refine qan (ν := nu (byL x ++ (byL y ++ (numL x ++ (numL y ++ (numL z ++ byL z)))))) (qab _) qak qaf (fun r hr => ?_) mulB_says (by kernel_rfl) (by kernel_rfl)
 simp only [mulBT, List.mem_cons, List.not_mem_nil, or_false] at hr
 rcases hr with rfl | rfl | rfl | rfl
 ·exact rowRead (x := x) (by kernel_rfl) (by kernel_rfl)
 ·exact rowRead (x := y) (by kernel_rfl) (by kernel_rfl)
 ·exact rowMul hx hy (by kernel_rfl) (by kernel_rfl) (by rw [← ez]; kernel_rfl)
 ·exact rowLay (x := z) (by kernel_rfl) (by kernel_rfl)
theorem Mul_ok (x y : Nat) (hx : x < B4) (hy : y < B4) : Pure Tryd.prog 72 [byt x, byt y] (byt (x * y % qaa)) := mulB_core x y _ hx hy rfl
def qbg : Nat := 57896044618658097711785492504343953926634992332820282019728792003956564819947
def invBT : List Row := [⟨93, [bs 0], ns 32⟩, ⟨97, [ns 32, .ag [cK 18446744073709551595, cK 18446744073709551615, cK 18446744073709551615, cK 9223372036854775807]], ns 36⟩, ⟨91, [ns 36], bs 40⟩]
theorem invB_says : says qae tree invBT 100 3 77 [bs 0] (qaA [] gmax) (bs 40) = true := by kernel_rfl
theorem invB_core (x e z : Nat) (hx : x < B4) (he : e < B4) (h0 : Sh.w0 e = 18446744073709551595) (h1 : w1 e = 18446744073709551615) (h2 : w2 e = 18446744073709551615) (h3 : w3 e = 9223372036854775807) (ez : z = x ^ e % qaa) : Pure Tryd.prog 77 [byt x] (byt z) := by
 refine qan (ν := nu (byL x ++ (numL x ++ (numL z ++ byL z)))) (qab _) qak qaf (fun r hr => ?_) invB_says (by kernel_rfl) (by kernel_rfl)
 simp only [invBT, List.mem_cons, List.not_mem_nil, or_false] at hr
 rcases hr with rfl | rfl | rfl
 ·exact rowRead (x := x) (by kernel_rfl) (by kernel_rfl)
 ·exact rowPow (y := e) hx he (by kernel_rfl) (by unfold num; rw [h0, h1, h2, h3]; rfl) (by rw [← ez]; kernel_rfl)
 ·exact rowLay (x := z) (by kernel_rfl) (by kernel_rfl)
theorem Inv_ok (x : Nat) (hx : x < B4) : Pure Tryd.prog 77 [byt x] (byt (x ^ qbg % qaa)) := invB_core x qbg _ hx (by decide) (by decide) (by decide) (by decide) (by decide) rfl
theorem rowModB {ν : Nat → Int} {p r : AV} {x : Nat} (hx : x < B4) (h1 : qag ν p = some (byt x)) (h3 : conc ν r = some (byt (x % qaa))) : Row.Ok ν Tryd.prog ⟨71, [p], r⟩ := ⟨[byt x], _, by simp [qai, h1], h3, Mod_ok x hx⟩
theorem rowAddB {ν : Nat → Int} {p q r : AV} {x y : Nat} (hx : x < B4) (hy : y < B4) (h1 : qag ν p = some (byt x)) (h2 : qag ν q = some (byt y)) (h3 : conc ν r = some (byt ((x + y) % qaa))) : Row.Ok ν Tryd.prog ⟨75, [p, q], r⟩ := ⟨[byt x, byt y], _, by simp [qai, h1, h2], h3, Add_ok x y hx hy⟩
theorem rowSubB {ν : Nat → Int} {p q r : AV} {x y : Nat} (hx : x < B4) (hy : y < B4) (h1 : qag ν p = some (byt x)) (h2 : qag ν q = some (byt y)) (h3 : conc ν r = some (byt ((x + (qaa - y % qaa)) % qaa))) : Row.Ok ν Tryd.prog ⟨73, [p, q], r⟩ := ⟨[byt x, byt y], _, by simp [qai, h1, h2], h3, Sub_ok x y hx hy⟩
theorem qba {ν : Nat → Int} {p q r : AV} {x y : Nat} (hx : x < B4) (hy : y < B4) (h1 : qag ν p = some (byt x)) (h2 : qag ν q = some (byt y)) (h3 : conc ν r = some (byt (x * y % qaa))) : Row.Ok ν Tryd.prog ⟨72, [p, q], r⟩ := ⟨[byt x, byt y], _, by simp [qai, h1, h2], h3, Mul_ok x y hx hy⟩
theorem rowInvB {ν : Nat → Int} {p r : AV} {x : Nat} (hx : x < B4) (h1 : qag ν p = some (byt x)) (h3 : conc ν r = some (byt (x ^ qbg % qaa))) : Row.Ok ν Tryd.prog ⟨77, [p], r⟩ := ⟨[byt x], _, by simp [qai, h1], h3, Inv_ok x hx⟩
def e8 : Nat := 7237005577332262213973186563042994240829374041602535252466099000494570602494
def e4 : Nat := 14474011154664524427946373126085988481658748083205070504932198000989141204987
def e8C : AV := .ag [cK 18446744073709551614, cK 18446744073709551615, cK 18446744073709551615, cK 1152921504606846975]
def e4C : AV := .ag [cK 18446744073709551611, cK 18446744073709551615, cK 18446744073709551615, cK 2305843009213693951]
def twoC : AV := .ag [cK 2, c0, c0, c0]
def z8 : AV := .i .u8 (.c (.ofNat 0))
def zeroB : AV := .ag [z8, z8, z8, z8, z8, z8, z8, z8, z8, z8, z8, z8, z8, z8, z8, z8, z8, z8, z8, z8, z8, z8, z8, z8, z8, z8, z8, z8, z8, z8, z8, z8]
def rootT0 : List Row := [⟨93, [bs 0], ns 32⟩, ⟨92, [ns 32], ns 36⟩, ⟨97, [ns 36, e8C], ns 40⟩]
def rootTA : List Row := rootT0 ++ [⟨94, [ns 40, ns 40], ns 36⟩, ⟨96, [ns 40], ns 44⟩, ⟨91, [ns 40], bs 48⟩, ⟨91, [ns 44], bs 80⟩]
def rootT1 : List Row := rootT0 ++ [⟨94, [ns 40, ns 40], ns 44⟩, ⟨97, [twoC, e4C], ns 48⟩, ⟨94, [ns 40, ns 48], ns 52⟩]
def rootTB : List Row := rootT1 ++ [⟨94, [ns 52, ns 52], ns 36⟩, ⟨96, [ns 52], ns 56⟩, ⟨91, [ns 52], bs 60⟩, ⟨91, [ns 56], bs 92⟩]
def rootTC : List Row := rootT1 ++ [⟨94, [ns 52, ns 52], ns 56⟩]
def oddF (k : Nat) (b : Bool) : List (BinOp × AI × AI × Bool) := [(.eql, .e .and .u64 (.s k) (.c (.ofNat 1)), .c (.ofNat 1), b)]
def neF (k : Nat) (i : Nat) : List (BinOp × AI × AI × Bool) := [(.eql, .s (k + i), .s (36 + i), false)]
theorem rootA_says : says ⟨[], oddF 40 true, []⟩ tree rootTA 100 3 76 [bs 0] (qaA [] gmax) (.tp [bs 80, .b true]) = true ∧ says ⟨[], oddF 40 false, []⟩ tree rootTA 100 3 76 [bs 0] (qaA [] gmax) (.tp [bs 48, .b true]) = true := ⟨by kernel_rfl, by kernel_rfl⟩
noncomputable def sayB (i : Nat) : Bool := says ⟨[], oddF 52 true ++ neF 44 i, []⟩ tree rootTB 100 3 76 [bs 0] (qaA [] gmax) (.tp [bs 92, .b true]) && says ⟨[], oddF 52 false ++ neF 44 i, []⟩ tree rootTB 100 3 76 [bs 0] (qaA [] gmax) (.tp [bs 60, .b true])
theorem rootB_says : (List.range 4).all sayB = true := by kernel_rfl
noncomputable def sayC (i j : Nat) : Bool := says ⟨[], neF 44 i ++ neF 56 j, []⟩ tree rootTC 100 3 76 [bs 0] (qaA [] gmax) (.tp [zeroB, .b false])
theorem rootC_says : (List.range 4).all (fun i => (List.range 4).all fun j => sayC i j) = true := by kernel_rfl
theorem unlike_word {x y : Nat} (hx : x < B4) (hy : y < B4) (h : x ≠ y) : ∃ i, i < 4 ∧ (numL x).getD i 0 ≠ (numL y).getD i 0 := by
 have h1 := qbr x
 have h2 := qbr y
 rw [Nat.div_eq_of_lt hx] at h1
 rw [Nat.div_eq_of_lt hy] at h2
 by_cases e0 : Sh.w0 x = Sh.w0 y
 ·by_cases e1 : w1 x = w1 y
  ·by_cases e2 : w2 x = w2 y
   ·by_cases e3 : w3 x = w3 y
    ·exact (h (by rw [h1, h2, e0, e1, e2, e3])).elim
    ·exact ⟨3, by decide, e3⟩
   ·exact ⟨2, by decide, e2⟩
  ·exact ⟨1, by decide, e1⟩
 ·exact ⟨0, by decide, e0⟩
theorem odd_word (x : Nat) : (qaj .and .u64 ((Sh.w0 x : Nat) : Int) ((1 : Nat) : Int) == ((1 : Nat) : Int)) = decide (x % 2 = 1) := by
 rw [a_mask _ 1 1 rfl (by decide)]
 have : Sh.w0 x % 2 ^ 1 = x % 2 := by unfold Sh.w0; omega
 rw [this]
 by_cases h : x % 2 = 1
 ·rw [h]; rfl
 ·have h0 : x % 2 = 0 := by omega
  rw [h0]; rfl
theorem ne_word {ν : Nat → Int} {k i a b : Nat} (h1 : ν (k + i) = (a : Int)) (h2 : ν (36 + i) = (b : Int)) (h : a ≠ b) : qaE .eql ((AI.s (k + i)).val ν) ((AI.s (36 + i)).val ν) = false := by
 show (ν (k + i) == ν (36 + i)) = false
 rw [h1, h2]
 simp; omega
def qaL (e f x : Nat) : Option Nat :=
 if (x % qaa) ^ e % qaa * ((x % qaa) ^ e % qaa) % qaa = x % qaa then some (if (x % qaa) ^ e % qaa % 2 = 1 then (qaa - (x % qaa) ^ e % qaa) % qaa else (x % qaa) ^ e % qaa)
 else if (x % qaa) ^ e % qaa * (2 ^ f % qaa) % qaa * ((x % qaa) ^ e % qaa * (2 ^ f % qaa) % qaa) % qaa = x % qaa then
  some (if (x % qaa) ^ e % qaa * (2 ^ f % qaa) % qaa % 2 = 1 then (qaa - (x % qaa) ^ e % qaa * (2 ^ f % qaa) % qaa) % qaa else (x % qaa) ^ e % qaa * (2 ^ f % qaa) % qaa)
 else none
def rootV : Option Nat → Value
 | some z => .tuple #[byt z, .bool true]
 | none => .tuple #[byt 0, .bool false]
theorem rootA_core (x e q r n : Nat) (hx : x < B4) (he : e < B4) (h8 : num e = n4 18446744073709551614 18446744073709551615 18446744073709551615 1152921504606846975) (hq : q = x % qaa) (hr : r = q ^ e % qaa) (hs : r * r % qaa = q) (hn : n = (qaa - r) % qaa) :
  Pure Tryd.prog 76 [byt x] (.tuple #[byt (if r % 2 = 1 then n else r), .bool true]) := by
 have hqb : q < B4 := by rw [hq]; exact qah x
 have hrp : r < qaa := by rw [hr]; exact qar _
 have hrb : r < B4 := Nat.lt_trans hrp (by decide)
 have hT : ∀ t ∈ rootTA, t.Ok (nu (byL x ++ (numL x ++ (numL q ++ (numL r ++ (numL n ++ (byL r ++ byL n))))))) Tryd.prog := by
  intro t ht
  simp only [rootTA, rootT0, List.cons_append, List.nil_append, List.mem_cons, List.not_mem_nil, or_false] at ht
  rcases ht with rfl | rfl | rfl | rfl | rfl | rfl | rfl
  ·exact rowRead (x := x) (by kernel_rfl) (by kernel_rfl)
  ·exact qbD hx (by kernel_rfl) (by rw [← hq]; kernel_rfl)
  ·exact rowPow (x := q) (y := e) hqb he (by kernel_rfl) (by rw [h8]; kernel_rfl) (by rw [← hr]; kernel_rfl)
  ·exact rowMul (x := r) (y := r) hrb hrb (by kernel_rfl) (by kernel_rfl) (by rw [hs]; kernel_rfl)
  ·exact rowNeg hrp (by kernel_rfl) (by rw [← hn]; kernel_rfl)
  ·exact rowLay (x := r) (by kernel_rfl) (by kernel_rfl)
  ·exact rowLay (x := n) (by kernel_rfl) (by kernel_rfl)
 have hF : ∀ b, decide (r % 2 = 1) = b → (Facts.mk [] (oddF 40 b) []).Hold (nu (byL x ++ (numL x ++ (numL q ++ (numL r ++ (numL n ++ (byL r ++ byL n))))))) := by
  intro b hb
  refine ⟨fun p hp => (by cases hp), fun p hp => ?_, fun p hp => by cases hp⟩
  simp only [oddF, List.mem_cons, List.not_mem_nil, or_false] at hp
  subst hp
  rw [← hb]
  exact odd_word r
 by_cases ho : r % 2 = 1
 ·rw [if_pos ho]
  exact qan (hF true (by simp [ho])) qak qaf hT rootA_says.1 (by kernel_rfl) (by kernel_rfl)
 ·rw [if_neg ho]
  exact qan (hF false (by simp [ho])) qak qaf hT rootA_says.2 (by kernel_rfl) (by kernel_rfl)
theorem rootB_core (x e f q r r2 s r' n : Nat) (hx : x < B4) (he : e < B4) (hf : f < B4) (h8 : num e = n4 18446744073709551614 18446744073709551615 18446744073709551615 1152921504606846975) (h4 : num f = n4 18446744073709551611 18446744073709551615 18446744073709551615 2305843009213693951)
  (hq : q = x % qaa) (hr : r = q ^ e % qaa) (hr2 : r2 = r * r % qaa) (hne : r2 ≠ q) (hs : s = 2 ^ f % qaa) (hr' : r' = r * s % qaa) (hsq : r' * r' % qaa = q) (hn : n = (qaa - r') % qaa) :
  Pure Tryd.prog 76 [byt x] (.tuple #[byt (if r' % 2 = 1 then n else r'), .bool true]) := by
 have hqb : q < B4 := by rw [hq]; exact qah x
 have hrb : r < B4 := by rw [hr]; exact qah _
 have hsb : s < B4 := by rw [hs]; exact qah _
 have h2b : r2 < B4 := by rw [hr2]; exact qah _
 have hrp' : r' < qaa := by rw [hr']; exact qar _
 have hrb' : r' < B4 := Nat.lt_trans hrp' (by decide)
 let l : List Nat := byL x ++ (numL x ++ (numL q ++ (numL r ++ (numL r2 ++ (numL s ++ (numL r' ++ (numL n ++ (byL r' ++ byL n))))))))
 have hT : ∀ t ∈ rootTB, t.Ok (nu (byL x ++ (numL x ++ (numL q ++ (numL r ++ (numL r2 ++ (numL s ++ (numL r' ++ (numL n ++ (byL r' ++ byL n)))))))))) Tryd.prog := by
  intro t ht
  simp only [rootTB, rootT1, rootT0, List.cons_append, List.nil_append, List.mem_cons, List.not_mem_nil, or_false] at ht
  rcases ht with rfl | rfl | rfl | rfl | rfl | rfl | rfl | rfl | rfl | rfl
  ·exact rowRead (x := x) (by kernel_rfl) (by kernel_rfl)
  ·exact qbD hx (by kernel_rfl) (by rw [← hq]; kernel_rfl)
  ·exact rowPow (x := q) (y := e) hqb he (by kernel_rfl) (by rw [h8]; kernel_rfl) (by rw [← hr]; kernel_rfl)
  ·exact rowMul (x := r) (y := r) hrb hrb (by kernel_rfl) (by kernel_rfl) (by rw [← hr2]; kernel_rfl)
  ·exact rowPow (x := 2) (y := f) (by decide) hf (by kernel_rfl) (by rw [h4]; kernel_rfl) (by rw [← hs]; kernel_rfl)
  ·exact rowMul (x := r) (y := s) hrb hsb (by kernel_rfl) (by kernel_rfl) (by rw [← hr']; kernel_rfl)
  ·exact rowMul (x := r') (y := r') hrb' hrb' (by kernel_rfl) (by kernel_rfl) (by rw [hsq]; kernel_rfl)
  ·exact rowNeg hrp' (by kernel_rfl) (by rw [← hn]; kernel_rfl)
  ·exact rowLay (x := r') (by kernel_rfl) (by kernel_rfl)
  ·exact rowLay (x := n) (by kernel_rfl) (by kernel_rfl)
 obtain ⟨i, hi, hw⟩ := unlike_word h2b hqb hne
 have hF : ∀ b, decide (r' % 2 = 1) = b → (Facts.mk [] (oddF 52 b ++ neF 44 i) []).Hold (nu (byL x ++ (numL x ++ (numL q ++ (numL r ++ (numL r2 ++ (numL s ++ (numL r' ++ (numL n ++ (byL r' ++ byL n)))))))))) := by
  intro b hb
  refine ⟨fun p hp => (by cases hp), fun p hp => ?_, fun p hp => by cases hp⟩
  simp only [oddF, neF, List.cons_append, List.nil_append, List.mem_cons, List.not_mem_nil, or_false] at hp
  rcases hp with rfl | rfl
  ·rw [← hb]
   exact odd_word r'
  ·match i, hi, hw with
   | 0, _, hw => exact ne_word (a := Sh.w0 r2) (b := Sh.w0 q) rfl rfl hw
   | 1, _, hw => exact ne_word (a := w1 r2) (b := w1 q) rfl rfl hw
   | 2, _, hw => exact ne_word (a := w2 r2) (b := w2 q) rfl rfl hw
   | 3, _, hw => exact ne_word (a := w3 r2) (b := w3 q) rfl rfl hw
 have hsay := List.all_eq_true.1 rootB_says i (List.mem_range.2 hi)
 simp only [sayB, Bool.and_eq_true] at hsay
 by_cases ho : r' % 2 = 1
 ·rw [if_pos ho]
  exact qan (hF true (by simp [ho])) qak qaf hT hsay.1 (by kernel_rfl) (by kernel_rfl)
 ·rw [if_neg ho]
  exact qan (hF false (by simp [ho])) qak qaf hT hsay.2 (by kernel_rfl) (by kernel_rfl)
theorem rootC_core (x e f q r r2 s r' r3 : Nat) (hx : x < B4) (he : e < B4) (hf : f < B4) (h8 : num e = n4 18446744073709551614 18446744073709551615 18446744073709551615 1152921504606846975) (h4 : num f = n4 18446744073709551611 18446744073709551615 18446744073709551615 2305843009213693951)
  (hq : q = x % qaa) (hr : r = q ^ e % qaa) (hr2 : r2 = r * r % qaa) (hne : r2 ≠ q) (hs : s = 2 ^ f % qaa) (hr' : r' = r * s % qaa) (hr3 : r3 = r' * r' % qaa) (hne3 : r3 ≠ q) :
  Pure Tryd.prog 76 [byt x] (.tuple #[byt 0, .bool false]) := by
 have hqb : q < B4 := by rw [hq]; exact qah x
 have hrb : r < B4 := by rw [hr]; exact qah _
 have hsb : s < B4 := by rw [hs]; exact qah _
 have h2b : r2 < B4 := by rw [hr2]; exact qah _
 have h3b : r3 < B4 := by rw [hr3]; exact qah _
 have hrb' : r' < B4 := by rw [hr']; exact qah _
 have hT : ∀ t ∈ rootTC, t.Ok (nu (byL x ++ (numL x ++ (numL q ++ (numL r ++ (numL r2 ++ (numL s ++ (numL r' ++ numL r3)))))))) Tryd.prog := by
  intro t ht
  simp only [rootTC, rootT1, rootT0, List.cons_append, List.nil_append, List.mem_cons, List.not_mem_nil, or_false] at ht
  rcases ht with rfl | rfl | rfl | rfl | rfl | rfl | rfl
  ·exact rowRead (x := x) (by kernel_rfl) (by kernel_rfl)
  ·exact qbD hx (by kernel_rfl) (by rw [← hq]; kernel_rfl)
  ·exact rowPow (x := q) (y := e) hqb he (by kernel_rfl) (by rw [h8]; kernel_rfl) (by rw [← hr]; kernel_rfl)
  ·exact rowMul (x := r) (y := r) hrb hrb (by kernel_rfl) (by kernel_rfl) (by rw [← hr2]; kernel_rfl)
  ·exact rowPow (x := 2) (y := f) (by decide) hf (by kernel_rfl) (by rw [h4]; kernel_rfl) (by rw [← hs]; kernel_rfl)
  ·exact rowMul (x := r) (y := s) hrb hsb (by kernel_rfl) (by kernel_rfl) (by rw [← hr']; kernel_rfl)
  ·exact rowMul (x := r') (y := r') hrb' hrb' (by kernel_rfl) (by kernel_rfl) (by rw [← hr3]; kernel_rfl)
 obtain ⟨i, hi, hw⟩ := unlike_word h2b hqb hne
 obtain ⟨j, hj, hv⟩ := unlike_word h3b hqb hne3
 have hF : (Facts.mk [] (neF 44 i ++ neF 56 j) []).Hold (nu (byL x ++ (numL x ++ (numL q ++ (numL r ++ (numL r2 ++ (numL s ++ (numL r' ++ numL r3)))))))) := by
  refine ⟨fun p hp => (by cases hp), fun p hp => ?_, fun p hp => by cases hp⟩
  simp only [neF, List.cons_append, List.nil_append, List.mem_cons, List.not_mem_nil, or_false] at hp
  rcases hp with rfl | rfl
  ·match i, hi, hw with
   | 0, _, hw => exact ne_word (a := Sh.w0 r2) (b := Sh.w0 q) rfl rfl hw
   | 1, _, hw => exact ne_word (a := w1 r2) (b := w1 q) rfl rfl hw
   | 2, _, hw => exact ne_word (a := w2 r2) (b := w2 q) rfl rfl hw
   | 3, _, hw => exact ne_word (a := w3 r2) (b := w3 q) rfl rfl hw
  ·match j, hj, hv with
   | 0, _, hw => exact ne_word (a := Sh.w0 r3) (b := Sh.w0 q) rfl rfl hw
   | 1, _, hw => exact ne_word (a := w1 r3) (b := w1 q) rfl rfl hw
   | 2, _, hw => exact ne_word (a := w2 r3) (b := w2 q) rfl rfl hw
   | 3, _, hw => exact ne_word (a := w3 r3) (b := w3 q) rfl rfl hw
 have hsay := List.all_eq_true.1 (List.all_eq_true.1 rootC_says i (List.mem_range.2 hi)) j (List.mem_range.2 hj)
 exact qan hF qak qaf hT hsay (by kernel_rfl) (by kernel_rfl)
theorem Root_by (x e f : Nat) (hx : x < B4) (he : e < B4) (hf : f < B4) (h8 : num e = n4 18446744073709551614 18446744073709551615 18446744073709551615 1152921504606846975) (h4 : num f = n4 18446744073709551611 18446744073709551615 18446744073709551615 2305843009213693951) :
  Pure Tryd.prog 76 [byt x] (rootV (qaL e f x)) := by
 unfold qaL
 by_cases c1 : (x % qaa) ^ e % qaa * ((x % qaa) ^ e % qaa) % qaa = x % qaa
 ·rw [if_pos c1]
  exact rootA_core x e _ _ _ hx he h8 rfl rfl c1 rfl
 ·rw [if_neg c1]
  by_cases c2 : (x % qaa) ^ e % qaa * (2 ^ f % qaa) % qaa * ((x % qaa) ^ e % qaa * (2 ^ f % qaa) % qaa) % qaa = x % qaa
  ·rw [if_pos c2]
   exact rootB_core x e f _ _ _ _ _ _ hx he hf h8 h4 rfl rfl rfl c1 rfl rfl c2 rfl
  ·rw [if_neg c2]
   exact rootC_core x e f _ _ _ _ _ _ hx he hf h8 h4 rfl rfl rfl c1 rfl rfl rfl c2
theorem e8_num : num e8 = n4 18446744073709551614 18446744073709551615 18446744073709551615 1152921504606846975 := by
 unfold num
 rw [show Sh.w0 e8 = 18446744073709551614 by decide, show w1 e8 = 18446744073709551615 by decide, show w2 e8 = 18446744073709551615 by decide, show w3 e8 = 1152921504606846975 by decide]
theorem e4_num : num e4 = n4 18446744073709551611 18446744073709551615 18446744073709551615 2305843009213693951 := by
 unfold num
 rw [show Sh.w0 e4 = 18446744073709551611 by decide, show w1 e4 = 18446744073709551615 by decide, show w2 e4 = 18446744073709551615 by decide, show w3 e4 = 2305843009213693951 by decide]
theorem Root_ok (x : Nat) (hx : x < B4) : Pure Tryd.prog 76 [byt x] (rootV (qaL e8 e4 x)) := Root_by x e8 e4 hx (by decide) (by decide) e8_num e4_num
def kB (x : Nat) : AV := .ag ((byL x).map fun n => .i .u8 (.c (.ofNat n)))
theorem own : ownKnob Tryd.prog.godebug = none := by kernel_rfl
theorem cells1 : Tryd.prog.cellsOf 5 = 1 := by kernel_rfl
theorem rowRootY {ν : Nat → Int} {p r : AV} {x y : Nat} (hx : x < B4) (hy : qaL e8 e4 x = some y) (h1 : qag ν p = some (byt x)) (h3 : conc ν (.tp [r, .b true]) = some (rootV (some y))) : Row.Ok ν Tryd.prog ⟨76, [p], .tp [r, .b true]⟩ :=
 ⟨[byt x], _, by simp [qai, h1], h3, hy ▸ Root_ok x hx⟩
theorem rowRootN {ν : Nat → Int} {p r : AV} {x : Nat} (hx : x < B4) (hy : qaL e8 e4 x = none) (h1 : qag ν p = some (byt x)) (h3 : conc ν (.tp [r, .b false]) = some (rootV none)) : Row.Ok ν Tryd.prog ⟨76, [p], .tp [r, .b false]⟩ :=
 ⟨[byt x], _, by simp [qai, h1], h3, hy ▸ Root_ok x hx⟩
/-! What qaL tells. -/
theorem s_sq : Eq' ((2 ^ e4 % qaa) * (2 ^ e4 % qaa) + 1) 0 := by
 rw [← pm_eq 256 2 e4 (by decide)]
 unfold Eq'
 decide +kernel
def evenOf (r : Nat) : Nat := if r % 2 = 1 then (qaa - r) % qaa else r
theorem evenOf_spec {r : Nat} (h : r < qaa) : evenOf r < qaa ∧ evenOf r % 2 = 0 ∧ evenOf r * evenOf r % qaa = r * r % qaa := by
 unfold evenOf
 split
 ·rename_i ho
  have h1 : (qaa - r) % qaa = qaa - r := Nat.mod_eq_of_lt (by have : 0 < r := (by omega); unfold qaa at *; omega)
  rw [h1]
  refine ⟨by have : 0 < r := (by omega); unfold qaa at *; omega, by unfold qaa at *; omega, ?_⟩
  have h2 := sign_sq r
  rwa [Nat.zero_add, Nat.mod_eq_of_lt h, h1] at h2
 ·rename_i ho
  exact ⟨h, by omega, rfl⟩
theorem root_some {x y : Nat} (h : qaL e8 e4 x = some y) : y < qaa ∧ y % 2 = 0 ∧ y * y % qaa = x % qaa := by
 unfold qaL at h
 split at h
 ·rename_i c
  simp only [Option.some.injEq] at h
  obtain ⟨s1, s2, s3⟩ := evenOf_spec (qar ((x % qaa) ^ e8))
  have : evenOf ((x % qaa) ^ e8 % qaa) = y := h
  rw [this] at s1 s2 s3
  exact ⟨s1, s2, s3.trans c⟩
 ·split at h
  ·rename_i c
   simp only [Option.some.injEq] at h
   obtain ⟨s1, s2, s3⟩ := evenOf_spec (qar ((x % qaa) ^ e8 % qaa * (2 ^ e4 % qaa)))
   have : evenOf ((x % qaa) ^ e8 % qaa * (2 ^ e4 % qaa) % qaa) = y := h
   rw [this] at s1 s2 s3
   exact ⟨s1, s2, s3.trans c⟩
  ·cases h
theorem root_there {x : Nat} (h : x ^ half' % qaa = 1) : ∃ y, qaL e8 e4 x = some y := by
 have hq : (x % qaa) ^ half' % qaa = 1 := by rw [← Nat.pow_mod]; exact h
 rcases root_found e8 (2 ^ e4 % qaa) (by decide) s_sq hq with h1 | h1
 ·unfold qaL
  rw [if_pos]
  ·exact ⟨_, rfl⟩
  ·have h2 : Eq' ((x % qaa) ^ e8 % qaa * ((x % qaa) ^ e8 % qaa)) ((x % qaa) ^ e8 * (x % qaa) ^ e8) := Eq'.mul (Eq'.mod _) (Eq'.mod _)
   have h3 := Eq'.trans' h2 h1
   unfold Eq' at h3
   rwa [Nat.mod_mod] at h3
 ·unfold qaL
  split
  ·exact ⟨_, rfl⟩
  ·rw [if_pos]
   ·exact ⟨_, rfl⟩
   ·have h0 : Eq' ((x % qaa) ^ e8 % qaa * (2 ^ e4 % qaa) % qaa) ((x % qaa) ^ e8 * (2 ^ e4 % qaa)) := Eq'.trans' (Eq'.mod _) (Eq'.mul (Eq'.mod _) (Eq'.rfl' _))
    have h3 := Eq'.trans' (Eq'.mul h0 h0) h1
    unfold Eq' at h3
    rwa [Nat.mod_mod] at h3
theorem root_zero {x : Nat} (h : x % qaa = 0) : qaL e8 e4 x = some 0 := by
 have h0 : 0 ^ e8 % qaa = 0 := by rw [Nat.zero_pow (by decide)]; rfl
 unfold qaL
 rw [h, h0]
 rfl
end Go.Proofs.YtheidgcgdkmmiaaDoor
