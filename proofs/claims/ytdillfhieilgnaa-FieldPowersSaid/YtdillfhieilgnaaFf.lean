/-
  THE FIELD: what Mod, Add, Sub, Mul, Pow and Inv answer. Own work.
-/
import Derived.Test.YtdillfhieilgnaaFe
namespace Go.Proofs.Ytdillfhieilgnaa
open Go.Sh
set_option maxRecDepth 100000

theorem rowRead {ν : Nat → Int} {p r : AV} {x : Nat} (h1 : conc2 ν p = some (byt x)) (h2 : conc ν r = some (num x)) : Row.Ok ν Try.prog ⟨33, [p], r⟩ := ⟨[byt x], num x, by simp [concT, h1], h2, read_ok x⟩
theorem rowLay {ν : Nat → Int} {p r : AV} {x : Nat} (h1 : conc2 ν p = some (num x)) (h2 : conc ν r = some (byt x)) : Row.Ok ν Try.prog ⟨31, [p], r⟩ := ⟨[num x], byt x, by simp [concT, h1], h2, lay_ok x⟩
theorem rowAddN {ν : Nat → Int} {p q r : AV} {x y : Nat} (hx : x < prime) (hy : y < prime) (h1 : conc2 ν p = some (num x)) (h2 : conc2 ν q = some (num y)) (h3 : conc ν r = some (num ((x + y) % prime))) : Row.Ok ν Try.prog ⟨36, [p, q], r⟩ :=
  ⟨[num x, num y], num ((x + y) % prime), by simp [concT, h1, h2], h3, add_ok x y hx hy⟩
theorem rowNeg {ν : Nat → Int} {p r : AV} {x : Nat} (hx : x < prime) (h1 : conc2 ν p = some (num x)) (h3 : conc ν r = some (num ((prime - x) % prime))) : Row.Ok ν Try.prog ⟨38, [p], r⟩ :=
  ⟨[num x], num ((prime - x) % prime), by simp [concT, h1], h3, neg_ok x hx⟩
theorem rowPow {ν : Nat → Int} {p q r : AV} {x y : Nat} (hx : x < B4) (hy : y < B4) (h1 : conc2 ν p = some (num x)) (h2 : conc2 ν q = some (num y)) (h3 : conc ν r = some (num (x ^ y % prime))) : Row.Ok ν Try.prog ⟨41, [p, q], r⟩ :=
  ⟨[num x, num y], num (x ^ y % prime), by simp [concT, h1, h2], h3, pow_ok x y hx hy⟩

theorem lt_prime (x : Nat) : x % prime < prime := Nat.mod_lt _ prime_pos

def modT : List Row := [⟨33, [bs 0], ns 32⟩, ⟨32, [ns 32], ns 36⟩, ⟨31, [ns 36], bs 40⟩]
theorem mod_says : says noFacts tree modT 100 3 13 [bs 0] (heap0 [] gmax) (bs 40) = true := by kernel_rfl
theorem mod_core (x y : Nat) (hx : x < B4) (hy : y = x % prime) : Pure Try.prog 13 [byt x] (byt y) := by
  refine pure_of (ν := nu (byL x ++ (numL x ++ (numL y ++ byL y)))) (noFacts_hold _) mixed tab_ok (fun r hr => ?_) mod_says (by kernel_rfl) (by kernel_rfl)
  simp only [modT, List.mem_cons, List.not_mem_nil, or_false] at hr
  rcases hr with rfl | rfl | rfl
  · exact rowRead (x := x) (by kernel_rfl) (by kernel_rfl)
  · exact rowLeast hx (by kernel_rfl) (by rw [← hy]; kernel_rfl)
  · exact rowLay (x := y) (by kernel_rfl) (by kernel_rfl)
theorem Mod_ok (x : Nat) (hx : x < B4) : Pure Try.prog 13 [byt x] (byt (x % prime)) := mod_core x _ hx rfl

def addBT : List Row := [⟨33, [bs 0], ns 64⟩, ⟨32, [ns 64], ns 68⟩, ⟨33, [bs 32], ns 72⟩, ⟨32, [ns 72], ns 76⟩, ⟨36, [ns 68, ns 76], ns 80⟩, ⟨31, [ns 80], bs 84⟩]
theorem addB_says : says noFacts tree addBT 100 3 16 [bs 0, bs 32] (heap0 [] gmax) (bs 84) = true := by kernel_rfl
theorem addB_core (x y x' y' z : Nat) (hx : x < B4) (hy : y < B4) (ex : x' = x % prime) (ey : y' = y % prime) (ez : z = (x' + y') % prime) : Pure Try.prog 16 [byt x, byt y] (byt z) := by
  refine pure_of (ν := nu (byL x ++ (byL y ++ (numL x ++ (numL x' ++ (numL y ++ (numL y' ++ (numL z ++ byL z)))))))) (noFacts_hold _) mixed tab_ok (fun r hr => ?_) addB_says (by kernel_rfl) (by kernel_rfl)
  simp only [addBT, List.mem_cons, List.not_mem_nil, or_false] at hr
  rcases hr with rfl | rfl | rfl | rfl | rfl | rfl
  · exact rowRead (x := x) (by kernel_rfl) (by kernel_rfl)
  · exact rowLeast hx (by kernel_rfl) (by rw [← ex]; kernel_rfl)
  · exact rowRead (x := y) (by kernel_rfl) (by kernel_rfl)
  · exact rowLeast hy (by kernel_rfl) (by rw [← ey]; kernel_rfl)
  · exact rowAddN (x := x') (y := y') (by rw [ex]; exact lt_prime x) (by rw [ey]; exact lt_prime y) (by kernel_rfl) (by kernel_rfl) (by rw [← ez]; kernel_rfl)
  · exact rowLay (x := z) (by kernel_rfl) (by kernel_rfl)
theorem Add_ok (x y : Nat) (hx : x < B4) (hy : y < B4) : Pure Try.prog 16 [byt x, byt y] (byt ((x + y) % prime)) := addB_core x y _ _ _ hx hy rfl rfl (Nat.add_mod x y prime)

def subBT : List Row := [⟨33, [bs 0], ns 64⟩, ⟨32, [ns 64], ns 68⟩, ⟨33, [bs 32], ns 72⟩, ⟨32, [ns 72], ns 76⟩, ⟨38, [ns 76], ns 80⟩, ⟨36, [ns 68, ns 80], ns 84⟩, ⟨31, [ns 84], bs 88⟩]
theorem subB_says : says noFacts tree subBT 100 3 18 [bs 0, bs 32] (heap0 [] gmax) (bs 88) = true := by kernel_rfl
theorem subB_core (x y x' y' u z : Nat) (hx : x < B4) (hy : y < B4) (ex : x' = x % prime) (ey : y' = y % prime) (eu : u = (prime - y') % prime) (ez : z = (x' + u) % prime) : Pure Try.prog 18 [byt x, byt y] (byt z) := by
  refine pure_of (ν := nu (byL x ++ (byL y ++ (numL x ++ (numL x' ++ (numL y ++ (numL y' ++ (numL u ++ (numL z ++ byL z))))))))) (noFacts_hold _) mixed tab_ok (fun r hr => ?_) subB_says (by kernel_rfl) (by kernel_rfl)
  simp only [subBT, List.mem_cons, List.not_mem_nil, or_false] at hr
  rcases hr with rfl | rfl | rfl | rfl | rfl | rfl | rfl
  · exact rowRead (x := x) (by kernel_rfl) (by kernel_rfl)
  · exact rowLeast hx (by kernel_rfl) (by rw [← ex]; kernel_rfl)
  · exact rowRead (x := y) (by kernel_rfl) (by kernel_rfl)
  · exact rowLeast hy (by kernel_rfl) (by rw [← ey]; kernel_rfl)
  · exact rowNeg (x := y') (by rw [ey]; exact lt_prime y) (by kernel_rfl) (by rw [← eu]; kernel_rfl)
  · exact rowAddN (x := x') (y := u) (by rw [ex]; exact lt_prime x) (by rw [eu]; exact lt_prime _) (by kernel_rfl) (by kernel_rfl) (by rw [← ez]; kernel_rfl)
  · exact rowLay (x := z) (by kernel_rfl) (by kernel_rfl)
theorem Sub_ok (x y : Nat) (hx : x < B4) (hy : y < B4) : Pure Try.prog 18 [byt x, byt y] (byt ((x + (prime - y % prime)) % prime)) := subB_core x y _ _ _ _ hx hy rfl rfl rfl (Nat.add_mod x _ prime)

def mulBT : List Row := [⟨33, [bs 0], ns 64⟩, ⟨33, [bs 32], ns 68⟩, ⟨39, [ns 64, ns 68], ns 72⟩, ⟨31, [ns 72], bs 76⟩]
theorem mulB_says : says noFacts tree mulBT 100 3 20 [bs 0, bs 32] (heap0 [] gmax) (bs 76) = true := by kernel_rfl
theorem mulB_core (x y z : Nat) (hx : x < B4) (hy : y < B4) (ez : z = x * y % prime) : Pure Try.prog 20 [byt x, byt y] (byt z) := by
  refine pure_of (ν := nu (byL x ++ (byL y ++ (numL x ++ (numL y ++ (numL z ++ byL z)))))) (noFacts_hold _) mixed tab_ok (fun r hr => ?_) mulB_says (by kernel_rfl) (by kernel_rfl)
  simp only [mulBT, List.mem_cons, List.not_mem_nil, or_false] at hr
  rcases hr with rfl | rfl | rfl | rfl
  · exact rowRead (x := x) (by kernel_rfl) (by kernel_rfl)
  · exact rowRead (x := y) (by kernel_rfl) (by kernel_rfl)
  · exact rowMul hx hy (by kernel_rfl) (by kernel_rfl) (by rw [← ez]; kernel_rfl)
  · exact rowLay (x := z) (by kernel_rfl) (by kernel_rfl)
theorem Mul_ok (x y : Nat) (hx : x < B4) (hy : y < B4) : Pure Try.prog 20 [byt x, byt y] (byt (x * y % prime)) := mulB_core x y _ hx hy rfl

def powBT : List Row := [⟨33, [bs 0], ns 64⟩, ⟨33, [bs 32], ns 68⟩, ⟨41, [ns 64, ns 68], ns 72⟩, ⟨31, [ns 72], bs 76⟩]
theorem powB_says : says noFacts tree powBT 100 3 25 [bs 0, bs 32] (heap0 [] gmax) (bs 76) = true := by kernel_rfl
theorem powB_core (x y z : Nat) (hx : x < B4) (hy : y < B4) (ez : z = x ^ y % prime) : Pure Try.prog 25 [byt x, byt y] (byt z) := by
  refine pure_of (ν := nu (byL x ++ (byL y ++ (numL x ++ (numL y ++ (numL z ++ byL z)))))) (noFacts_hold _) mixed tab_ok (fun r hr => ?_) powB_says (by kernel_rfl) (by kernel_rfl)
  simp only [powBT, List.mem_cons, List.not_mem_nil, or_false] at hr
  rcases hr with rfl | rfl | rfl | rfl
  · exact rowRead (x := x) (by kernel_rfl) (by kernel_rfl)
  · exact rowRead (x := y) (by kernel_rfl) (by kernel_rfl)
  · exact rowPow hx hy (by kernel_rfl) (by kernel_rfl) (by rw [← ez]; kernel_rfl)
  · exact rowLay (x := z) (by kernel_rfl) (by kernel_rfl)
theorem Pow_ok (x y : Nat) (hx : x < B4) (hy : y < B4) : Pure Try.prog 25 [byt x, byt y] (byt (x ^ y % prime)) := powB_core x y _ hx hy rfl

def expInv : Nat := 57896044618658097711785492504343953926634992332820282019728792003956564819947
def invBT : List Row := [⟨33, [bs 0], ns 32⟩, ⟨41, [ns 32, .ag [cK 18446744073709551595, cK 18446744073709551615, cK 18446744073709551615, cK 9223372036854775807]], ns 36⟩, ⟨31, [ns 36], bs 40⟩]
theorem invB_says : says noFacts tree invBT 100 3 27 [bs 0] (heap0 [] gmax) (bs 40) = true := by kernel_rfl
theorem invB_core (x e z : Nat) (hx : x < B4) (he : e < B4) (h0 : Sh.w0 e = 18446744073709551595) (h1 : w1 e = 18446744073709551615) (h2 : w2 e = 18446744073709551615) (h3 : w3 e = 9223372036854775807) (ez : z = x ^ e % prime) : Pure Try.prog 27 [byt x] (byt z) := by
  refine pure_of (ν := nu (byL x ++ (numL x ++ (numL z ++ byL z)))) (noFacts_hold _) mixed tab_ok (fun r hr => ?_) invB_says (by kernel_rfl) (by kernel_rfl)
  simp only [invBT, List.mem_cons, List.not_mem_nil, or_false] at hr
  rcases hr with rfl | rfl | rfl
  · exact rowRead (x := x) (by kernel_rfl) (by kernel_rfl)
  · exact rowPow (y := e) hx he (by kernel_rfl) (by unfold num; rw [h0, h1, h2, h3]; rfl) (by rw [← ez]; kernel_rfl)
  · exact rowLay (x := z) (by kernel_rfl) (by kernel_rfl)
theorem Inv_ok (x : Nat) (hx : x < B4) : Pure Try.prog 27 [byt x] (byt (x ^ expInv % prime)) := invB_core x expInv _ hx (by decide) (by decide) (by decide) (by decide) (by decide) rfl

theorem rowModB {ν : Nat → Int} {p r : AV} {x : Nat} (hx : x < B4) (h1 : conc2 ν p = some (byt x)) (h3 : conc ν r = some (byt (x % prime))) : Row.Ok ν Try.prog ⟨13, [p], r⟩ := ⟨[byt x], _, by simp [concT, h1], h3, Mod_ok x hx⟩
theorem rowAddB {ν : Nat → Int} {p q r : AV} {x y : Nat} (hx : x < B4) (hy : y < B4) (h1 : conc2 ν p = some (byt x)) (h2 : conc2 ν q = some (byt y)) (h3 : conc ν r = some (byt ((x + y) % prime))) : Row.Ok ν Try.prog ⟨16, [p, q], r⟩ := ⟨[byt x, byt y], _, by simp [concT, h1, h2], h3, Add_ok x y hx hy⟩
theorem rowSubB {ν : Nat → Int} {p q r : AV} {x y : Nat} (hx : x < B4) (hy : y < B4) (h1 : conc2 ν p = some (byt x)) (h2 : conc2 ν q = some (byt y)) (h3 : conc ν r = some (byt ((x + (prime - y % prime)) % prime))) : Row.Ok ν Try.prog ⟨18, [p, q], r⟩ := ⟨[byt x, byt y], _, by simp [concT, h1, h2], h3, Sub_ok x y hx hy⟩
theorem rowMulB {ν : Nat → Int} {p q r : AV} {x y : Nat} (hx : x < B4) (hy : y < B4) (h1 : conc2 ν p = some (byt x)) (h2 : conc2 ν q = some (byt y)) (h3 : conc ν r = some (byt (x * y % prime))) : Row.Ok ν Try.prog ⟨20, [p, q], r⟩ := ⟨[byt x, byt y], _, by simp [concT, h1, h2], h3, Mul_ok x y hx hy⟩
theorem rowPowB {ν : Nat → Int} {p q r : AV} {x y : Nat} (hx : x < B4) (hy : y < B4) (h1 : conc2 ν p = some (byt x)) (h2 : conc2 ν q = some (byt y)) (h3 : conc ν r = some (byt (x ^ y % prime))) : Row.Ok ν Try.prog ⟨25, [p, q], r⟩ := ⟨[byt x, byt y], _, by simp [concT, h1, h2], h3, Pow_ok x y hx hy⟩
theorem rowInvB {ν : Nat → Int} {p r : AV} {x : Nat} (hx : x < B4) (h1 : conc2 ν p = some (byt x)) (h3 : conc ν r = some (byt (x ^ expInv % prime))) : Row.Ok ν Try.prog ⟨27, [p], r⟩ := ⟨[byt x], _, by simp [concT, h1], h3, Inv_ok x hx⟩

end Go.Proofs.Ytdillfhieilgnaa
