/-
  THE FIELD's Add, Sub, Mul, Inv; how a law over thirty-two bytes is told. Own work.
-/
import Derived.Test.YtlalonomdblhdaaFe
import Derived.Test.YtlalonomdblhdaaSh2
import Derived.Test.YtlalonomdblhdaaSh5
import Derived.Test.YtlalonomdblhdaaSh9
namespace Go.Proofs.Ytlalonomdblhdaa
open Go.Sh
open Go.ChangeShapes Go.WideShapes Go.ChangeAt Go.RowKit
set_option maxRecDepth 100000

theorem rowRead {ν : Nat → Int} {p r : AV} {x : Nat} (h1 : conc2 ν p = some (byt x)) (h2 : conc ν r = some (num x)) : Row.Ok ν Try.prog ⟨37, [p], r⟩ := ⟨[byt x], num x, by simp [concT, h1], h2, read_ok x⟩
theorem rowLay {ν : Nat → Int} {p r : AV} {x : Nat} (h1 : conc2 ν p = some (num x)) (h2 : conc ν r = some (byt x)) : Row.Ok ν Try.prog ⟨35, [p], r⟩ := ⟨[num x], byt x, by simp [concT, h1], h2, lay_ok x⟩
theorem rowAddN {ν : Nat → Int} {p q r : AV} {x y : Nat} (hx : x < prime) (hy : y < prime) (h1 : conc2 ν p = some (num x)) (h2 : conc2 ν q = some (num y)) (h3 : conc ν r = some (num ((x + y) % prime))) : Row.Ok ν Try.prog ⟨42, [p, q], r⟩ :=
  ⟨[num x, num y], num ((x + y) % prime), by simp [concT, h1, h2], h3, add_ok x y hx hy⟩
theorem rowNeg {ν : Nat → Int} {p r : AV} {x : Nat} (hx : x < prime) (h1 : conc2 ν p = some (num x)) (h3 : conc ν r = some (num ((prime - x) % prime))) : Row.Ok ν Try.prog ⟨44, [p], r⟩ :=
  ⟨[num x], num ((prime - x) % prime), by simp [concT, h1], h3, neg_ok x hx⟩
theorem rowPow {ν : Nat → Int} {p q r : AV} {x y : Nat} (hx : x < B4) (hy : y < B4) (h1 : conc2 ν p = some (num x)) (h2 : conc2 ν q = some (num y)) (h3 : conc ν r = some (num (x ^ y % prime))) : Row.Ok ν Try.prog ⟨38, [p, q], r⟩ :=
  ⟨[num x, num y], num (x ^ y % prime), by simp [concT, h1, h2], h3, pow_ok x y hx hy⟩

theorem lt_prime (x : Nat) : x % prime < prime := Nat.mod_lt _ prime_pos

def addBT : List Row := [⟨37, [bs 0], ns 64⟩, ⟨43, [ns 64], ns 68⟩, ⟨37, [bs 32], ns 72⟩, ⟨43, [ns 72], ns 76⟩, ⟨42, [ns 68, ns 76], ns 80⟩, ⟨35, [ns 80], bs 84⟩]
theorem addB_says : says noFacts tree addBT 100 3 33 [bs 0, bs 32] (heap0 [] gmax) (bs 84) = true := by kernel_rfl
theorem addB_core (x y x' y' z : Nat) (hx : x < B4) (hy : y < B4) (ex : x' = x % prime) (ey : y' = y % prime) (ez : z = (x' + y') % prime) : Pure Try.prog 33 [byt x, byt y] (byt z) := by
  refine pure_of (ν := nu (byL x ++ (byL y ++ (numL x ++ (numL x' ++ (numL y ++ (numL y' ++ (numL z ++ byL z)))))))) (noFacts_hold _) mixed tab_ok (fun r hr => ?_) addB_says (by kernel_rfl) (by kernel_rfl)
  simp only [addBT, List.mem_cons, List.not_mem_nil, or_false] at hr
  rcases hr with rfl | rfl | rfl | rfl | rfl | rfl
  · exact rowRead (x := x) (by kernel_rfl) (by kernel_rfl)
  · exact rowLeast hx (by kernel_rfl) (by rw [← ex]; kernel_rfl)
  · exact rowRead (x := y) (by kernel_rfl) (by kernel_rfl)
  · exact rowLeast hy (by kernel_rfl) (by rw [← ey]; kernel_rfl)
  · exact rowAddN (x := x') (y := y') (by rw [ex]; exact lt_prime x) (by rw [ey]; exact lt_prime y) (by kernel_rfl) (by kernel_rfl) (by rw [← ez]; kernel_rfl)
  · exact rowLay (x := z) (by kernel_rfl) (by kernel_rfl)
theorem Add_ok (x y : Nat) (hx : x < B4) (hy : y < B4) : Pure Try.prog 33 [byt x, byt y] (byt ((x + y) % prime)) := addB_core x y _ _ _ hx hy rfl rfl (Nat.add_mod x y prime)

def subBT : List Row := [⟨37, [bs 0], ns 64⟩, ⟨43, [ns 64], ns 68⟩, ⟨37, [bs 32], ns 72⟩, ⟨43, [ns 72], ns 76⟩, ⟨44, [ns 76], ns 80⟩, ⟨42, [ns 68, ns 80], ns 84⟩, ⟨35, [ns 84], bs 88⟩]
theorem subB_says : says noFacts tree subBT 100 3 34 [bs 0, bs 32] (heap0 [] gmax) (bs 88) = true := by kernel_rfl
theorem subB_core (x y x' y' u z : Nat) (hx : x < B4) (hy : y < B4) (ex : x' = x % prime) (ey : y' = y % prime) (eu : u = (prime - y') % prime) (ez : z = (x' + u) % prime) : Pure Try.prog 34 [byt x, byt y] (byt z) := by
  refine pure_of (ν := nu (byL x ++ (byL y ++ (numL x ++ (numL x' ++ (numL y ++ (numL y' ++ (numL u ++ (numL z ++ byL z))))))))) (noFacts_hold _) mixed tab_ok (fun r hr => ?_) subB_says (by kernel_rfl) (by kernel_rfl)
  simp only [subBT, List.mem_cons, List.not_mem_nil, or_false] at hr
  rcases hr with rfl | rfl | rfl | rfl | rfl | rfl | rfl
  · exact rowRead (x := x) (by kernel_rfl) (by kernel_rfl)
  · exact rowLeast hx (by kernel_rfl) (by rw [← ex]; kernel_rfl)
  · exact rowRead (x := y) (by kernel_rfl) (by kernel_rfl)
  · exact rowLeast hy (by kernel_rfl) (by rw [← ey]; kernel_rfl)
  · exact rowNeg (x := y') (by rw [ey]; exact lt_prime y) (by kernel_rfl) (by rw [← eu]; kernel_rfl)
  · exact rowAddN (x := x') (y := u) (by rw [ex]; exact lt_prime x) (by rw [eu]; exact lt_prime _) (by kernel_rfl) (by kernel_rfl) (by rw [← ez]; kernel_rfl)
  · exact rowLay (x := z) (by kernel_rfl) (by kernel_rfl)
theorem Sub_ok (x y : Nat) (hx : x < B4) (hy : y < B4) : Pure Try.prog 34 [byt x, byt y] (byt ((x + (prime - y % prime)) % prime)) := subB_core x y _ _ _ _ hx hy rfl rfl rfl (Nat.add_mod x _ prime)

def mulBT : List Row := [⟨37, [bs 0], ns 64⟩, ⟨37, [bs 32], ns 68⟩, ⟨36, [ns 64, ns 68], ns 72⟩, ⟨35, [ns 72], bs 76⟩]
theorem mulB_says : says noFacts tree mulBT 100 3 26 [bs 0, bs 32] (heap0 [] gmax) (bs 76) = true := by kernel_rfl
theorem mulB_core (x y z : Nat) (hx : x < B4) (hy : y < B4) (ez : z = x * y % prime) : Pure Try.prog 26 [byt x, byt y] (byt z) := by
  refine pure_of (ν := nu (byL x ++ (byL y ++ (numL x ++ (numL y ++ (numL z ++ byL z)))))) (noFacts_hold _) mixed tab_ok (fun r hr => ?_) mulB_says (by kernel_rfl) (by kernel_rfl)
  simp only [mulBT, List.mem_cons, List.not_mem_nil, or_false] at hr
  rcases hr with rfl | rfl | rfl | rfl
  · exact rowRead (x := x) (by kernel_rfl) (by kernel_rfl)
  · exact rowRead (x := y) (by kernel_rfl) (by kernel_rfl)
  · exact rowMul hx hy (by kernel_rfl) (by kernel_rfl) (by rw [← ez]; kernel_rfl)
  · exact rowLay (x := z) (by kernel_rfl) (by kernel_rfl)
theorem Mul_ok (x y : Nat) (hx : x < B4) (hy : y < B4) : Pure Try.prog 26 [byt x, byt y] (byt (x * y % prime)) := mulB_core x y _ hx hy rfl

def expInv : Nat := 57896044618658097711785492504343953926634992332820282019728792003956564819947
def invBT : List Row := [⟨37, [bs 0], ns 32⟩, ⟨38, [ns 32, .ag [cK 18446744073709551595, cK 18446744073709551615, cK 18446744073709551615, cK 9223372036854775807]], ns 36⟩, ⟨35, [ns 36], bs 40⟩]
theorem invB_says : says noFacts tree invBT 100 3 27 [bs 0] (heap0 [] gmax) (bs 40) = true := by kernel_rfl
theorem invB_core (x e z : Nat) (hx : x < B4) (he : e < B4) (h0 : Sh.w0 e = 18446744073709551595) (h1 : w1 e = 18446744073709551615) (h2 : w2 e = 18446744073709551615) (h3 : w3 e = 9223372036854775807) (ez : z = x ^ e % prime) : Pure Try.prog 27 [byt x] (byt z) := by
  refine pure_of (ν := nu (byL x ++ (numL x ++ (numL z ++ byL z)))) (noFacts_hold _) mixed tab_ok (fun r hr => ?_) invB_says (by kernel_rfl) (by kernel_rfl)
  simp only [invBT, List.mem_cons, List.not_mem_nil, or_false] at hr
  rcases hr with rfl | rfl | rfl
  · exact rowRead (x := x) (by kernel_rfl) (by kernel_rfl)
  · exact rowPow (y := e) hx he (by kernel_rfl) (by unfold num; rw [h0, h1, h2, h3]; rfl) (by rw [← ez]; kernel_rfl)
  · exact rowLay (x := z) (by kernel_rfl) (by kernel_rfl)
theorem Inv_ok (x : Nat) (hx : x < B4) : Pure Try.prog 27 [byt x] (byt (x ^ expInv % prime)) := invB_core x expInv _ hx (by decide) (by decide) (by decide) (by decide) (by decide) rfl

theorem rowAddB {ν : Nat → Int} {p q r : AV} {x y : Nat} (hx : x < B4) (hy : y < B4) (h1 : conc2 ν p = some (byt x)) (h2 : conc2 ν q = some (byt y)) (h3 : conc ν r = some (byt ((x + y) % prime))) : Row.Ok ν Try.prog ⟨33, [p, q], r⟩ := ⟨[byt x, byt y], _, by simp [concT, h1, h2], h3, Add_ok x y hx hy⟩
theorem rowSubB {ν : Nat → Int} {p q r : AV} {x y : Nat} (hx : x < B4) (hy : y < B4) (h1 : conc2 ν p = some (byt x)) (h2 : conc2 ν q = some (byt y)) (h3 : conc ν r = some (byt ((x + (prime - y % prime)) % prime))) : Row.Ok ν Try.prog ⟨34, [p, q], r⟩ := ⟨[byt x, byt y], _, by simp [concT, h1, h2], h3, Sub_ok x y hx hy⟩
theorem rowMulB {ν : Nat → Int} {p q r : AV} {x y : Nat} (hx : x < B4) (hy : y < B4) (h1 : conc2 ν p = some (byt x)) (h2 : conc2 ν q = some (byt y)) (h3 : conc ν r = some (byt (x * y % prime))) : Row.Ok ν Try.prog ⟨26, [p, q], r⟩ := ⟨[byt x, byt y], _, by simp [concT, h1, h2], h3, Mul_ok x y hx hy⟩
theorem rowInvB {ν : Nat → Int} {p r : AV} {x : Nat} (hx : x < B4) (h1 : conc2 ν p = some (byt x)) (h3 : conc ν r = some (byt (x ^ expInv % prime))) : Row.Ok ν Try.prog ⟨27, [p], r⟩ := ⟨[byt x], _, by simp [concT, h1], h3, Inv_ok x hx⟩

/-- A number's bytes, known. -/
def kB (x : Nat) : AV := .ag ((byL x).map fun n => .i .u8 (.c (.ofNat n)))

theorem Pure.calls {f : Nat} {fn : Func} {us : List Value} {u : Value} (h : Pure Try.prog f us u) (hf : Try.prog.funcs[f]? = some fn) (hb : fn.body.isSome = true) (hn : (fn.name == "runtime.NumGoroutine") = false) (w : World) :
    Calls Try.prog f us.toArray w fun e w' => e = .returned u ∧ Below w.heap.size w w' := by
  rcases h with ⟨_, h⟩ | h
  · exact h w
  · exfalso
    have h1 := h w
    have h4 : ¬ fn.body = none := by intro hq; rw [hq] at hb; cases hb
    simp only [beq_eq_false_iff_ne, ne_eq] at hn
    simp [callFunc, hf, hn, h4] at h1

theorem own : ownKnob Try.prog.godebug = none := by kernel_rfl
theorem cells1 : Try.prog.cellsOf 5 = 1 := by kernel_rfl
theorem cells32 : Try.prog.cellsOf 22 = 32 := by kernel_rfl

/-- A number's bytes, handed in. -/
theorem open_num {H : Type} {enc : TypeId × Value → H} {w : World} {r : Reach} {b0 base : Nat} {sp : Nat → Bool} {held : Bool} {v : Value} {d : DataW H} {ps : List MemPlace} (hval : Value.okWide Try.prog w r b0 22 v) (hd : DataW.Trod enc Try.prog w base sp held 22 v d ps) :
    ∃ x, x < B4 ∧ v = byt x ∧ ps = [] ∧ Plain Try.prog 22 v d := by
  obtain ⟨zs, h1, h2, h3, h4, h5⟩ := open_array Try.underlying22 Try.underlying5 cells1 cells32 hval hd
  obtain ⟨x, hx, he⟩ := bytes_num zs h1 h3
  exact ⟨x, hx, h2.trans he, h4, h5⟩

end Go.Proofs.Ytlalonomdblhdaa
