/-
  THE FIELD: what wakes answers; how a law over thirty-two bytes is told. Own work.
-/
import Derived.Test.YtdillfhieilgnaaFg
import Derived.Test.YtdillfhieilgnaaSh2
namespace Go.Proofs.Ytdillfhieilgnaa
open Go.Sh
open Go.ChangeShapes Go.WideShapes Go.ChangeAt Go.RowKit
set_option maxRecDepth 100000

/-- A number's bytes, known. -/
def kB (x : Nat) : AV := .ag ((byL x).map fun n => .i .u8 (.c (.ofNat n)))
def inv7 : Nat := 16541727033902313631938712144098272550467140666520080577065369143987589948557

theorem root_4 : rootBy e8 e4 4 = some 2 := by
  unfold rootBy
  rw [← pm_eq 256 (4 % prime) e8 (by decide), ← pm_eq 256 2 e4 (by decide)]
  decide +kernel
theorem root_2 : rootBy e8 e4 2 = none := by
  unfold rootBy
  rw [← pm_eq 256 (2 % prime) e8 (by decide), ← pm_eq 256 2 e4 (by decide)]
  decide +kernel
theorem inv_7 : 7 ^ expInv % prime = inv7 := by
  rw [← pm_eq 256 7 expInv (by decide)]
  decide +kernel

def wakesT : List Row := [⟨23, [kB 4], .tp [kB 2, .b true]⟩, ⟨23, [kB 2], .tp [kB 0, .b false]⟩, ⟨27, [kB 7], kB inv7⟩, ⟨20, [kB inv7, kB 7], kB 1⟩]
theorem wakes_says : says noFacts tree wakesT 200 6 22 [] (heap0 [] gmax) (.b true) = true := by kernel_rfl
theorem wakes_ok : Pure Try.prog 22 [] (.bool true) := by
  refine pure_of (ν := nu []) (noFacts_hold _) mixed tab_ok (fun r hr => ?_) wakes_says rfl rfl
  simp only [wakesT, List.mem_cons, List.not_mem_nil, or_false] at hr
  rcases hr with rfl | rfl | rfl | rfl
  · have h := Root_ok 4 (by decide)
    rw [root_4] at h
    exact ⟨[byt 4], rootV (some 2), by kernel_rfl, by kernel_rfl, h⟩
  · have h := Root_ok 2 (by decide)
    rw [root_2] at h
    exact ⟨[byt 2], rootV none, by kernel_rfl, by kernel_rfl, h⟩
  · have h := Inv_ok 7 (by decide)
    rw [inv_7] at h
    exact ⟨[byt 7], byt inv7, by kernel_rfl, by kernel_rfl, h⟩
  · have h := Mul_ok inv7 7 (by decide) (by decide)
    rw [show inv7 * 7 % prime = 1 by decide] at h
    exact ⟨[byt inv7, byt 7], byt 1, by kernel_rfl, by kernel_rfl, h⟩

theorem rowWakes {ν : Nat → Int} : Row.Ok ν Try.prog ⟨22, [], .b true⟩ := ⟨[], .bool true, rfl, rfl, wakes_ok⟩

theorem Pure.calls {f : Nat} {fn : Func} {us : List Value} {u : Value} (h : Pure Try.prog f us u) (hf : Try.prog.funcs[f]? = some fn) (hb : fn.body.isSome = true) (hn : (fn.name == "runtime.NumGoroutine") = false) (w : World) :
    Calls Try.prog f us.toArray w fun e w' => e = .returned u ∧ Below w.heap.size w w' := by
  rcases h with ⟨_, h⟩ | h
  · exact h w
  · exfalso
    have h1 := h w
    have h4 : ¬ fn.body = none := by intro hq; rw [hq] at hb; cases hb
    simp only [beq_eq_false_iff_ne, ne_eq] at hn
    simp [callFunc, hf, hn, h4] at h1

theorem own : ownKnob Try.prog.godebug = none := by kernel_rfl
theorem cells1 : Try.prog.cellsOf 5 = 1 := by kernel_rfl
theorem cells32 : Try.prog.cellsOf 22 = 32 := by kernel_rfl

/-- A number's bytes, handed in. -/
theorem open_num {H : Type} {enc : TypeId × Value → H} {w : World} {r : Reach} {b0 base : Nat} {sp : Nat → Bool} {held : Bool} {v : Value} {d : DataW H} {ps : List MemPlace} (hval : Value.okWide Try.prog w r b0 22 v) (hd : DataW.Trod enc Try.prog w base sp held 22 v d ps) :
    ∃ x, x < B4 ∧ v = byt x ∧ ps = [] ∧ Plain Try.prog 22 v d := by
  obtain ⟨zs, h1, h2, h3, h4, h5⟩ := open_array Try.underlying22 Try.underlying5 cells1 cells32 hval hd
  obtain ⟨x, hx, he⟩ := bytes_num zs h1 h3
  exact ⟨x, hx, h2.trans he, h4, h5⟩

end Go.Proofs.Ytdillfhieilgnaa
