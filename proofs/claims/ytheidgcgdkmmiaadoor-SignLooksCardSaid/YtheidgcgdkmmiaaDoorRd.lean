/-
 SIGNATURES: a law's body over all variables, as a row. Own work.
-/
import Derived.Test.YtheidgcgdkmmiaaDoorRc
namespace Go.Proofs.YtheidgcgdkmmiaaDoor
open Go.Sh
open Go.ChangeShapes Go.WideShapes Go.ChangeAt Go.RowKit
set_option maxRecDepth 100000
theorem laidOut : laidOutB Tryd.prog = true := by kernel_rfl
theorem law_row9 {ν : Nat → Int} {F : Facts} {T TG : List Row} {TM : List RowM} {need : Gl} {f n d : Nat} {args : List AV} (hn : gmax ≤ n) (hF : F.Hold ν) (hT : ∀ r ∈ T, r.Ok ν Tryd.prog) (hTG : ∀ r ∈ TG, r.OkG ν Tryd.prog gl9) (hTM : ∀ r ∈ TM, r.Ok ν Tryd.prog gl9) (h : saysB F tree T gl9 TG TM need n d 8 f args (.b true) = true) (hneed : ∀ p ∈ need, p.1 < n ∧ p.2.elem ≠ qac ∧ ∃ us, ∀ ν, qap ν p.2.cells = some us) (hin : args.all (inB need) = true) : RowM.Ok ν Tryd.prog gl9 ⟨f, args, need, [.v (.b true)]⟩ :=
 rowM_of (res := [.b true]) (us := [.bool true]) hF qak qaf gl9_ok hT hTG hTM h hn (fun p hp => ⟨(hneed p hp).1, (hneed p hp).2.1, let ⟨us, hu⟩ := (hneed p hp).2.2; ⟨us, hu ν⟩⟩) hin rfl rfl
def at1' (b : Nat) (pl : Option Pl) : Nat → Option Pl := fun x => if x = b then pl else none
theorem pn_need : ∀ p ∈ [pn 64 2], p.1 < 65 ∧ p.2.elem ≠ qac ∧ ∃ us, ∀ ν, qap ν p.2.cells = some us := fun p hp => by
 simp only [List.mem_cons, List.not_mem_nil, or_false] at hp
 subst hp
 exact ⟨by decide, Nat.ne_of_gt (tgT (by decide) (by decide)).1, [], fun _ => rfl⟩
theorem cells32 : Tryd.prog.cellsOf 22 = 32 := by kernel_rfl
theorem open_num {H : Type} {enc : TypeId × Value → H} {w : World} {r : Reach} {b0 base : Nat} {sp : Nat → Bool} {held : Bool} {v : Value} {d : DataW H} {ps : List MemPlace} (hval : Value.okWide Tryd.prog w r b0 22 v) (hd : DataW.Trod enc Tryd.prog w base sp held 22 v d ps) :
  ∃ x, x < B4 ∧ v = byt x ∧ ps = [] ∧ Plain Tryd.prog 22 v d := by
 obtain ⟨zs, h1, h2, h3, h4, h5⟩ := open_array Tryd.underlying22 Tryd.underlying5 cells1 cells32 hval hd
 obtain ⟨x, hx, he⟩ := bytes_num zs h1 h3
 exact ⟨x, hx, h2.trans he, h4, h5⟩
theorem gl0_need {s : Hd} {blk n : Nat} (h : blk < n) : ∀ p ∈ s.gl0 blk, p.1 < n ∧ p.2.elem ≠ qac ∧ ∃ us, ∀ ν, qap ν p.2.cells = some us := fun p hp => by
 cases s
 ·cases hp
 ·cases hp
 ·simp only [Hd.gl0, List.mem_cons, List.not_mem_nil, or_false] at hp
  subst hp
  exact ⟨h, show (0 : Nat) ≠ qac by decide, [], fun _ => rfl⟩
end Go.Proofs.YtheidgcgdkmmiaaDoor
