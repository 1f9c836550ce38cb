/-
  SIGNATURES: a law's body over all variables, as a row. Own work.
-/
import Derived.Test.YtheidgcgdkmmiaaDoorRc
namespace Go.Proofs.YtheidgcgdkmmiaaDoor
open Go.Sh
open Go.ChangeShapes Go.WideShapes Go.ChangeAt Go.RowKit
set_option maxRecDepth 100000
theorem laidOut : laidOutB Tryd.prog = true := by kernel_rfl
theorem law_row9 {ν : Nat → Int} {F : Facts} {T TG : List Row} {TM : List RowM} {need : Gl} {f n d : Nat} {args : List AV} (hn : gmax ≤ n) (hF : F.Hold ν) (hT : ∀ r ∈ T, r.Ok ν Tryd.prog) (hTG : ∀ r ∈ TG, r.OkG ν Tryd.prog gl9) (hTM : ∀ r ∈ TM, r.Ok ν Tryd.prog gl9) (h : saysB F tree T gl9 TG TM need n d 8 f args (.b true) = true) (hneed : ∀ p ∈ need, p.1 < n ∧ p.2.elem ≠ mapTag ∧ ∃ us, ∀ ν, concL ν p.2.cells = some us) (hin : args.all (inB need) = true) : RowM.Ok ν Tryd.prog gl9 ⟨f, args, need, [.v (.b true)]⟩ :=
  rowM_of (res := [.b true]) (us := [.bool true]) hF mixed tab_ok gl9_ok hT hTG hTM h hn (fun p hp => ⟨(hneed p hp).1, (hneed p hp).2.1, let ⟨us, hu⟩ := (hneed p hp).2.2; ⟨us, hu ν⟩⟩) hin rfl rfl
def at1' (b : Nat) (pl : Option Pl) : Nat → Option Pl := fun x => if x = b then pl else none
theorem pn_need : ∀ p ∈ [pn 64 2], p.1 < 65 ∧ p.2.elem ≠ mapTag ∧ ∃ us, ∀ ν, concL ν p.2.cells = some us := fun p hp => by
  simp only [List.mem_cons, List.not_mem_nil, or_false] at hp
  subst hp
  exact ⟨by decide, Nat.ne_of_gt (tgT (by decide) (by decide)).1, [], fun _ => rfl⟩
theorem cells32 : Tryd.prog.cellsOf 22 = 32 := by kernel_rfl
theorem open_num {H : Type} {enc : TypeId × Value → H} {w : World} {r : Reach} {b0 base : Nat} {sp : Nat → Bool} {held : Bool} {v : Value} {d : DataW H} {ps : List MemPlace} (hval : Value.okWide Tryd.prog w r b0 22 v) (hd : DataW.Trod enc Tryd.prog w base sp held 22 v d ps) :
    ∃ x, x < B4 ∧ v = byt x ∧ ps = [] ∧ Plain Tryd.prog 22 v d := by
  obtain ⟨zs, h1, h2, h3, h4, h5⟩ := open_array Tryd.underlying22 Tryd.underlying5 cells1 cells32 hval hd
  obtain ⟨x, hx, he⟩ := bytes_num zs h1 h3
  exact ⟨x, hx, h2.trans he, h4, h5⟩
theorem gl0_need {s : Hd} {blk n : Nat} (h : blk < n) : ∀ p ∈ s.gl0 blk, p.1 < n ∧ p.2.elem ≠ mapTag ∧ ∃ us, ∀ ν, concL ν p.2.cells = some us := fun p hp => by
  cases s
  · cases hp
  · cases hp
  · simp only [Hd.gl0, List.mem_cons, List.not_mem_nil, or_false] at hp
    subst hp
    exact ⟨h, show (0 : Nat) ≠ mapTag by decide, [], fun _ => rfl⟩
/-! SignTwice -/
def twF : Facts := ⟨[], [mxF 2 500, mxF 2 65536, mxF 4 65536, gtF 2, gtF 4, ltF 2, ltF 4, ltF 6, ltF 8, ltF 10, ltF 12, eqF 4, eqF 6, eqF 8, eqF 10, eqF 12], [catR 2 6, catK 2 8, catR 4 10, catK 4 12]⟩
def twM : List RowM := [rowSeed 68, sg1 78 6, sg2 89 8, rowTw (tg 4) (ps 64 2) [pn 64 2], rowSeed 100, sg1 110 10, sg2 121 12, rowSeed 133]
def twE : List RowM := [rowSeed 67, sg1E 76, sg2E 86, rowSeed 96, sg1E 105, sg2E 115, rowSeed 127]
def twG : List Row := sgG ++ (okT ++ [rowWk9])
theorem sw_go : saysB twF tree sgT gl9 twG twM [pn 64 2] 65 300 8 7 [rw8 0, ps 64 2] (.b true) = true := by kernel_rfl
theorem sw_goE1 : saysB noFacts tree sgT gl9 twG twE [] 64 300 8 7 [rw8 0, .nsl] (.b true) = true := by kernel_rfl
theorem sw_goE2 : saysB noFacts tree sgT gl9 twG twE [] 64 300 8 7 [rw8 0, .sle false] (.b true) = true := by kernel_rfl
theorem sw_over : saysB ⟨[], [(.gtr, .s 9000, nA 500, true)], []⟩ tree [] gl9 [] [] (Hd.gl0 64 .c) 65 300 8 7 [rw8 0, Hd.av0 64 9000 .c] (.b true) = true := by kernel_rfl
end Go.Proofs.YtheidgcgdkmmiaaDoor
