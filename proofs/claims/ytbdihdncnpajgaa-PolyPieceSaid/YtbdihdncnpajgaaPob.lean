/-
  poly.Tag: its runs. Own work.
-/
import Derived.Test.YtbdihdncnpajgaaPoa
namespace Go.Proofs.Ytbdihdncnpajgaa
open Go.Sh
open Go.ChangeShapes Go.WideShapes Go.ChangeAt Go.RowKit
set_option maxRecDepth 100000

def e32 : Nat := 22
def e16 : Nat := 25
def kyS : AV := .ag (rowC .u8 (nmA 0) 32)
def pn (b t : Nat) : Nat × ABlk := (b, ⟨[], tg t, false⟩)
def ps (b t : Nat) : AV := .sl b 0 (.s (pinL (tg t))) .any
def wT (b t x wd : Nat) (o : Bool) : Nat × ABlk := (b, ⟨rowC .u8 (nmA x) wd, wg t, o⟩)
def wS (b wd : Nat) (c : Cap) : AV := .slw b 1 (.s 302) wd (.s 301) c
/-- What a row of bytes adds. -/
def addA (h b : Nat → AI) (m k : Nat) : AI := (List.range m).foldl (fun acc i => if Nat.beq (8 * i / 26) k then eA .add .u64 acc (eA .shl .u64 (cA .u64 (b i)) (nA (8 * i % 26))) else acc) (h k)
def mulA (h r : Nat → AI) (k : Nat) : AI := (List.range 25).foldl (fun acc q => if Nat.blt (q / 5 + q % 5) 5 then (if Nat.beq (q / 5 + q % 5) k then eA .add .u64 acc (eA .mul .u64 (h (q / 5)) (r (q % 5))) else acc)
  else (if Nat.beq (q / 5 + q % 5) (k + 5) then eA .add .u64 acc (eA .mul .u64 (eA .mul .u64 (nA 5) (h (q / 5))) (r (q % 5))) else acc)) (.c 0)
/-- Five more. -/
def ovL (g : Nat → AI) : L5 AI :=
  let o0 := eA .add .u64 (g 0) (nA 5)
  let o1 := eA .add .u64 (g 1) (eA .shr .u64 o0 (nA 26))
  let o2 := eA .add .u64 (g 2) (eA .shr .u64 o1 (nA 26))
  let o3 := eA .add .u64 (g 3) (eA .shr .u64 o2 (nA 26))
  let o4 := eA .add .u64 (g 4) (eA .shr .u64 o3 (nA 26))
  ⟨eA .and .u64 o0 (nA 67108863), eA .and .u64 o1 (nA 67108863), eA .and .u64 o2 (nA 67108863), eA .and .u64 o3 (nA 67108863), o4⟩
def leA (b : Bool) (g : Nat → AI) (j : Nat) : AI := if b then (if Nat.beq j 4 then eA .and .u64 (ovL g).e (nA 67108863) else (ovL g).at j) else g j
def ccA (a : Nat → AI) (i : Nat) : AI :=
  let c := eA .shr .u64 (a (8 * i / 26)) (nA (8 * i % 26))
  if Nat.blt 18 (8 * i % 26) && Nat.blt (8 * i / 26) 4 then eA .or .u64 c (eA .shl .u64 (a (8 * i / 26 + 1)) (nA (26 - 8 * i % 26))) else c
def tmA (a : Nat → AI) (i : Nat) : AI := eA .add .u64 (eA .and .u64 (ccA a i) (nA 255)) (cA .u64 (.s (16 + i)))
def crA (a : Nat → AI) : Nat → AI
  | 0 => eA .add .u64 (.c 0) (tmA a 0)
  | i + 1 => eA .add .u64 (eA .shr .u64 (crA a i) (nA 8)) (tmA a (i + 1))
def tgA (a : Nat → AI) (i : Nat) : AI := cA .u8 (crA a i)
def hfA (b : Nat) (j : Nat) : AI := if Nat.blt b 1 then .s j else if Nat.beq (j % 4) 3 then eA .and .u8 (.s j) (nA 15) else if Nat.blt b 2 then .s j else if Nat.beq (j % 4) 0 && Nat.blt 0 j then eA .and .u8 (.s j) (nA 252) else .s j
/-! the pieces -/
def tp : IC := t8.body
def tp1 : IC := tp.sub [false]
def tp2 : IC := tp.sub [true, false]
def tp3 : IC := tp.sub [true, true, false]
def tp4 : IC := tp.sub [true, true, true, false]
def tp5 : IC := tp.sub [true, true, true, true, false]
def tp6 : IC := tp.sub [true, true, true, true, true, false]
def tpD : IC := tp.sub [true, true, true, true, true, true, false, false]
def tpR : IC := tp.sub [true, true, true, true, true, true, false, true, false, false]
def tpE : IC := tp.sub [true, true, true, true, true, true, true]
theorem tp_shape : t8 = ⟨.seq tp1 (.seq tp2 (.seq tp3 (.seq tp4 (.seq tp5 (.seq tp6 (.seq (.seq tpD (.block 4 (.loop tpR))) tpE)))))), [.c 4 (some 16)], 56⟩ := by kernel_rfl
def bxK : Nat × ABlk := (65, ⟨rowC .u8 (nmA 0) 32, e32, true⟩)
def bxT (g : Nat → AI) : Nat × ABlk := (66, ⟨rowC .u8 g 16, e16, true⟩)
def bxH (b : Nat) : Nat × ABlk := (67, ⟨rowC .u8 (hfA b) 16, e16, true⟩)
def bx5 (b : Nat) (g : Nat → AI) : Nat × ABlk := (b, ⟨rowC .u64 g 5, e5, true⟩)
def tpS (l : List (Nat × AV)) : List (Nat × AV) := l ++ [(1, ps 64 2), (2, .p 65 0), (4, .p 66 0)]
def tpB (l : List (Nat × ABlk)) : List (Nat × ABlk) := l ++ [pn 64 2, bxK, bxT zeroA]
def to0 : Now := ⟨[(0, kyS), (1, ps 64 2)], [pn 64 2], 65⟩
def to1 : Now := ⟨tpS [], tpB [], 67⟩
def to2 (b : Nat) : Now := ⟨tpS [(5, .p 67 0)], tpB [bxH b], 68⟩
def to5 : Now := ⟨tpS [(5, .p 67 0), (8, .p 68 0), (9, .p 69 0)], tpB [bxH 2, bx5 68 zeroA, bx5 69 zeroA], 70⟩
def to6 (l : List (Nat × AV)) : Now := ⟨tpS (l ++ [(8, .p 68 0), (9, .p 69 0)]), tpB [bx5 68 (nmA 100), bx5 69 zeroA], 70⟩
theorem tp_go1 : goesX noFacts tree [] [] [] [] [] 60 4 tp1 to0 .normal to1 = true := by kernel_rfl
theorem tp_go2 : goesX noFacts tree [] [] [] [] [] 60 4 tp2 to1 .normal (to2 0) = true := by kernel_rfl
theorem tp_go3 : goesX noFacts tree [] [] [] [] [] 60 4 tp3 (to2 0) .normal (to2 1) = true := by kernel_rfl
theorem tp_go4 : goesX noFacts tree [] [] [] [] [] 60 4 tp4 (to2 1) .normal (to2 2) = true := by kernel_rfl
theorem tp_go5 : goesX noFacts tree [] [] [] [] [] 60 4 tp5 (to2 2) .normal to5 = true := by kernel_rfl
theorem tp_go6 : goesX noFacts tree [] [] [] [] [rowSt 68 (addA zeroA (hfA 2) 16) (nmA 100)] 60 4 tp6 to5 .normal (to6 []) = true := by kernel_rfl
theorem tp_goD : goesX noFacts tree [] [] [] [] [] 60 4 tpD (to6 []) .normal (to6 [(10, iN 0)]) = true := by kernel_rfl
/-! the rounds -/
/-- A piece: so many bytes, and a byte 1 behind them. -/
def pcA (w : Nat) (j : Nat) : AI := if Nat.blt j w then .s (400 + j) else if Nat.beq j w then nA 1 else nA 0
def tpN (w : Nat) (kk : AI) (l : List (Nat × AV)) (g : Nat → AI) (it : AI) (n : Nat) : Now := ⟨l ++ [(1, .slw 64 1 kk w (.s 301) .any), (2, .p 65 0), (4, .p 66 0), (8, .p 68 0), (9, .p 69 0), (10, .i .i64 it)], [wT 64 2 400 w false, bxK, bxT zeroA, bx5 68 (nmA 100), bx5 69 g], n⟩
def tpI (w : Nat) (kk : AI) : Now := tpN w kk [] (nmA 110) (.s 302) 70
def tpM (w : Nat) : Now := tpN w (.s 302) [] (nmA 130) (.e .add .i64 (.s 302) (nA 16)) 72
def rsA : AI := .e .sub .i64 (.s 301) (.s 302)
def fTp (w : Nat) : Facts := if Nat.blt w 16 then ⟨[(rsA, (w : Int))], [(.lss, .s 302, .s 301, true)], []⟩ else ⟨[], [(.lss, .s 302, .s 301, true), (.lss, .s 301, .c 1099511627776, true), (.geq, rsA, nA 16, true)], []⟩
def rowsTp (w : Nat) : List RowU := [rowSt 69 (addA (nmA 110) (pcA w) 17) (nmA 120), rowSt 71 (mulA (nmA 120) (nmA 100)) (nmA 130)]
noncomputable def tpGo (w : Nat) : Bool := goesX (fTp w) tree [] [] [] [] (rowsTp w) 60 4 tpR (tpI w (.s 302)) .normal (tpM w)
theorem tp_goRe : goesX ⟨[], [(.lss, .s 302, .s 301, false)], []⟩ tree [] [] [] [] [] 60 4 tpR (tpI 0 (.s 305)) (.exit 4) (tpI 0 (.s 305)) = true := by kernel_rfl
def tpZ (b : Bool) : Now := ⟨[(4, .p 66 0)], [bxT (tgA (leA b (nmA 140)))], 75⟩
def fTe (b : Bool) : Facts := ⟨[], [(.gtr, (ovL (nmA 140)).e, nA 67108863, b)], []⟩
noncomputable def tpEnd (b : Bool) : Bool := goesX (fTe b) tree [] [] [] [] [rowSt 69 (nmA 110) (nmA 140)] 60 4 tpE (tpI 0 (.s 305)) .ret (tpZ b)
end Go.Proofs.Ytbdihdncnpajgaa
