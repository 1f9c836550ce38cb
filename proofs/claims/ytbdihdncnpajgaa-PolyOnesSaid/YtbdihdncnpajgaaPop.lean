/-
  PolyOnes: its runs. Own work.
-/
import Derived.Test.YtbdihdncnpajgaaPoq
namespace Go.Proofs.Ytbdihdncnpajgaa
open Go.Sh
open Go.ChangeShapes Go.WideShapes Go.ChangeAt Go.RowKit
set_option maxRecDepth 100000

def giA (w j : Nat) : AI := if Nat.blt j w then eA .add .i64 (.s (1000 + j)) (cA .i64 (.s (400 + j))) else if Nat.beq j w then eA .add .i64 (.s (1000 + j)) (nA 1) else .s (1000 + j)
def koA (j : Nat) : AI := if Nat.beq j 0 then nA 1 else if Nat.blt j 16 then .c 0 else .s (j - 16)
def e20 : Nat := 33
def s16 : AV := .ag (rowC .u8 (nmA 0) 16)
def on : IC := t5.body
def on1 : IC := on.sub [false]
def on2 : IC := on.sub [true, false]
def on3 : IC := on.sub [true, true, false]
def on4 : IC := on.sub [true, true, true, false]
def on5 : IC := on.sub [true, true, true, true, false]
def onD : IC := on.sub [true, true, true, true, true, false, false]
def onR : IC := on.sub [true, true, true, true, true, false, true, false, false]
def onE : IC := on.sub [true, true, true, true, true, true]
theorem on_shape : t5 = ⟨.seq on1 (.seq on2 (.seq on3 (.seq on4 (.seq on5 (.seq (.seq onD (.block 2 (.loop onR))) onE))))), [.t 4], 168⟩ := by kernel_rfl
def bS (b : Nat) : Nat × ABlk := (b, ⟨rowC .u8 (nmA 0) 16, e16, true⟩)
def bK (b : Nat) (g : Nat → AI) : Nat × ABlk := (b, ⟨rowC .u8 g 32, e32, true⟩)
def b20 (b : Nat) (g : Nat → AI) : Nat × ABlk := (b, ⟨rowC .i64 g 20, e20, true⟩)
def onS (l : List (Nat × AV)) : List (Nat × AV) := l ++ [(1, ps 64 2), (2, .p 65 0), (4, .b false)]
def onB (l : List (Nat × ABlk)) : List (Nat × ABlk) := l ++ [pn 64 2, bS 65]
def oo0 : Now := ⟨[(0, s16), (1, ps 64 2)], [pn 64 2], 65⟩
def oo1 : Now := ⟨onS [], onB [], 66⟩
def oneA (j : Nat) : AI := if Nat.beq j 0 then nA 1 else .c 0
def oo3 (g : Nat → AI) : Now := ⟨onS [(5, .p 66 0)], onB [bK 66 g], 67⟩
def oo5 (l : List (Nat × AV)) : Now := ⟨onS (l ++ [(5, .p 66 0), (7, .p 67 0)]), onB [bK 66 koA, b20 67 zeroA], 68⟩
def fOn : Facts := ⟨[], [(.gtr, .s (pinL (tg 2)), nA 1000, false)], []⟩
theorem on_go1 : goesX noFacts tree [] [] [] [] [] 300 4 on1 oo0 .normal oo1 = true := by kernel_rfl
theorem on_go2 : goesX fOn tree [] [] [] [] [] 300 4 on2 oo1 .normal oo1 = true := by kernel_rfl
theorem on_go3 : goesX noFacts tree [] [] [] [] [] 300 4 on3 oo1 .normal (oo3 oneA) = true := by kernel_rfl
theorem on_go4 : goesX noFacts tree [] [] [] [] [] 300 4 on4 (oo3 oneA) .normal (oo3 koA) = true := by kernel_rfl
theorem on_go5 : goesX noFacts tree [] [] [] [] [] 300 4 on5 (oo3 koA) .normal (oo5 []) = true := by kernel_rfl
theorem on_goD : goesX noFacts tree [] [] [] [] [] 300 4 onD (oo5 []) .normal (oo5 [(8, iN 0)]) = true := by kernel_rfl
def onN (w : Nat) (kk : AI) (g : Nat → AI) (it : AI) : Now := ⟨[(1, .slw 64 1 kk w (.s 301) .any), (2, .p 65 0), (4, .b false), (5, .p 66 0), (7, .p 67 0), (8, .i .i64 it)], [wT 64 2 400 w false, bS 65, bK 66 koA, b20 67 g], 68⟩
def onI (w : Nat) (kk : AI) : Now := onN w kk (nmA 1000) (.s 302)
def onM (w : Nat) : Now := onN w (.s 302) (prA 19 (prA 19 (giA w))) (.e .add .i64 (.s 302) (nA 16))
noncomputable def onGo (w : Nat) : Bool := goesX (fPg w) tree [] [] [] [] [] 300 4 onR (onI (w16 w) (.s 302)) .normal (onM (w16 w))
theorem on_goX : goesX ⟨[], [(.lss, .s 302, .s 301, false)], []⟩ tree [] [] [] [] [] 60 4 onR (onI 0 (.s 305)) (.exit 2) (onI 0 (.s 305)) = true := by kernel_rfl
/-! the end -/
def rowOe : RowM := rowTag 8 koA (.slw 64 1 (.s 305) 0 (.s 301) .any) [wT 64 2 400 0 false] (nmA 140)
def onZ : Now := ⟨[(4, .b true)], [], 70⟩
noncomputable def onEnd (b : Bool) : Bool := goesX ⟨[], fOe 19 (nmA 1000) b, []⟩ tree [rowWk] [] [] [rowOe] [] 300 4 onE (onI 0 (.s 305)) .ret onZ
theorem on_res : resA (trL onZ.e) (heapL (onZ.H ++ []) onZ.n) [.t 4] = some (.b true) := by kernel_rfl
theorem on_goEnd (b : Bool) : onEnd b = true := by cases b <;> kernel_rfl
theorem on_all : (List.range 17).all (fun r => onGo (r + 1)) = true := by kernel_rfl
theorem on_goW {w : Nat} (h0 : 0 < w) (h1 : w ≤ 17) : onGo w = true := by
  have := List.all_eq_true.1 on_all (w - 1) (List.mem_range.2 (by omega))
  rwa [show w - 1 + 1 = w by omega] at this
end Go.Proofs.Ytbdihdncnpajgaa
