/-
  The page's Tag: its runs. Own work.
-/
import Derived.Test.YtbdihdncnpajgaaPoj
namespace Go.Proofs.Ytbdihdncnpajgaa
open Go.Sh
open Go.ChangeShapes Go.WideShapes Go.ChangeAt Go.RowKit
set_option maxRecDepth 100000

def rpA (b : Nat) (j : Nat) : AI := if Nat.blt j 16 then (if Nat.blt b 1 then cA .u32 (.s j) else if Nat.beq (j % 4) 3 then eA .and .u32 (cA .u32 (.s j)) (nA 15) else if Nat.blt b 2 then cA .u32 (.s j) else if Nat.beq (j % 4) 0 && Nat.blt 0 j then eA .and .u32 (cA .u32 (.s j)) (nA 252) else cA .u32 (.s j)) else .c 0
def rkA (j : Nat) : AI := if Nat.blt j 16 then .s (100 + j) else .c 0
def gaA (w j : Nat) : AI := if Nat.blt j w then eA .add .u32 (.s (1000 + j)) (cA .u32 (.s (400 + j))) else if Nat.beq j w then eA .add .u32 (.s (1000 + j)) (nA 1) else .s (1000 + j)
/-- So many rows of the product. -/
def pdA : Nat → Nat → AI
  | 0, _ => .c 0
  | i + 1, m => if Nat.ble i m && Nat.blt m (i + 16) then eA .add .u32 (pdA i m) (eA .mul .u32 (.s (1100 + i)) (.s (100 + (m - i)))) else pdA i m
def ogA (i : Nat) : AI := eA .add .u32 (.s (1000 + i)) (cA .u32 (.s (16 + i)))
def outA (i : Nat) : AI := cA .u8 (chA (.c 0) ogA i)
def pg : IC := t9.body
def pg1 : IC := pg.sub [false]
def pg2 : IC := pg.sub [true, false]
def pg3 : IC := pg.sub [true, true, false]
def pg4 : IC := pg.sub [true, true, true, false]
def pg5 : IC := pg.sub [true, true, true, true, false]
def pgD : IC := pg.sub [true, true, true, true, true, false, false]
def pgR : IC := pg.sub [true, true, true, true, true, false, true, false, false]
def pgE : IC := pg.sub [true, true, true, true, true, true]
theorem pg_shape : t9 = ⟨.seq pg1 (.seq pg2 (.seq pg3 (.seq pg4 (.seq pg5 (.seq (.seq pgD (.block 6 (.loop pgR))) pgE))))), [.c 4 (some 16)], 128⟩ := by kernel_rfl
def pgo (l : List (Nat × AV)) (b : Nat) : Now := ⟨tpS (l ++ [(5, .p 67 0), (6, .p 68 0)]), tpB [m64 67 (if Nat.beq b 0 then zeroA else rpA (b - 1)), m64 68 zeroA], 69⟩
theorem pg_go1 : goesX noFacts tree [] [] [] [] [] 300 4 pg1 to0 .normal to1 = true := by kernel_rfl
theorem pg_go2 : goesX noFacts tree [] [] [] [] [] 300 4 pg2 to1 .normal (pgo [] 0) = true := by kernel_rfl
theorem pg_go3 : goesX noFacts tree [] [] [] [] [] 300 4 pg3 (pgo [] 0) .normal (pgo [] 1) = true := by kernel_rfl
theorem pg_go4 : goesX noFacts tree [] [] [] [] [] 300 4 pg4 (pgo [] 1) .normal (pgo [] 2) = true := by kernel_rfl
theorem pg_go5 : goesX noFacts tree [] [] [] [] [] 300 4 pg5 (pgo [] 2) .normal (pgo [] 3) = true := by kernel_rfl
theorem pg_goD : goesX noFacts tree [] [] [] [] [] 300 4 pgD (pgo [] 3) .normal (pgo [(10, iN 0)] 3) = true := by kernel_rfl
def pgN (w : Nat) (kk : AI) (g : Nat → AI) (it : AI) (n : Nat) : Now := ⟨[(1, .slw 64 1 kk w (.s 301) .any), (2, .p 65 0), (4, .p 66 0), (5, .p 67 0), (6, .p 68 0), (10, .i .i64 it)], [wT 64 2 400 w false, bxK, bxT zeroA, m64 67 rkA, m64 68 g], n⟩
def pgI (w : Nat) (kk : AI) : Now := pgN w kk (nmA 1000) (.s 302) 69
def pgM (w : Nat) : Now := pgN w (.s 302) (nmA 1200) (.e .add .i64 (.s 302) (nA 16)) 70
/-- w = 17: sixteen, and there is more. -/
def fPg (w : Nat) : Facts := if Nat.blt w 17 then ⟨[(rsA, (w : Int))], [(.lss, .s 302, .s 301, true)], []⟩ else ⟨[], [(.lss, .s 302, .s 301, true), (.lss, nA 16, rsA, true)], []⟩
def w16 (w : Nat) : Nat := if Nat.blt w 17 then w else 16
def rowsPg (w : Nat) : List Row := [⟨16, [.ag (rowC .u32 (gaA (w16 w)) 64)], .ag (rowC .u32 (nmA 1100) 64)⟩, ⟨16, [.ag (rowC .u32 (pdA 17) 64)], .ag (rowC .u32 (nmA 1200) 64)⟩]
noncomputable def pgGo (w : Nat) : Bool := goesX (fPg w) tree (rowsPg w) [] [] [] [] 300 4 pgR (pgI (w16 w) (.s 302)) .normal (pgM (w16 w))
theorem pg_goX : goesX ⟨[], [(.lss, .s 302, .s 301, false)], []⟩ tree [] [] [] [] [] 60 4 pgR (pgI 0 (.s 305)) (.exit 6) (pgI 0 (.s 305)) = true := by kernel_rfl
def pgZ : Now := ⟨[(4, .p 66 0)], [bxT outA], 70⟩
theorem pg_goE : goesX noFacts tree [] [] [] [] [] 60 4 pgE (pgI 0 (.s 305)) .ret pgZ = true := by kernel_rfl
theorem pg_res : resA (trL pgZ.e) (heapL (pgZ.H ++ []) pgZ.n) [.c 4 (some 16)] = some (.ag (rowC .u8 outA 16)) := by kernel_rfl
end Go.Proofs.Ytbdihdncnpajgaa
