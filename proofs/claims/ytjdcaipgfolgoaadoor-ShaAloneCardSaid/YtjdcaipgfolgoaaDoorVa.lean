/-
  trystref01.padded: its runs. Own work.
-/
import Derived.Test.YtjdcaipgfolgoaaDoorUa
namespace Go.Proofs.YtjdcaipgfolgoaaDoor
open Go.Sh
open Go.ChangeShapes Go.WideShapes Go.RowKit
set_option maxRecDepth 100000

/-- So many noughts behind a rest. -/
def gapQ (r : Nat) : Nat := (128 - (r + 17) % 128) % 128
def fPQ (r : Nat) : Facts := ⟨[], [(.gtr, lnT, .c 0, true), (.lss, lnT, .c 1099511627776, true), (.eql, atT, lnT, true)] ++
  (List.range (gapQ r + 1)).map (fun k => (.neq, .e .rem .i64 (.e .add .i64 (lenE atT (k + 1)) (nA 16)) (nA 128), nA 0, Nat.blt k (gapQ r))), [(0, [], T0, T0)]⟩
def pdAQ (r j : Nat) : AI := if Nat.beq j 0 then nA 128 else if Nat.ble j (gapQ r + 8) then .c 0 else .w .u8 (.e .shr .u64 n8A (nA (8 * (16 + gapQ r - j))))
def pgNQ (r : Nat) : Nat := 67 + 2 * gapQ r + 32
def pg0Q (x : AV) (H : List (Nat × ABlk)) : Now := ⟨[(0, x), (1, iN 128), (2, iN 16)], H, 65⟩
def pg1Q (r : Nat) : Now := ⟨[(6, slE (pgNQ r) T0 (17 + gapQ r))], [(pgNQ r, ⟨rowC .u8 (pdAQ r) (17 + gapQ r), T0 + mapTag, true⟩)], pgNQ r + 1⟩
noncomputable def pgGoQ (r : Nat) : Bool := goesX (fPQ r) tree [] [] [] [] [] 300 4 pgp (pg0Q slP0 [txP]) .ret (pg1Q r)
theorem pg_go0Q : (List.range 16).all (fun r => pgGoQ (0 + r)) = true := by kernel_rfl
theorem pg_go1Q : (List.range 16).all (fun r => pgGoQ (16 + r)) = true := by kernel_rfl
theorem pg_go2Q : (List.range 16).all (fun r => pgGoQ (32 + r)) = true := by kernel_rfl
theorem pg_go3Q : (List.range 16).all (fun r => pgGoQ (48 + r)) = true := by kernel_rfl
theorem pg_go4Q : (List.range 16).all (fun r => pgGoQ (64 + r)) = true := by kernel_rfl
theorem pg_go5Q : (List.range 16).all (fun r => pgGoQ (80 + r)) = true := by kernel_rfl
theorem pg_go6Q : (List.range 16).all (fun r => pgGoQ (96 + r)) = true := by kernel_rfl
theorem pg_go7Q : (List.range 16).all (fun r => pgGoQ (112 + r)) = true := by kernel_rfl
/-! of nothing -/
def nopAQ (j : Nat) : AI := if Nat.beq j 0 then nA 128 else .c 0
def pg2Q : Now := ⟨[(6, .sl 320 0 (nA 128) (.own 1))], [(320, ⟨rowC .u8 nopAQ 128, 5, true⟩)], 321⟩
noncomputable def pgNoQ (x : AV) : Bool := goesX noFacts tree [] [] [] [] [] 300 4 pgp (pg0Q x []) .ret pg2Q
theorem pgNo_nslQ : pgNoQ .nsl = true := by kernel_rfl
theorem pgNo_sleQ : pgNoQ (.sle false) = true := by kernel_rfl
end Go.Proofs.YtjdcaipgfolgoaaDoor
