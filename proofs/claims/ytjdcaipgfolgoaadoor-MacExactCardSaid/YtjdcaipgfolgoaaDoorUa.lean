/-
  trystref01.padded: its runs. Own work.
-/
import Derived.Test.YtjdcaipgfolgoaaDoorSg
namespace Go.Proofs.YtjdcaipgfolgoaaDoor
open Go.Sh
open Go.ChangeShapes Go.WideShapes Go.RowKit
set_option maxRecDepth 100000

/-- The text's row. -/
def T0 : Nat := mapTag + 2
def txP : Nat × ABlk := (64, ⟨[], T0, false⟩)
def lnT : AI := .s (pinL T0)
def atT : AI := .s (pinA T0)
def slP0 : AV := .sl 64 0 lnT .any
def pgp : IC := t30.body
theorem pgp_shape : t30 = ⟨pgp, [.t 6], 50⟩ := by kernel_rfl
/-- So many noughts behind a rest. -/
def gap (r : Nat) : Nat := (64 - (r + 9) % 64) % 64
def fP (r : Nat) : Facts := ⟨[], [(.gtr, lnT, .c 0, true), (.lss, lnT, .c 1099511627776, true), (.eql, atT, lnT, true)] ++
  (List.range (gap r + 1)).map (fun k => (.neq, .e .rem .i64 (.e .add .i64 (lenE atT (k + 1)) (nA 8)) (nA 64), nA 0, Nat.blt k (gap r))), [(0, [], T0, T0)]⟩
def n8A : AI := .e .mul .u64 (.w .u64 lnT) (nA 8)
def pdA (r j : Nat) : AI := if Nat.beq j 0 then nA 128 else if Nat.ble j (gap r) then .c 0 else .w .u8 (.e .shr .u64 n8A (nA (8 * (8 + gap r - j))))
def pgN (r : Nat) : Nat := 67 + 2 * gap r + 16
def pg0 (x : AV) (H : List (Nat × ABlk)) : Now := ⟨[(0, x), (1, iN 64), (2, iN 8)], H, 65⟩
def pg1 (r : Nat) : Now := ⟨[(6, slE (pgN r) T0 (9 + gap r))], [(pgN r, ⟨rowC .u8 (pdA r) (9 + gap r), T0 + mapTag, true⟩)], pgN r + 1⟩
noncomputable def pgGo (r : Nat) : Bool := goesX (fP r) tree [] [] [] [] [] 300 4 pgp (pg0 slP0 [txP]) .ret (pg1 r)
theorem pg_go0 : (List.range 16).all (fun r => pgGo (0 + r)) = true := by kernel_rfl
theorem pg_go1 : (List.range 16).all (fun r => pgGo (16 + r)) = true := by kernel_rfl
theorem pg_go2 : (List.range 16).all (fun r => pgGo (32 + r)) = true := by kernel_rfl
theorem pg_go3 : (List.range 16).all (fun r => pgGo (48 + r)) = true := by kernel_rfl
/-! of nothing -/
def nopA (j : Nat) : AI := if Nat.beq j 0 then nA 128 else .c 0
def pg2 : Now := ⟨[(6, .sl 192 0 (nA 64) (.own 1))], [(192, ⟨rowC .u8 nopA 64, 5, true⟩)], 193⟩
noncomputable def pgNo (x : AV) : Bool := goesX noFacts tree [] [] [] [] [] 300 4 pgp (pg0 x []) .ret pg2
theorem pgNo_nsl : pgNo .nsl = true := by kernel_rfl
theorem pgNo_sle : pgNo (.sle false) = true := by kernel_rfl
end Go.Proofs.YtjdcaipgfolgoaaDoor
