/-
  MacKeys: its rounds, evaluated. Own work.
-/
import Derived.Test.YtjdcaipgfolgoaaDoorYa
namespace Go.Proofs.YtjdcaipgfolgoaaDoor
open Go.Sh
open Go.ChangeShapes Go.WideShapes Go.ChangeAt Go.RowKit
set_option maxRecDepth 100000

theorem ky_ba0 : kyF .b .a 0 = true := by kernel_rfl
theorem ky_ba1 : kyF .b .a 1 = true := by kernel_rfl
theorem ky_ba2 : kyF .b .a 2 = true := by kernel_rfl
theorem ky_ba3 : kyF .b .a 3 = true := by kernel_rfl
theorem ky_ba4 : kyF .b .a 4 = true := by kernel_rfl
theorem ky_ba5 : kyF .b .a 5 = true := by kernel_rfl
theorem ky_ba6 : kyF .b .a 6 = true := by kernel_rfl
theorem ky_ba7 : kyF .b .a 7 = true := by kernel_rfl
theorem ky_ba8 : kyF .b .a 8 = true := by kernel_rfl
theorem ky_ba9 : kyF .b .a 9 = true := by kernel_rfl
theorem ky_ba10 : kyF .b .a 10 = true := by kernel_rfl
theorem ky_ba11 : kyF .b .a 11 = true := by kernel_rfl
theorem ky_ba12 : kyF .b .a 12 = true := by kernel_rfl
theorem ky_ba13 : kyF .b .a 13 = true := by kernel_rfl
theorem ky_ba14 : kyF .b .a 14 = true := by kernel_rfl
theorem ky_ba15 : kyF .b .a 15 = true := by kernel_rfl
theorem ky_ba16 : kyF .b .a 16 = true := by kernel_rfl
theorem ky_ba : ∀ i, i < 17 → kyF .b .a i = true
  | 0, _ => ky_ba0
  | 1, _ => ky_ba1
  | 2, _ => ky_ba2
  | 3, _ => ky_ba3
  | 4, _ => ky_ba4
  | 5, _ => ky_ba5
  | 6, _ => ky_ba6
  | 7, _ => ky_ba7
  | 8, _ => ky_ba8
  | 9, _ => ky_ba9
  | 10, _ => ky_ba10
  | 11, _ => ky_ba11
  | 12, _ => ky_ba12
  | 13, _ => ky_ba13
  | 14, _ => ky_ba14
  | 15, _ => ky_ba15
  | 16, _ => ky_ba16
  | n + 17, h => absurd h (by omega)
theorem ky_bb0 : kyF .b .b 0 = true := by kernel_rfl
theorem ky_bb1 : kyF .b .b 1 = true := by kernel_rfl
theorem ky_bb2 : kyF .b .b 2 = true := by kernel_rfl
theorem ky_bb3 : kyF .b .b 3 = true := by kernel_rfl
theorem ky_bb4 : kyF .b .b 4 = true := by kernel_rfl
theorem ky_bb5 : kyF .b .b 5 = true := by kernel_rfl
theorem ky_bb6 : kyF .b .b 6 = true := by kernel_rfl
theorem ky_bb7 : kyF .b .b 7 = true := by kernel_rfl
theorem ky_bb8 : kyF .b .b 8 = true := by kernel_rfl
theorem ky_bb9 : kyF .b .b 9 = true := by kernel_rfl
theorem ky_bb10 : kyF .b .b 10 = true := by kernel_rfl
theorem ky_bb11 : kyF .b .b 11 = true := by kernel_rfl
theorem ky_bb12 : kyF .b .b 12 = true := by kernel_rfl
theorem ky_bb13 : kyF .b .b 13 = true := by kernel_rfl
theorem ky_bb14 : kyF .b .b 14 = true := by kernel_rfl
theorem ky_bb15 : kyF .b .b 15 = true := by kernel_rfl
theorem ky_bb16 : kyF .b .b 16 = true := by kernel_rfl
theorem ky_bb : ∀ i, i < 17 → kyF .b .b i = true
  | 0, _ => ky_bb0
  | 1, _ => ky_bb1
  | 2, _ => ky_bb2
  | 3, _ => ky_bb3
  | 4, _ => ky_bb4
  | 5, _ => ky_bb5
  | 6, _ => ky_bb6
  | 7, _ => ky_bb7
  | 8, _ => ky_bb8
  | 9, _ => ky_bb9
  | 10, _ => ky_bb10
  | 11, _ => ky_bb11
  | 12, _ => ky_bb12
  | 13, _ => ky_bb13
  | 14, _ => ky_bb14
  | 15, _ => ky_bb15
  | 16, _ => ky_bb16
  | n + 17, h => absurd h (by omega)
theorem ky_bc0 : kyF .b .c 0 = true := by kernel_rfl
theorem ky_bc1 : kyF .b .c 1 = true := by kernel_rfl
theorem ky_bc2 : kyF .b .c 2 = true := by kernel_rfl
theorem ky_bc3 : kyF .b .c 3 = true := by kernel_rfl
theorem ky_bc4 : kyF .b .c 4 = true := by kernel_rfl
theorem ky_bc5 : kyF .b .c 5 = true := by kernel_rfl
theorem ky_bc6 : kyF .b .c 6 = true := by kernel_rfl
theorem ky_bc7 : kyF .b .c 7 = true := by kernel_rfl
theorem ky_bc8 : kyF .b .c 8 = true := by kernel_rfl
theorem ky_bc9 : kyF .b .c 9 = true := by kernel_rfl
theorem ky_bc10 : kyF .b .c 10 = true := by kernel_rfl
theorem ky_bc11 : kyF .b .c 11 = true := by kernel_rfl
theorem ky_bc12 : kyF .b .c 12 = true := by kernel_rfl
theorem ky_bc13 : kyF .b .c 13 = true := by kernel_rfl
theorem ky_bc14 : kyF .b .c 14 = true := by kernel_rfl
theorem ky_bc15 : kyF .b .c 15 = true := by kernel_rfl
theorem ky_bc16 : kyF .b .c 16 = true := by kernel_rfl
theorem ky_bc : ∀ i, i < 17 → kyF .b .c i = true
  | 0, _ => ky_bc0
  | 1, _ => ky_bc1
  | 2, _ => ky_bc2
  | 3, _ => ky_bc3
  | 4, _ => ky_bc4
  | 5, _ => ky_bc5
  | 6, _ => ky_bc6
  | 7, _ => ky_bc7
  | 8, _ => ky_bc8
  | 9, _ => ky_bc9
  | 10, _ => ky_bc10
  | 11, _ => ky_bc11
  | 12, _ => ky_bc12
  | 13, _ => ky_bc13
  | 14, _ => ky_bc14
  | 15, _ => ky_bc15
  | 16, _ => ky_bc16
  | n + 17, h => absurd h (by omega)
end Go.Proofs.YtjdcaipgfolgoaaDoor
