/-
  OnionUnlike: the law, run for each case of its numbers: more of them. Own work.
-/
import Derived.Test.YtcikcmphnaogbaaDoorOUa
namespace Go.Proofs.YtcikcmphnaogbaaDoor
open Go.Sh
set_option maxRecDepth 100000
theorem lawU_c1c1d : lawU (iC 1) (iC 1) (iS 3) = true := by kernel_rfl
theorem lawU_c1c3d : lawU (iC 1) (iC 3) (iS 3) = true := by kernel_rfl
theorem lawU_c2c1d : lawU (iC 2) (iC 1) (iS 3) = true := by kernel_rfl
theorem lawU_c2c3d : lawU (iC 2) (iC 3) (iS 3) = true := by kernel_rfl
theorem lawU_c3c1d : lawU (iC 3) (iC 1) (iS 3) = true := by kernel_rfl
theorem lawU_c3c3d : lawU (iC 3) (iC 3) (iS 3) = true := by kernel_rfl
theorem lawU_s0c1d : lawU (iS 0) (iC 1) (iS 3) = true := by kernel_rfl
theorem lawU_s0c3d : lawU (iS 0) (iC 3) (iS 3) = true := by kernel_rfl
theorem lawU_s0s0d : lawU (iS 0) (iS 0) (iS 3) = true := by kernel_rfl
end Go.Proofs.YtcikcmphnaogbaaDoor
