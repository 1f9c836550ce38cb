/-
  OnionUnlike: the law, run for each case of its numbers: more of them. Own work.
-/
import Derived.Test.YtcikcmphnaogbaaDoorOUa
namespace Go.Proofs.YtcikcmphnaogbaaDoor
open Go.Sh
set_option maxRecDepth 100000
theorem lawU_c1c2d : lawU (iC 1) (iC 2) (iS 3) = true := by kernel_rfl
theorem lawU_c1s1d : lawU (iC 1) (iS 1) (iS 3) = true := by kernel_rfl
theorem lawU_c2c2d : lawU (iC 2) (iC 2) (iS 3) = true := by kernel_rfl
theorem lawU_c2s1d : lawU (iC 2) (iS 1) (iS 3) = true := by kernel_rfl
theorem lawU_c3c2d : lawU (iC 3) (iC 2) (iS 3) = true := by kernel_rfl
theorem lawU_c3s1d : lawU (iC 3) (iS 1) (iS 3) = true := by kernel_rfl
theorem lawU_s0c2d : lawU (iS 0) (iC 2) (iS 3) = true := by kernel_rfl
theorem lawU_s0s1d : lawU (iS 0) (iS 1) (iS 3) = true := by kernel_rfl
end Go.Proofs.YtcikcmphnaogbaaDoor
