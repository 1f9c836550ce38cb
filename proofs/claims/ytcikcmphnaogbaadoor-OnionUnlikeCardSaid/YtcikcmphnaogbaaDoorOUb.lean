/-
  OnionUnlike: the law, run for each case of its numbers: more of them. Own work.
-/
import Derived.Test.YtcikcmphnaogbaaDoorOUa
namespace Go.Proofs.YtcikcmphnaogbaaDoor
open Go.Sh
set_option maxRecDepth 100000
theorem lawU_c1c1e : lawU (iC 1) (iC 1) (iS 2) = true := by kernel_rfl
theorem lawU_c1c3e : lawU (iC 1) (iC 3) (iS 2) = true := by kernel_rfl
theorem lawU_c2c1e : lawU (iC 2) (iC 1) (iS 2) = true := by kernel_rfl
theorem lawU_c2c3e : lawU (iC 2) (iC 3) (iS 2) = true := by kernel_rfl
theorem lawU_c3c1e : lawU (iC 3) (iC 1) (iS 2) = true := by kernel_rfl
theorem lawU_c3c3e : lawU (iC 3) (iC 3) (iS 2) = true := by kernel_rfl
theorem lawU_s0c1e : lawU (iS 0) (iC 1) (iS 2) = true := by kernel_rfl
theorem lawU_s0c3e : lawU (iS 0) (iC 3) (iS 2) = true := by kernel_rfl
theorem lawU_s0s0e : lawU (iS 0) (iS 0) (iS 2) = true := by kernel_rfl
end Go.Proofs.YtcikcmphnaogbaaDoor
