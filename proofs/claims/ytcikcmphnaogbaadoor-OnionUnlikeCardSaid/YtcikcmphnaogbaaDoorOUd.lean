/-
  OnionUnlike: the law, run for each case of its numbers: more of them. Own work.
-/
import Derived.Test.YtcikcmphnaogbaaDoorOUa
namespace Go.Proofs.YtcikcmphnaogbaaDoor
open Go.Sh
set_option maxRecDepth 100000
theorem lawU_c1c2e : lawU (iC 1) (iC 2) (iS 2) = true := by kernel_rfl
theorem lawU_c1s1e : lawU (iC 1) (iS 1) (iS 2) = true := by kernel_rfl
theorem lawU_c2c2e : lawU (iC 2) (iC 2) (iS 2) = true := by kernel_rfl
theorem lawU_c2s1e : lawU (iC 2) (iS 1) (iS 2) = true := by kernel_rfl
theorem lawU_c3c2e : lawU (iC 3) (iC 2) (iS 2) = true := by kernel_rfl
theorem lawU_c3s1e : lawU (iC 3) (iS 1) (iS 2) = true := by kernel_rfl
theorem lawU_s0c2e : lawU (iS 0) (iC 2) (iS 2) = true := by kernel_rfl
theorem lawU_s0s1e : lawU (iS 0) (iS 1) (iS 2) = true := by kernel_rfl
end Go.Proofs.YtcikcmphnaogbaaDoor
