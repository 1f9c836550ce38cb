/-
 NUMBERS MODULO L: what curve's and the page's Below answer. Own work.
-/
import Derived.Test.YtheidgcgdkmmiaaDoorLc
namespace Go.Proofs.YtheidgcgdkmmiaaDoor
open Go.Sh
set_option maxRecDepth 100000
end Go.Proofs.YtheidgcgdkmmiaaDoor
