/-
  Proved here: package set at int: Join.
-/
import Derived.Test.YtknibmehbplpbaaSetGI
import Derived.Test.YtknibmehbplpbaaSetFI
namespace Go.Proofs.Ytknibmehbplpbaa
open Go.Shelf Go.RowKit Go.Lib Go.Sort
end Go.Proofs.Ytknibmehbplpbaa
