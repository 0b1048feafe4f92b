/-
  Proved here: package radix's At at the three types.
  Proved here: a range over a function, in two steps: the call of the iterator, and one round. No condition on what the iterator keeps.
  Proved here: slices.Backward at the three types: its iterator, the rounds given.
-/
import Derived.Test.YtphbbkckigdgoaaRadA
import Derived.RangeFuncKeeps
import Derived.RangeFuncNested
import Derived.RangeFuncBound
import Derived.RangeFuncCalls
import Derived.RangeFuncLeaves
import Derived.RangeFuncBox
import Derived.Shelf.Abstract
import Derived.Shelf.RegionOpen
import Derived.OwnWalkIn
import Derived.TacticsInMore
import Derived.LoopNIn
import Derived.LoopIn
namespace Go.Proofs.Ytphbbkckigdgoaa
open Go.RowKit

end Go.Proofs.Ytphbbkckigdgoaa

namespace Go.Proofs.Ytphbbkckigdgoaa
open Go.RowKit
section
variable {F : Fence} {n : Nat} {P : Program}

end
end Go.Proofs.Ytphbbkckigdgoaa

namespace Go.Proofs.Ytphbbkckigdgoaa
open Go.RowKit Go.Shelf
attribute [local go_sem] Oper.semAt_some

end Go.Proofs.Ytphbbkckigdgoaa
