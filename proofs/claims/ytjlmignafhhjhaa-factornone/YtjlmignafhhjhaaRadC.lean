/-
  Proved here: slices.Backward at the three types: its iterator, the rounds given.
-/
import Derived.Test.YtjlmignafhhjhaaRadB
import Derived.Test.YtjlmignafhhjhaaLexRange
import Derived.RangeFuncNested
import Derived.RangeFuncBound
import Derived.RangeFuncCalls
import Derived.RangeFuncLeaves
import Derived.RangeFuncBox
import Derived.Shelf.Abstract
import Derived.Shelf.RegionOpen
import Derived.OwnWalkIn
import Derived.TacticsInMore
import Derived.LoopNIn
import Derived.LoopIn
namespace Go.Proofs.Ytjlmignafhhjhaa
open Go.RowKit Go.Shelf
attribute [local go_sem] Oper.semAt_some

end Go.Proofs.Ytjlmignafhhjhaa
