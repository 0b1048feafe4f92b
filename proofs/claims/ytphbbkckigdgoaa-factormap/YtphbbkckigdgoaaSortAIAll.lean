/-
  Proved here: mathematics of a stable sort (no program): what an exchange of two ranges leaves, place by place; what a turn is.
  Proved here: slices.swapRangeCmpFunc and slices.rotateCmpFunc at int.
-/
import Derived.Test.YtphbbkckigdgoaaSortMathAll
import Derived.Shelf.SlSortCmp.Kit1
import Derived.Sort.WalkA
import Derived.Sort.WalkB2
import Derived.Sort.WalkB12
import Derived.Deep.LoopGhost
import Derived.Test.YtphbbkckigdgoaaProg
namespace Go.Proofs.Ytphbbkckigdgoaa
open Go.Sort
section
variable {α : Type}
end
section
variable {α : Type} [Inhabited α]
end
end Go.Proofs.Ytphbbkckigdgoaa

namespace Go.Proofs.Ytphbbkckigdgoaa
open Go.Shelf Go.RowKit Go.Lib Go.Sort
variable {α : Type} [Inhabited α] {enc : α → Value}

end Go.Proofs.Ytphbbkckigdgoaa
