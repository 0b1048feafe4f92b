/-
  Proved here: mathematics of a stable sort (no program): one thing merged into a list; two sorted lists parted at two places; what stands where in an array of four lists.
  Proved here: slices.symMergeCmpFunc at int: two sorted lists that follow one another are merged.
  Proved here: slices.symMergeCmpFunc at int: two sorted lists that follow one another are merged.
-/
import Derived.Test.YtphbbkckigdgoaaSortAIAll
import Derived.Shelf.SlSortCmp.Kit1
import Derived.Sort.WalkA
import Derived.Sort.WalkB2
import Derived.Sort.WalkB12
import Derived.Deep.LoopGhost
import Derived.Deep.CutRange
namespace Go.Proofs.Ytphbbkckigdgoaa
open Go.Sort
section
variable {α : Type} [Inhabited α] {le : α → α → Bool}
end
end Go.Proofs.Ytphbbkckigdgoaa

namespace Go.Proofs.Ytphbbkckigdgoaa
open Go.Shelf Go.RowKit Go.Lib Go.Sort
variable {α : Type} [Inhabited α] {enc : α → Value}

end Go.Proofs.Ytphbbkckigdgoaa

namespace Go.Proofs.Ytphbbkckigdgoaa
open Go.Shelf Go.RowKit Go.Lib Go.Sort
variable {α : Type} [Inhabited α] {enc : α → Value}

end Go.Proofs.Ytphbbkckigdgoaa
