/-
  Proved here: slices.CompactFunc at int, over a row of the call's own: what repeats its forerunner is left out.
  Proved here: mathematics (no program): where a thing stands in a sorted list; two lists held against each other; rows of rows.
  Proved here: slices.Grow of nothing and slices.Concat at int.
  Proved here: slices.BinarySearch and slices.EqualFunc at int, over rows that can be read.
-/
import Derived.Test.YtphbbkckigdgoaaSetAI
import Derived.Test.YtphbbkckigdgoaaSetCpt
import Derived.Shelf.Spec.SlicesGrow
namespace Go.Proofs.Ytphbbkckigdgoaa
open Go.Shelf Go.RowKit Go.Lib Go.Sort
end Go.Proofs.Ytphbbkckigdgoaa

namespace Go.Proofs.Ytphbbkckigdgoaa
open Go.Shelf Go.RowKit Go.Lib Go.Sort
section
variable {α : Type}
end
section
variable {α : Type} {enc : α → Value}
end
end Go.Proofs.Ytphbbkckigdgoaa

namespace Go.Proofs.Ytphbbkckigdgoaa
open Go.Shelf Go.RowKit Go.Lib Go.Sort
end Go.Proofs.Ytphbbkckigdgoaa

namespace Go.Proofs.Ytphbbkckigdgoaa
open Go.Shelf Go.RowKit Go.Lib Go.Sort
end Go.Proofs.Ytphbbkckigdgoaa
