/-
  Proved here: package set at int: With, Without.
  Proved here: layer 11's law.go: ints; alive.
  Proved here: plain mathematics of sets held as rising lists. No condition.
  Proved here: a list of ints that was handed in is a row that can be read; the set of a list, told by what is in it.
  Proved here: mathematics (no program): two rising lists put together.
-/
import Derived.Test.YtphbbkckigdgoaaSetCIAll
import Derived.Test.YtphbbkckigdgoaaMathAll
import Derived.Test.YtphbbkckigdgoaaLate3
import Derived.OpenShut
import Derived.Test.YtphbbkckigdgoaaSetCell
import Derived.Laws.MakeOwn
namespace Go.Proofs.Ytphbbkckigdgoaa
open Go.Shelf Go.RowKit Go.Lib Go.Sort
end Go.Proofs.Ytphbbkckigdgoaa

namespace Go.Proofs.Ytphbbkckigdgoaa
open Go.Shelf Go.RowKit Go.Lib Go.Sort

end Go.Proofs.Ytphbbkckigdgoaa

namespace Go.Proofs.Ytphbbkckigdgoaa

end Go.Proofs.Ytphbbkckigdgoaa

namespace Go.Proofs.Ytphbbkckigdgoaa
open Go.Shelf Go.RowKit Go.Lib Go.Sort
end Go.Proofs.Ytphbbkckigdgoaa

namespace Go.Proofs.Ytphbbkckigdgoaa
open Go.Shelf Go.RowKit Go.Lib Go.Sort
section
variable {α : Type}
end
end Go.Proofs.Ytphbbkckigdgoaa
