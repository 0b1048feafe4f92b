/-
  Proved here: what Uint answers.
-/
import Derived.Test.YtcbfhakolfcmgaaSmall
namespace Go.Proofs.Ytcbfhakolfcmgaa
open Go.RowKit

end Go.Proofs.Ytcbfhakolfcmgaa
