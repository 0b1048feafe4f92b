/-
  Proved here: what blend answers.
-/
import Derived.Test.YtcbfhakolfcmgaaBlend
namespace Go.Proofs.Ytcbfhakolfcmgaa
open Go.RowKit

end Go.Proofs.Ytcbfhakolfcmgaa
