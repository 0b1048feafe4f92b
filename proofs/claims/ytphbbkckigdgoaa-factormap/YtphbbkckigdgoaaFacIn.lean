/-
  Proved here: a table of ints that is handed in by value, opened. No condition.
-/
import Derived.Test.YtphbbkckigdgoaaRadF
import Derived.ProofKit
import Derived.OpenShut
import Derived.ShutString
import Derived.ChangeOld
import Derived.Lib.SmallJoins
namespace Go.Proofs.Ytphbbkckigdgoaa
open Go.ChangeShapes Go.WideShapes Go.ChangeAt Go.RowKit
end Go.Proofs.Ytphbbkckigdgoaa
