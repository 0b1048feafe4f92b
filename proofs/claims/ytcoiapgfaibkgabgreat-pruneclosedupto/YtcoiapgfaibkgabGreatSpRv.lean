/-
  Proved here: a contract of the library (slices.Reverse) at this program: laid by the shelf's own tool, in its plain mode.
-/
import Derived.Shelf.Slices.Reverse
import Derived.Test.YtcoiapgfaibkgabGreatProg
namespace Go.Proofs.YtcoiapgfaibkgabGreat
end Go.Proofs.YtcoiapgfaibkgabGreat
