/-
  Proved here: package radix's At at the three types.
-/
import Derived.Test.YtpokgdepopcppaaRadA
namespace Go.Proofs.Ytpokgdepopcppaa
open Go.RowKit

end Go.Proofs.Ytpokgdepopcppaa
