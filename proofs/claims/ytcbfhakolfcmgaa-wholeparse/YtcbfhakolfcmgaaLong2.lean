/-
  Proved here: what divideLong answers.
-/
import Derived.Test.YtcbfhakolfcmgaaLongMem
namespace Go.Proofs.Ytcbfhakolfcmgaa
open Go.RowKit

/-- What divideLong leaves. -/
def LongEnd (w : World) (a b : Nat) (e : Ending) (w' : World) : Prop :=
  ∃ q r, e = .returned (.tuple #[q, r]) ∧ Own w.heap.size 30 w' q (lim (a / b)) ∧ Own w.heap.size 30 w' r (lim (a % b)) ∧ (q.ownBlock = none ∨ q.ownBlock ≠ r.ownBlock) ∧ Below w.heap.size w w'

end Go.Proofs.Ytcbfhakolfcmgaa
