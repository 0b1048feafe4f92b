/-
  Proved here: what Sub, fresh and Norm answer.
-/
import Derived.Test.YtcbfhakolfcmgaaBlendFn
import Derived.Test.YtcbfhakolfcmgaaFresh
namespace Go.Proofs.Ytcbfhakolfcmgaa
open Go.RowKit


/-- What Sub leaves. -/
def SubEnd (B : Nat) (w : World) (xs : List Nat) (en : Ending) (w' : World) : Prop := ∃ v, en = .returned (.tuple #[v, .bool true]) ∧ Own B 30 w' v xs ∧ Below B w w'

end Go.Proofs.Ytcbfhakolfcmgaa
