/-
  Proved here: what strings.TrimLeft answers at the cutset 0.
-/
import Derived.Test.YtcbfhakolfcmgaaParse
namespace Go.Proofs.Ytcbfhakolfcmgaa
open Go.RowKit

/-- What is left of a text without its noughts ahead. -/
def TrimEnd (s : ByteArray) (w : World) (e : Ending) (w' : World) : Prop :=
  ∃ (k : Nat) (r : ByteArray), e = .returned (.string r) ∧ w' = w ∧ k ≤ s.size ∧ r.data.toList = s.data.toList.drop k ∧ (∀ j, j < k → bt s j = 48) ∧ (k < s.size → bt s k ≠ 48)

end Go.Proofs.Ytcbfhakolfcmgaa
