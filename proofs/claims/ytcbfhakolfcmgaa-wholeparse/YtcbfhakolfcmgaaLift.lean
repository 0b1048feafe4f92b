/-
  Proved here: what lift and drop answer.
-/
import Derived.Test.YtcbfhakolfcmgaaMul
import Derived.Test.YtcbfhakolfcmgaaShiftMath
import Derived.Laws.BitsAllLaws
namespace Go.Proofs.Ytcbfhakolfcmgaa
open Go.RowKit

/-- What lift leaves: a row with one limb more than it may need. -/
def LiftEnd (w : World) (L v : Nat) (en : Ending) (w' : World) : Prop :=
  ∃ zs : List Nat, en = .returned (.slice (some ⟨w.heap.size, 0, none⟩) L L) ∧ zs.length = L ∧ Cells w' w.heap.size zs ∧ val zs = v ∧ Below w.heap.size w w'

theorem getD_zeros (n j : Nat) : (List.replicate n 0).getD j 0 = 0 := by rw [List.getD_eq_getElem?_getD, List.getElem?_replicate]; split <;> rfl

theorem or_limbs {x y : Nat} (hx : x < 4294967296) (hy : y < 4294967296) : bits BinOp.or IntKind.u64 (x : Int) ((y : Int) * 4294967296) = ((x + 4294967296 * y : Nat) : Int) := or_high x y hx hy

end Go.Proofs.Ytcbfhakolfcmgaa
