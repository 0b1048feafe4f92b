/-
  Proved here: mathematics (no program): two rising lists put together.
-/
import Derived.Test.YtknibmehbplpbaaSetCell
import Derived.Laws.MakeOwn
namespace Go.Proofs.Ytknibmehbplpbaa
open Go.Shelf Go.RowKit Go.Lib Go.Sort
section
variable {α : Type}
theorem filter_snoc (p : α → Bool) {L : List α} {i : Nat} {x : α} (h : L[i]? = some x) : (L.take (i + 1)).filter p = (L.take i).filter p ++ if p x then [x] else [] := by
  rw [take_snoc h, List.filter_append]
  cases e : p x <;> simp [e]
end
end Go.Proofs.Ytknibmehbplpbaa
