/-
  Proved here: plain facts (no program): a box of one cell; strictly rising lists by whatever order: where a thing stands tells whether it is in; what is left of sorting and leaving out rises.
-/
import Derived.Test.YtphbbkckigdgoaaSetCIAll
namespace Go.Proofs.Ytphbbkckigdgoaa
open Go.Shelf Go.RowKit Go.Lib Go.Sort
/-- a box of one cell -/
def SCell (T : TypeId) (w : World) (g : Nat) (v : Value) : Prop := w.heap[g]? = some (.cells #[v] T (0, 0))
section
variable {T : TypeId} {w w' : World} {g : Nat} {v : Value}
theorem SCell.cell (h : SCell T w g v) : w.cell? ⟨g, 0, none⟩ = some v := by rw [cell_of_row w g _ _ _ _ h]; rfl
theorem SCell.lt (h : SCell T w g v) : g < w.heap.size := (Array.getElem?_eq_some_iff.1 h).1
theorem below_drewN {B : Nat} {a w : World} (h : Below B a w) (q : Nat) : Below B a (w.drewN q) :=
  h.trans ⟨(drewN_same w q).1, (drewN_same w q).2.1, (drewN_same w q).2.2, by rw [heap_drewG]; exact Nat.le_refl _, fun k _ => by rw [heap_drewG]⟩
end
section
variable {α : Type}
variable {lt : α → α → Bool}
end
end Go.Proofs.Ytphbbkckigdgoaa
