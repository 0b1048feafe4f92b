/-
  Proved here: how tables lie in memory: a box of three cells. No condition.
-/
import Derived.Test.YtjlmignafhhjhaaRows
import Derived.WalkKit
import Derived.WalkSpells
import Derived.WalkLawsBesides
import Derived.Below
import Derived.BigQuiet
namespace Go.Proofs.Ytjlmignafhhjhaa
open Go.RowKit
/-- The three cells of a table. -/
def BCell (T : TypeId) (w : World) (g : Nat) (a b c : Value) : Prop := w.heap[g]? = some (.cells #[a, b, c] T (0, 0))
section
variable {T : TypeId} {w w' : World} {g : Nat} {a b c : Value}
theorem BCell.cells (h : BCell T w g a b c) : w.cell? ⟨g, 0, none⟩ = some a ∧ w.cell? ⟨g, 1, none⟩ = some b ∧ w.cell? ⟨g, 2, none⟩ = some c := by
  refine ⟨?_, ?_, ?_⟩ <;> (rw [cell_of_row w g _ _ _ _ h]; rfl)
theorem BCell.lt (h : BCell T w g a b c) : g < w.heap.size := (Array.getElem?_eq_some_iff.1 h).1
theorem BCell.below (h : BCell T w g a b c) (hb : Below w.heap.size w w') : BCell T w' g a b c := by
  unfold BCell; rw [hb.block _ h.lt]; exact h
theorem belowB (w : World) (o : Obj) : Below w.heap.size w (w.alloc o) := (Below.refl _ _).alloc (Nat.le_refl _) o
theorem bstepB {w wr w' : World} (h : Below w.heap.size w wr) (hb : Below wr.heap.size wr w') : Below w.heap.size w w' := h.trans (hb.mono h.size)
theorem BCell.step (h : BCell T w g a b c) (o : Obj) : BCell T (w.alloc o) g a b c := h.below (belowB _ _)
theorem BCell.new (w : World) {k : Nat} (hk : w.heap.size = k) : BCell T (w.alloc (.cells #[a, b, c] T)) k a b c := by subst hk; exact heap_alloc_new w _
end
end Go.Proofs.Ytjlmignafhhjhaa
