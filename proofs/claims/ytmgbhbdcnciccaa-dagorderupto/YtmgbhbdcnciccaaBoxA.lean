/-
  Proved here: how tables lie in memory: a box of three cells. No condition.
-/
import Derived.Test.YtmgbhbdcnciccaaRows
import Derived.WalkKit
import Derived.WalkSpells
import Derived.WalkLawsBesides
import Derived.Below
import Derived.BigQuiet
namespace Go.Proofs.Ytmgbhbdcnciccaa
open Go.RowKit
/-- The three cells of a table. -/
def BCell (T : TypeId) (w : World) (g : Nat) (a b c : Value) : Prop := w.heap[g]? = some (.cells #[a, b, c] T (0, 0))
section
variable {T : TypeId} {w w' : World} {g : Nat} {a b c : Value}
theorem BCell.cells (h : BCell T w g a b c) : w.cell? ⟨g, 0, none⟩ = some a ∧ w.cell? ⟨g, 1, none⟩ = some b ∧ w.cell? ⟨g, 2, none⟩ = some c := by
  refine ⟨?_, ?_, ?_⟩ <;> (rw [cell_of_row w g _ _ _ _ h]; rfl)
theorem BCell.thaw (h : BCell T w g a b c) (k : Nat) : w.frozen? ⟨g, k, none⟩ = false := frozen_of_row w g k _ _ h
theorem BCell.lt (h : BCell T w g a b c) : g < w.heap.size := (Array.getElem?_eq_some_iff.1 h).1
theorem BCell.below (h : BCell T w g a b c) (hb : Below w.heap.size w w') : BCell T w' g a b c := by
  unfold BCell; rw [hb.block _ h.lt]; exact h
theorem belowB (w : World) (o : Obj) : Below w.heap.size w (w.alloc o) := (Below.refl _ _).alloc (Nat.le_refl _) o
theorem bstepB {w wr w' : World} (h : Below w.heap.size w wr) (hb : Below wr.heap.size wr w') : Below w.heap.size w w' := h.trans (hb.mono h.size)
theorem BCell.step (h : BCell T w g a b c) (o : Obj) : BCell T (w.alloc o) g a b c := h.below (belowB _ _)
theorem BCell.new (w : World) {k : Nat} (hk : w.heap.size = k) : BCell T (w.alloc (.cells #[a, b, c] T)) k a b c := by subst hk; exact heap_alloc_new w _
theorem BCell.write (h : BCell T w g a b c) (x y z : Value) : BCell T (((w.setCell ⟨g, 0, none⟩ x).setCell ⟨g, 1, none⟩ y).setCell ⟨g, 2, none⟩ z) g x y z := by
  unfold BCell
  have h1 := heap_setCell_same w g 0 _ _ x h
  have h2 := heap_setCell_same _ g 1 _ _ y h1
  have h3 := heap_setCell_same _ g 2 _ _ z h2
  rw [h3]
  rfl
theorem BCell.other (h : BCell T w g a b c) {g' : Nat} (hne : g ≠ g') (k : Nat) (v : Value) : BCell T (w.setCell ⟨g', k, none⟩ v) g a b c := by
  unfold BCell
  rw [heap_setCell_other]
  · exact h
  · exact hne
end
end Go.Proofs.Ytmgbhbdcnciccaa
