/-
  Proved here: how a walk through a product's values stands in memory.
-/
import Derived.Test.YtphbbkckigdgoaaFacCAll
namespace Go.Proofs.Ytphbbkckigdgoaa
set_option linter.unusedVariables false
open Go.RowKit Go.Shelf Go.Lib Go.Sort
/-- All blocks but two are as they were. -/
structure Gr2 (w w' : World) (a b : Nat) : Prop where
  os : w'.os = w.os
  tape : w'.tape = w.tape
  output : w'.output = w.output
  size : w.heap.size ≤ w'.heap.size
  block : ∀ k, k < w.heap.size → k ≠ a → k ≠ b → w'.heap[k]? = w.heap[k]?
section
variable {w W W' : World} {a b : Nat}
theorem Gr2.drew (h : Gr2 w W a b) : Gr2 w W.drew a b := ⟨h.os, h.tape, h.output, h.size, h.block⟩
theorem Gr2.put (h : Gr2 w W a b) {k : Nat} (hk : w.heap.size ≤ k) (o : Obj) : Gr2 w (W.putObj k o) a b := ⟨h.os, h.tape, h.output, by simpa [World.putObj] using h.size, fun q hq h1 h2 => by rw [World.putObj_heap_other (by omega)]; exact h.block q hq h1 h2⟩
end
section
variable {w : World} {zv : Value} {n : Nat} {L : List Int} {p : Int} {gw gv gs s : Nat} {lo : Loop} {W : World}
end
theorem want_yes {o : Oper} {ys : Nat → Option Bool} {A B : Prop} (hg : o.guard = none) (h : A) : if Region.wanted o ys = true then A else B := by
  rw [if_pos (by simp [Region.wanted, hg])]; exact h
section
variable {W2 : World} {hv uv : Value} {n : Nat} {T : List Int} {p : Int} {h : Nat} {lo : Loop} {W W' : World}
end
end Go.Proofs.Ytphbbkckigdgoaa
